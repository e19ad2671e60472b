/-
  WALKS: package lex, the reader in memory: rest, column. Own work.
-/
import Derived.Test.YtlgkcjhoaecekaaDoorLxFn
import Derived.Deep.RegionHeld3
import Derived.Deep.RegionWith
import Derived.Deep.AppendLies
namespace Go.Proofs.YtlgkcjhoaecekaaDoor
namespace Lx
open Go.RowKit Go
set_option linter.unusedVariables false

/-- A token's cells. -/
def celK (t : Tk) : List Value := [.int .i64 t.k, .string (bytesOf t.t), .int .i64 t.l, .int .i64 t.c, .int .u32 t.n]
/-- A reader: the source, the set of keywords, where it is, what it has found. -/
structure St where
  src : List UInt8
  M : Nat
  a : Nat
  l : Int
  st : Int
  ts : List Tk
  fe : Int
  fl : Int
  fc : Int
structure RdIn (w : World) (R : Nat) (s : St) (f tv : Value) : Prop where
  size : R < w.heap.size
  c0 : w.cell? ⟨R, 0, none⟩ = some f
  c1 : w.cell? ⟨R, 1, none⟩ = some (.string (bytesOf s.src))
  c2 : w.cell? ⟨R, 2, none⟩ = some (.map (some s.M))
  c3 : w.cell? ⟨R, 3, none⟩ = some (.int .i64 s.a)
  c4 : w.cell? ⟨R, 4, none⟩ = some (.int .i64 s.l)
  c5 : w.cell? ⟨R, 5, none⟩ = some (.int .i64 s.st)
  c6 : w.cell? ⟨R, 6, none⟩ = some tv
  c7 : w.cell? ⟨R, 7, none⟩ = some (.int .i64 s.fe)
  c8 : w.cell? ⟨R, 8, none⟩ = some (.int .i64 s.fl)
  c9 : w.cell? ⟨R, 9, none⟩ = some (.int .i64 s.fc)
  fro : ∀ o, w.frozen? ⟨R, o, none⟩ = false
  own : w.ownsRow (R + 1) 33 5 tv s.ts.length (s.ts.flatMap celK)
  map : MapU w s.M 21 (fun x => keyL.contains x)
  mlt : s.M < R
/-- Lengths and numbers stay small. -/
structure StOk (s : St) : Prop where
  n : s.src.length ≤ 65536
  a : s.a ≤ s.src.length
  l1 : 1 ≤ s.l
  l2 : s.l ≤ 1 + s.a
  st0 : 0 ≤ s.st
  st1 : s.st ≤ s.a
  ts : s.ts.length ≤ s.a
theorem own_kp {w w' : World} {base : Nat} {e : TypeId} {size : Nat} {v : Value} {n : Nat} {xs : List Value} (h : w.ownsRow base e size v n xs) (k : Kp w w') : w'.ownsRow base e size v n xs := by
  refine ⟨h.1, ?_⟩
  rcases h.2 with h2 | ⟨g, cap, cur, hv, hg, hb, r⟩
  · exact .inl h2
  · refine .inr ⟨g, cap, cur, hv, hg, ?_, r⟩
    have hlt : g < w.heap.size := (Array.getElem?_eq_some_iff.1 hb).1
    exact (k.below.block g hlt).trans hb
theorem RdIn.kp {w w' : World} {R : Nat} {s : St} {f tv : Value} (h : RdIn w R s f tv) (k : Kp w w') : RdIn w' R s f tv :=
  have c := fun (o : Nat) => k.cells R o h.size
  ⟨Nat.lt_of_lt_of_le h.size k.size, (c 0).trans h.c0, (c 1).trans h.c1, (c 2).trans h.c2, (c 3).trans h.c3, (c 4).trans h.c4, (c 5).trans h.c5, (c 6).trans h.c6, (c 7).trans h.c7, (c 8).trans h.c8, (c 9).trans h.c9, fun o => (k.fros R o h.size).trans (h.fro o), own_kp h.own k, h.map.kp k, h.mlt⟩
theorem ext_ab (s : List UInt8) (a b : Nat) : (bytesOf s).extract a b = bytesOf ((s.drop a).take (b - a)) := by
  apply ByteArray.ext
  rw [ByteArray.data_extract]
  apply Array.ext'
  simp only [bytesOf, Array.toList_extract, List.extract]
theorem ext_end (s : List UInt8) (a : Nat) : (bytesOf s).extract a (bytesOf s).size = bytesOf (s.drop a) := by
  rw [ext_ab, bytesOf_size, List.take_of_length_le (by rw [List.length_drop]; omega)]
theorem rest_any {w : World} {R : Nat} {s : St} {f tv : Value} (h : RdIn w R s f tv) (hs : StOk s) (t : List UInt8) (ht : s.src.drop s.a = t) :
    Calls Tryd.prog 33 #[.pointer (some ⟨R, 0, none⟩)] w fun e w' => e = .returned (.string (bytesOf t)) ∧ Kp w w' := by
  have c1 := h.c1
  have c3 := h.c3
  have hz := h.size
  have h1 : (s.a : Int) ≤ ((bytesOf s.src).size : Int) := by rw [bytesOf_size]; have := hs.a; omega
  have h2 : ((bytesOf s.src).size : Int) ≤ 65536 := by rw [bytesOf_size]; have := hs.n; omega
  have h0 : (0 : Int) ≤ (s.a : Int) := by omega
  have HT := Lib.hid ht
  clear h hs ht
  generalize s.a = a at *
  generalize s.src = src at *
  go_enter Tryd.func33, Tryd.ntmps33
  go_wp2_with fail
  go_quiet (fail)
  go_wp2
  go_ret
  exact ⟨ret_str (by rw [ext_end, HT.out]), (Kp.refl w).drewN _⟩
theorem column_any {w : World} {R : Nat} {s : St} {f tv : Value} (h : RdIn w R s f tv) (hs : StOk s) (c : Int) (hc : (s.a : Int) - s.st + 1 = c) :
    Calls Tryd.prog 67 #[.pointer (some ⟨R, 0, none⟩)] w fun e w' => e = .returned (.int .i64 c) ∧ Kp w w' := by
  have c5 := h.c5
  have c3 := h.c3
  have hz := h.size
  have h1 : (s.a : Int) ≤ 65536 := by have := hs.a; have := hs.n; omega
  have h2 : s.st ≤ (s.a : Int) := hs.st1
  have h0 : 0 ≤ s.st := hs.st0
  have HT := Lib.hid hc
  clear h hs hc
  generalize s.a = a at *
  generalize s.st = st at *
  go_enter Tryd.func67, Tryd.ntmps67
  go_wp2_with fail
  go_quiet (fail)
  go_wp2
  go_ret
  exact ⟨ret_int HT.out, (Kp.refl w).drewN _⟩
end Lx
end Go.Proofs.YtlgkcjhoaecekaaDoor
