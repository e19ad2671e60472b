/-
  IMAGES IN MEMORY: where an image's slices lie, and what they hold; has, bounds. Own work.
-/
import Derived.Test.YtaeblnlbelebkaaGreatDoorCoEffect
import Derived.Test.YtaeblnlbelebkaaGreatDoorLinCheck
import Derived.Test.YtaeblnlbelebkaaGreatDoorImSem
namespace Go.Proofs.YtaeblnlbelebkaaGreatDoor
namespace Im
open Go.RowKit Go
open Co (Kp ret_int ret_bool ret2_int In in0 IIn Ics Wf)
open Ln (VIn Vcs)
set_option linter.unusedVariables false

/-- Behind an allocation and what keeps: old cells, and the new block's. -/
theorem old_alloc {w w' : World} {cs : Array Value} {t : TypeId} (k : Kp (w.alloc (.cells cs t)) w') {b o : Nat} {v : Value} (h : w.cell? ⟨b, o, none⟩ = some v) : w'.cell? ⟨b, o, none⟩ = some v :=
  ((((Kp.refl w).alloc cs t).trans k).cells b o (World.block_lt_of_cell? w _ h)).trans h
theorem new_alloc {w w' : World} {cs : Array Value} {t : TypeId} (k : Kp (w.alloc (.cells cs t)) w') (o : Nat) : w'.cell? ⟨w.heap.size, o, none⟩ = cs[o]? :=
  (k.cells w.heap.size o (by simp)).trans (by simp)
theorem lt_alloc {w w' : World} {cs : Array Value} {t : TypeId} (k : Kp (w.alloc (.cells cs t)) w') : w.heap.size < w'.heap.size := Co.size_alloc k
/-- Instructions in memory. -/
structure Ccs (w : World) (b off : Nat) (l : List In) : Prop where
  size : b < w.heap.size
  o : ∀ i, i < l.length → w.cell? ⟨b, off + i * 4, none⟩ = some (.int .i64 (l.getD i in0).op)
  a : ∀ i, i < l.length → w.cell? ⟨b, off + i * 4 + 1, none⟩ = some (.int .i64 (l.getD i in0).a)
  b' : ∀ i, i < l.length → w.cell? ⟨b, off + i * 4 + 2, none⟩ = some (.int .i64 (l.getD i in0).b)
  c : ∀ i, i < l.length → w.cell? ⟨b, off + i * 4 + 3, none⟩ = some (.int .i64 (l.getD i in0).c)
/-- Functions in memory. -/
structure Fcs (w : World) (b off : Nat) (l : List Fn) : Prop where
  size : b < w.heap.size
  e : ∀ i, i < l.length → w.cell? ⟨b, off + i * 3, none⟩ = some (.int .i64 (l.getD i f0).e)
  p : ∀ i, i < l.length → w.cell? ⟨b, off + i * 3 + 1, none⟩ = some (.int .i64 (l.getD i f0).p)
  l' : ∀ i, i < l.length → w.cell? ⟨b, off + i * 3 + 2, none⟩ = some (.int .i64 (l.getD i f0).l)
/-- Ports in memory. -/
structure Pcs (w : World) (b off : Nat) (l : List Pt) : Prop where
  size : b < w.heap.size
  r : ∀ i, i < l.length → w.cell? ⟨b, off + i * 2, none⟩ = some (.bool (l.getD i p0).r)
  w' : ∀ i, i < l.length → w.cell? ⟨b, off + i * 2 + 1, none⟩ = some (.bool (l.getD i p0).w)
/-- Words in memory. -/
structure Ucs (w : World) (b off : Nat) (l : List Int) : Prop where
  size : b < w.heap.size
  at' : ∀ i, i < l.length → w.cell? ⟨b, off + i, none⟩ = some (.int .u32 (l.getD i 0))
/-- Lists of numbers in memory. -/
structure Acs (w : World) (b off : Nat) (l : List (List Int)) : Prop where
  size : b < w.heap.size
  at' : ∀ i, i < l.length → ∃ ao cap, w.cell? ⟨b, off + i, none⟩ = some (.slice ao (l.getD i []).length cap) ∧ IIn w ao (fun j => (l.getD i []).getD j 0) (l.getD i []).length
def CIn (w : World) (ao : Option Addr) (l : List In) : Prop := l.length = 0 ∨ ∃ b off, ao = some ⟨b, off, none⟩ ∧ Ccs w b off l
def FIn (w : World) (ao : Option Addr) (l : List Fn) : Prop := l.length = 0 ∨ ∃ b off, ao = some ⟨b, off, none⟩ ∧ Fcs w b off l
def PIn (w : World) (ao : Option Addr) (l : List Pt) : Prop := l.length = 0 ∨ ∃ b off, ao = some ⟨b, off, none⟩ ∧ Pcs w b off l
def UIn (w : World) (ao : Option Addr) (l : List Int) : Prop := l.length = 0 ∨ ∃ b off, ao = some ⟨b, off, none⟩ ∧ Ucs w b off l
def AIn (w : World) (ao : Option Addr) (l : List (List Int)) : Prop := l.length = 0 ∨ ∃ b off, ao = some ⟨b, off, none⟩ ∧ Acs w b off l
theorem Ccs.kp {w w' : World} {b off : Nat} {l : List In} (h : Ccs w b off l) (k : Kp w w') : Ccs w' b off l :=
  ⟨Nat.lt_of_lt_of_le h.size k.size, fun i hi => (k.cells _ _ h.size).trans (h.o i hi), fun i hi => (k.cells _ _ h.size).trans (h.a i hi), fun i hi => (k.cells _ _ h.size).trans (h.b' i hi), fun i hi => (k.cells _ _ h.size).trans (h.c i hi)⟩
theorem Fcs.kp {w w' : World} {b off : Nat} {l : List Fn} (h : Fcs w b off l) (k : Kp w w') : Fcs w' b off l :=
  ⟨Nat.lt_of_lt_of_le h.size k.size, fun i hi => (k.cells _ _ h.size).trans (h.e i hi), fun i hi => (k.cells _ _ h.size).trans (h.p i hi), fun i hi => (k.cells _ _ h.size).trans (h.l' i hi)⟩
theorem Pcs.kp {w w' : World} {b off : Nat} {l : List Pt} (h : Pcs w b off l) (k : Kp w w') : Pcs w' b off l :=
  ⟨Nat.lt_of_lt_of_le h.size k.size, fun i hi => (k.cells _ _ h.size).trans (h.r i hi), fun i hi => (k.cells _ _ h.size).trans (h.w' i hi)⟩
theorem Ucs.kp {w w' : World} {b off : Nat} {l : List Int} (h : Ucs w b off l) (k : Kp w w') : Ucs w' b off l :=
  ⟨Nat.lt_of_lt_of_le h.size k.size, fun i hi => (k.cells _ _ h.size).trans (h.at' i hi)⟩
theorem Acs.kp {w w' : World} {b off : Nat} {l : List (List Int)} (h : Acs w b off l) (k : Kp w w') : Acs w' b off l :=
  ⟨Nat.lt_of_lt_of_le h.size k.size, fun i hi => by
    obtain ⟨ao, cap, h1, h2⟩ := h.at' i hi
    exact ⟨ao, cap, (k.cells _ _ h.size).trans h1, h2.kp k⟩⟩
theorem CIn.kp {w w' : World} {ao : Option Addr} {l : List In} (h : CIn w ao l) (k : Kp w w') : CIn w' ao l := h.imp id fun ⟨b, off, e, g⟩ => ⟨b, off, e, g.kp k⟩
theorem FIn.kp {w w' : World} {ao : Option Addr} {l : List Fn} (h : FIn w ao l) (k : Kp w w') : FIn w' ao l := h.imp id fun ⟨b, off, e, g⟩ => ⟨b, off, e, g.kp k⟩
theorem PIn.kp {w w' : World} {ao : Option Addr} {l : List Pt} (h : PIn w ao l) (k : Kp w w') : PIn w' ao l := h.imp id fun ⟨b, off, e, g⟩ => ⟨b, off, e, g.kp k⟩
theorem UIn.kp {w w' : World} {ao : Option Addr} {l : List Int} (h : UIn w ao l) (k : Kp w w') : UIn w' ao l := h.imp id fun ⟨b, off, e, g⟩ => ⟨b, off, e, g.kp k⟩
theorem AIn.kp {w w' : World} {ao : Option Addr} {l : List (List Int)} (h : AIn w ao l) (k : Kp w w') : AIn w' ao l := h.imp id fun ⟨b, off, e, g⟩ => ⟨b, off, e, g.kp k⟩
theorem CIn.at {w : World} {ao : Option Addr} {l : List In} (h : CIn w ao l) {i : Nat} (hi : i < l.length) : ∃ b off, ao = some ⟨b, off, none⟩ ∧ Ccs w b off l := h.elim (fun e => by omega) id
theorem FIn.at {w : World} {ao : Option Addr} {l : List Fn} (h : FIn w ao l) {i : Nat} (hi : i < l.length) : ∃ b off, ao = some ⟨b, off, none⟩ ∧ Fcs w b off l := h.elim (fun e => by omega) id
theorem PIn.at {w : World} {ao : Option Addr} {l : List Pt} (h : PIn w ao l) {i : Nat} (hi : i < l.length) : ∃ b off, ao = some ⟨b, off, none⟩ ∧ Pcs w b off l := h.elim (fun e => by omega) id
theorem UIn.at {w : World} {ao : Option Addr} {l : List Int} (h : UIn w ao l) {i : Nat} (hi : i < l.length) : ∃ b off, ao = some ⟨b, off, none⟩ ∧ Ucs w b off l := h.elim (fun e => by omega) id
theorem AIn.at {w : World} {ao : Option Addr} {l : List (List Int)} (h : AIn w ao l) {i : Nat} (hi : i < l.length) : ∃ b off, ao = some ⟨b, off, none⟩ ∧ Acs w b off l := h.elim (fun e => by omega) id
theorem IIn.at {w : World} {ao : Option Addr} {xs : Nat → Int} {n : Nat} (h : IIn w ao xs n) {i : Nat} (hi : i < n) : ∃ b off, ao = some ⟨b, off, none⟩ ∧ Ics w b off xs n := h.elim (fun e => by omega) id

/-- Where an image's slices lie. -/
structure Hd where
  aC : Option Addr
  cC : Nat
  aF : Option Addr
  cF : Nat
  aV : Option Addr
  cV : Nat
  aI : Option Addr
  cI : Nat
  aP : Option Addr
  cP : Nat
  aA : Option Addr
  cA : Nat
/-- An image as a value. -/
def Hd.val (h : Hd) (m : Im) : Value := .agg #[.slice h.aC m.code.length h.cC, .slice h.aF m.funcs.length h.cF, .slice h.aV m.vecs.length h.cV, .int .i64 m.main, .slice h.aI m.init.length h.cI, .slice h.aP m.ports.length h.cP, .int .i64 m.stack, .slice h.aA m.atoms.length h.cA]
def Hd.cells (h : Hd) (m : Im) : Array Value := #[.slice h.aC m.code.length h.cC, .slice h.aF m.funcs.length h.cF, .slice h.aV m.vecs.length h.cV, .int .i64 m.main, .slice h.aI m.init.length h.cI, .slice h.aP m.ports.length h.cP, .int .i64 m.stack, .slice h.aA m.atoms.length h.cA]
structure ImIn (w : World) (h : Hd) (m : Im) : Prop where
  code : CIn w h.aC m.code
  funcs : FIn w h.aF m.funcs
  vecs : VIn w h.aV m.vec m.vecs.length
  init : UIn w h.aI m.init
  ports : PIn w h.aP m.ports
  atoms : AIn w h.aA m.atoms
  cap : m.code.length ≤ h.cC
  capm : h.cC ≤ 9223372036854775807
theorem ImIn.kp {w w' : World} {h : Hd} {m : Im} (i : ImIn w h m) (k : Kp w w') : ImIn w' h m :=
  ⟨i.code.kp k, i.funcs.kp k, VIn.kp i.vecs k, i.init.kp k, i.ports.kp k, i.atoms.kp k, i.cap, i.capm⟩
/-- Lengths and numbers that the machine has. -/
structure ImWf (m : Im) : Prop where
  nC : m.code.length ≤ 9223372036854775807
  nF : m.funcs.length ≤ 9223372036854775807
  nV : m.vecs.length ≤ 9223372036854775807
  nI : m.init.length ≤ 9223372036854775807
  nP : m.ports.length ≤ 9223372036854775807
  nA : m.atoms.length ≤ 9223372036854775807
  nL : ∀ k, (m.at' k).length ≤ 9223372036854775807
  code : ∀ i, Wf (m.ins i)
  init : ∀ i, 0 ≤ m.init.getD i 0 ∧ m.init.getD i 0 ≤ 4294967295
/-- An image behind a pointer. -/
structure Ptr (w : World) (p : Nat) (h : Hd) (m : Im) : Prop where
  size : p < w.heap.size
  c0 : w.cell? ⟨p, 0, none⟩ = some (.slice h.aC m.code.length h.cC)
  c1 : w.cell? ⟨p, 1, none⟩ = some (.slice h.aF m.funcs.length h.cF)
  c2 : w.cell? ⟨p, 2, none⟩ = some (.slice h.aV m.vecs.length h.cV)
  c3 : w.cell? ⟨p, 3, none⟩ = some (.int .i64 m.main)
  c4 : w.cell? ⟨p, 4, none⟩ = some (.slice h.aI m.init.length h.cI)
  c5 : w.cell? ⟨p, 5, none⟩ = some (.slice h.aP m.ports.length h.cP)
  c6 : w.cell? ⟨p, 6, none⟩ = some (.int .i64 m.stack)
  c7 : w.cell? ⟨p, 7, none⟩ = some (.slice h.aA m.atoms.length h.cA)
  in' : ImIn w h m
theorem Ptr.kp {w w' : World} {p : Nat} {h : Hd} {m : Im} (i : Ptr w p h m) (k : Kp w w') : Ptr w' p h m :=
  have f := fun (o : Nat) => k.cells p o i.size
  ⟨Nat.lt_of_lt_of_le i.size k.size, (f 0).trans i.c0, (f 1).trans i.c1, (f 2).trans i.c2, (f 3).trans i.c3, (f 4).trans i.c4, (f 5).trans i.c5, (f 6).trans i.c6, (f 7).trans i.c7, i.in'.kp k⟩
theorem Ptr.new {w : World} {h : Hd} {m : Im} (i : ImIn w h m) : Ptr (w.alloc (.cells #[.slice h.aC m.code.length h.cC, .slice h.aF m.funcs.length h.cF, .slice h.aV m.vecs.length h.cV, .int .i64 m.main, .slice h.aI m.init.length h.cI, .slice h.aP m.ports.length h.cP, .int .i64 m.stack, .slice h.aA m.atoms.length h.cA] 29)) w.heap.size h m :=
  ⟨by simp, by simp, by simp, by simp, by simp, by simp, by simp, by simp, by simp, i.kp ((Kp.refl w).alloc _ _)⟩

theorem has_F (ao : Option Addr) (n cap : Nat) (i : Int) (w : World) (b : Bool) (hb : decide (0 ≤ i ∧ i < n) = b) :
    Calls Tryz.prog 51 #[.slice ao n cap, .int .i64 i] w fun e w' => e = .returned (.bool b) ∧ w = w' := by
  have H := Lib.hid hb
  clear hb
  by_cases h : 0 ≤ i
  all_goals
    go_enter Tryz.func51, Tryz.ntmps51
    go_wp2
    go_ret
    exact ⟨ret_bool (by rw [← H.out]; simp [h] <;> omega), rfl⟩
theorem has_U (ao : Option Addr) (n cap : Nat) (i : Int) (w : World) (b : Bool) (hb : decide (0 ≤ i ∧ i < n) = b) :
    Calls Tryz.prog 104 #[.slice ao n cap, .int .i64 i] w fun e w' => e = .returned (.bool b) ∧ w = w' := by
  have H := Lib.hid hb
  clear hb
  by_cases h : 0 ≤ i
  all_goals
    go_enter Tryz.func104, Tryz.ntmps104
    go_wp2
    go_ret
    exact ⟨ret_bool (by rw [← H.out]; simp [h] <;> omega), rfl⟩
theorem has_P (ao : Option Addr) (n cap : Nat) (i : Int) (w : World) (b : Bool) (hb : decide (0 ≤ i ∧ i < n) = b) :
    Calls Tryz.prog 118 #[.slice ao n cap, .int .i64 i] w fun e w' => e = .returned (.bool b) ∧ w = w' := by
  have H := Lib.hid hb
  clear hb
  by_cases h : 0 ≤ i
  all_goals
    go_enter Tryz.func118, Tryz.ntmps118
    go_wp2
    go_ret
    exact ⟨ret_bool (by rw [← H.out]; simp [h] <;> omega), rfl⟩
theorem has_A (ao : Option Addr) (n cap : Nat) (i : Int) (w : World) (b : Bool) (hb : decide (0 ≤ i ∧ i < n) = b) :
    Calls Tryz.prog 119 #[.slice ao n cap, .int .i64 i] w fun e w' => e = .returned (.bool b) ∧ w = w' := by
  have H := Lib.hid hb
  clear hb
  by_cases h : 0 ≤ i
  all_goals
    go_enter Tryz.func119, Tryz.ntmps119
    go_wp2
    go_ret
    exact ⟨ret_bool (by rw [← H.out]; simp [h] <;> omega), rfl⟩

/-- bounds: where the code of a function begins and ends. -/
theorem bounds_any {w : World} {p : Nat} {h : Hd} {m : Im} (hP : Ptr w p h m) (hW : ImWf m) (f : Nat) (hf : f < m.funcs.length) (a b : Int) (ha : m.fr f = a) (hb : m.to f = b) :
    Calls Tryz.prog 49 #[.pointer (some ⟨p, 0, none⟩), .int .i64 f] w fun e w' => e = .returned (.tuple #[.int .i64 a, .int .i64 b]) ∧ w = w' := by
  obtain ⟨bF, oF, hao, hF⟩ := hP.in'.funcs.at hf
  have hn := hW.nF
  have c0 := hP.c0
  have c1 := hP.c1
  rw [hao] at c1
  have ce : w.cell? ⟨bF, oF + f * 3, none⟩ = some (.int .i64 a) := by rw [hF.e f hf, ← ha]; rfl
  by_cases hl : f + 1 < m.funcs.length
  · have ce1 : w.cell? ⟨bF, oF + (f + 1) * 3, none⟩ = some (.int .i64 b) := by rw [hF.e (f + 1) hl, ← hb, to_next hl]; rfl
    have hB : decide ((0 : Int) ≤ (f : Int) + 1 ∧ (f : Int) + 1 < m.funcs.length) = true := by simp; omega
    have HB := Lib.hid hB
    clear ha hb hao hB hP hF
    go_enter Tryz.func49, Tryz.ntmps49
    go_wp2_with (go_at_call 51; refine (has_F _ _ _ _ _ true HB.out).mono ?_; rintro e w1 ⟨rfl, rfl⟩)
    go_ret2
    exact ⟨rfl, rfl⟩
  · have eb : (m.code.length : Int) = b := by rw [← hb, to_last hl]
    have hB : decide ((0 : Int) ≤ (f : Int) + 1 ∧ (f : Int) + 1 < m.funcs.length) = false := by simp; omega
    have HB := Lib.hid hB
    have EB := Lib.hid eb
    clear ha hb hao hB hP hF eb
    go_enter Tryz.func49, Tryz.ntmps49
    go_wp2_with (go_at_call 51; refine (has_F _ _ _ _ _ false HB.out).mono ?_; rintro e w1 ⟨rfl, rfl⟩)
    go_ret2
    exact ⟨ret2_int rfl EB.out, rfl⟩
end Im
end Go.Proofs.YtaeblnlbelebkaaGreatDoor
