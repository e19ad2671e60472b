/-
  WALKS: package ast: CheckExpr. Own work.
-/
import Derived.Test.YtbedcplkcaanhaaAsCheck
namespace Go.Proofs.Ytbedcplkcaanhaa
namespace As
open Go.RowKit Go Rg Go.Shelf
set_option linter.unusedVariables false

/-- A function value over one list that lies in memory. -/
theorem seqs_list {w5 : World} {N a B1 B2 b : Nat} {ao : Option Addr} {cap : Nat} {l : List Nd} (hk : Nds w5 N ao l) (hl : l.length ≤ 9223372036854775807) (hN : N ≤ w5.heap.size)
    (c1 : w5.cell? ⟨b, 0, none⟩ = some (.slice ao l.length cap)) (c2 : w5.cell? ⟨B2, 0, none⟩ = some (.func (.func 74) #[] #[]))
    (c3 : w5.cell? ⟨B1, 0, none⟩ = some (.slice (some ⟨b, 0, none⟩) 1 1)) :
    SeqB encN w5 [b, B2, B1] (.func (.func 84) #[] #[.pointer (some ⟨B1, 0, none⟩), .pointer (some ⟨B2, 0, none⟩)]) N l := by
  have HE : l = flatL [⟨ao, cap, l⟩] := by simp [flatL]
  have z1 := World.block_lt_of_cell? w5 _ c1
  have z2 := World.block_lt_of_cell? w5 _ c2
  have z3 := World.block_lt_of_cell? w5 _ c3
  dsimp only at z1 z2 z3
  refine ⟨_, _, rfl, fun args W => by kernel_rfl, fun b hb => ?_, fun W bW => ?_⟩
  · simp only [List.mem_cons, List.not_mem_nil, or_false] at hb
    omega
  · rw [HE]
    have kW : Nds W N ao l := hk.keep (V := fun _ => False) (Keep.of bW) (fun b hb => hb.elim)
    have hs := bW.size
    refine each_ex (cap := 1) (off := 0) (b := b) (by omega) ?_ ?_ (by omega) (by omega) ⟨by omega, ?_, ?_, ?_⟩ (by simp) (by simp) (by simp) (.inl (by simp))
    · exact (bW.cell z3).trans c3
    · exact (bW.cell z2).trans c2
    · intro i hi
      obtain rfl : i = 0 := by simpa using hi
      exact (bW.cell z1).trans c1
    · intro i hi
      obtain rfl : i = 0 := by simpa using hi
      exact kW
    · intro i hi
      obtain rfl : i = 0 := by simpa using hi
      exact hl
theorem lists_any (ao : Option Addr) (n cap : Nat) (w : World) : Calls Try.prog 50 #[.slice ao n cap] w fun r w' =>
    r = .returned (.func (.func 84) #[] #[.pointer (some ⟨w.heap.size + 1, 0, none⟩), .pointer (some ⟨w.heap.size, 0, none⟩)]) ∧ Below w.heap.size w w' ∧
      w'.cell? ⟨w.heap.size + 1, 0, none⟩ = some (.slice ao n cap) ∧ w'.cell? ⟨w.heap.size, 0, none⟩ = some (.func (.func 74) #[] #[]) := by
  go_enter Try.func50, Try.ntmps50
  go_wp2
  refine bodyPost_ret (v := .func (.func 84) #[] #[.pointer (some ⟨w.heap.size + 1, 0, none⟩), .pointer (some ⟨w.heap.size, 0, none⟩)]) (by simp [results, Try.results50, go_sem]) rfl ⟨rfl, ?_, ?_, ?_⟩
  · exact ((Below.refl _ w).alloc (Nat.le_refl _) _).alloc (by simp) _
  · go_simp
  · go_simp
theorem row_one {w w5 : World} {e : Nd} {N R : Nat} (b : Below w.heap.size w w5) (hN : N ≤ w.heap.size) (hR : w.heap.size ≤ R) (hk : Nds w N e.ao e.kids) (hc : e.kids.length ≤ e.cap ∧ e.cap ≤ 9223372036854775807)
    (e0 : w5.cell? ⟨R, 0, none⟩ = some (.int .i64 e.k)) (e1 : w5.cell? ⟨R, 1, none⟩ = some (.int .i64 e.o)) (e2 : w5.cell? ⟨R, 2, none⟩ = some (.int .i64 e.t)) (e3 : w5.cell? ⟨R, 3, none⟩ = some (.int .u32 e.n)) (e4 : w5.cell? ⟨R, 4, none⟩ = some (.string (bytesOf e.nm))) (e5 : w5.cell? ⟨R, 5, none⟩ = some (.slice e.ao e.kids.length e.cap)) : Nds w5 (R + 1) (some ⟨R, 0, none⟩) [e] := by
  have hz := World.block_lt_of_cell? w5 _ e0
  refine .some R 0 [e] (by omega) hz ?_ ?_ ?_
  · intro i j hi hj
    obtain rfl : i = 0 := by simpa using hi
    rcases (by omega : j = 0 ∨ j = 1 ∨ j = 2 ∨ j = 3 ∨ j = 4 ∨ j = 5) with rfl | rfl | rfl | rfl | rfl | rfl
    · exact e0
    · exact e1
    · exact e2
    · exact e3
    · exact e4
    · exact e5
  · intro i hi
    obtain rfl : i = 0 := by simpa using hi
    exact hc
  · intro i hi
    obtain rfl : i = 0 := by simpa using hi
    exact (hk.keep (V := fun _ => False) (Keep.of b) (fun _ h => h.elim)).wide (by omega)
theorem one_list {w5 : World} {e : Nd} {R : Nat} (hk : Nds w5 (R + 1) (some ⟨R, 0, none⟩) [e]) {B1 B2 b : Nat} (hR : R < w5.heap.size) (hd : (1 : Int) + htF [e] ≤ 9223372036854775807)
    (c1 : w5.cell? ⟨b, 0, none⟩ = some (.slice (some ⟨R, 0, none⟩) 1 1)) (c2 : w5.cell? ⟨B2, 0, none⟩ = some (.func (.func 74) #[] #[])) (c3 : w5.cell? ⟨B1, 0, none⟩ = some (.slice (some ⟨b, 0, none⟩) 1 1)) :
    Calls Try.prog 49 #[.func (.func 84) #[] #[.pointer (some ⟨B1, 0, none⟩), .pointer (some ⟨B2, 0, none⟩)], .int .i64 1] w5
      fun r w' => ∃ v, r = .returned v ∧ Below w5.heap.size w5 w' ∧ ∃ bs, SeqB encD w' bs v (R + 1) (flatF 1 [e]) :=
  (walk_any (by decide) hd (seqs_list (a := 0) (cap := 1) (l := [e]) hk (by simp) hR c1 c2 c3) hk.trees hR).mono (fun r w' ⟨v, h1, h2, _, h4⟩ => ⟨v, h1, h2, _, h4⟩)
set_option maxHeartbeats 4000000 in
set_option maxRecDepth 100000 in
theorem CheckExpr_any {u : Nat → ByteArray} (e : Nd) (w : World) {N : Nat} (hN : N ≤ w.heap.size) (hk : Nds w N e.ao e.kids) (hc : e.kids.length ≤ e.cap ∧ e.cap ≤ 9223372036854775807) (hd : (1 : Int) + htF [e] ≤ 9223372036854775807) (hf : Fits (flatF 1 [e])) (hu : UnT u w) :
    Calls Try.prog 26 #[e.val] w fun r w' => r = .returned (.int .i64 (chk u (flatF 1 [e]))) ∧ Below w.heap.size w w' := by
  have HK := Lib.hid hk
  have HC := Lib.hid hc
  have HF := Lib.hid hf
  have HU := Lib.hid hu
  have HD := Lib.hid hd
  clear hk hc hf hu hd
  unfold Nd.val
  go_enter Try.func26, Try.ntmps26
  go_wp2_with (refine (lists_any _ _ _ _).mono ?_)
  rintro r w4 ⟨rfl, b4, c3, c2⟩
  have z4 := World.block_lt_of_cell? w4 _ c3
  have hlow : Below w.heap.size w w4 := ((((Below.refl _ w).alloc (Nat.le_refl _) _).alloc (by simp) _).alloc (by simp; omega) _).trans (b4.mono (by simp; omega))
  have e0 : w4.cell? ⟨w.heap.size + 1, 0, none⟩ = some (.int .i64 e.k) := (b4.cell (by simp)).trans (by go_simp)
  have e1 : w4.cell? ⟨w.heap.size + 1, 1, none⟩ = some (.int .i64 e.o) := (b4.cell (by simp)).trans (by go_simp)
  have e2 : w4.cell? ⟨w.heap.size + 1, 2, none⟩ = some (.int .i64 e.t) := (b4.cell (by simp)).trans (by go_simp)
  have e3 : w4.cell? ⟨w.heap.size + 1, 3, none⟩ = some (.int .u32 e.n) := (b4.cell (by simp)).trans (by go_simp)
  have e4 : w4.cell? ⟨w.heap.size + 1, 4, none⟩ = some (.string (bytesOf e.nm)) := (b4.cell (by simp)).trans (by go_simp)
  have e5 : w4.cell? ⟨w.heap.size + 1, 5, none⟩ = some (.slice e.ao e.kids.length e.cap) := (b4.cell (by simp)).trans (by go_simp)
  have c1 : w4.cell? ⟨w.heap.size + 1 + 1, 0, none⟩ = some (.slice (some ⟨w.heap.size + 1, 0, none⟩) 1 1) := (b4.cell (by simp)).trans (by go_simp)
  have HROW := Lib.hid (row_one hlow hN (by omega) HK.out HC.out e0 e1 e2 e3 e4 e5)
  have HONE := Lib.hid (one_list HROW.out (World.block_lt_of_cell? w4 _ e0) HD.out c1 c2 c3)
  have HLOW := Lib.hid hlow
  have HU4 := Lib.hid (un_keep HU.out hlow)
  simp only [World.size_alloc] at HONE
  clear e0 e1 e2 e3 e4 e5 c1 c2 c3 hlow b4
  go_wp2_with (refine HONE.out.mono ?_)
  rintro r w6 ⟨v, rfl, b6, bs, hs6⟩
  have HCH := Lib.hid (check_any hs6 (by have := b6.size; have := HLOW.out.size; simp at z4; omega) HF.out (un_keep HU4.out b6))
  have HB6 := Lib.hid (HLOW.out.trans (b6.mono HLOW.out.size))
  clear hs6 b6
  go_wp2_with (refine HCH.out.mono ?_)
  rintro r w7 ⟨rfl, b7⟩
  have HB7 := Lib.hid (HB6.out.trans (b7.mono HB6.out.size))
  clear b7
  go_wp2
  go_ret
  exact ⟨rfl, HB7.out⟩
end As
end Go.Proofs.Ytbedcplkcaanhaa
