/-
  WALKS: the statement CodeCalls: every function of the package against the document's own answers. Own work; written by gen_cocalls.py.
-/
import Derived.Test.YtehmpakcfahmaaaDoorCoGoes
import Derived.Test.YtehmpakcfahmaaaDoorCoNames
import Derived.Test.YtehmpakcfahmaaaDoorCoRefEffect
import Derived.Test.YtehmpakcfahmaaaDoorCoRefText
import Derived.Test.YtehmpakcfahmaaaDoorCoRefParse
import Derived.Test.YtehmpakcfahmaaaDoorCoTexts
import Derived.Deep.RegionHeld3
namespace Go.Proofs.YtehmpakcfahmaaaDoor
namespace Co
open Go.RowKit Go
set_option linter.unusedVariables false

section
variable {w : World} {op x y z a b c d : Int} {M N : Nat}
theorem cj_kp {u v : World} (h : Kp w u ∧ w.heap.size < u.heap.size ∧ u.cell? ⟨w.heap.size, 0, none⟩ = some (.int .i64 op) ∧ u.cell? ⟨w.heap.size, 1, none⟩ = some (.int .i64 x) ∧ u.cell? ⟨w.heap.size, 2, none⟩ = some (.int .i64 y) ∧ u.cell? ⟨w.heap.size, 3, none⟩ = some (.int .i64 z) ∧ M < u.heap.size ∧ u.cell? ⟨M, 0, none⟩ = some (.int .i64 a) ∧ u.cell? ⟨M, 1, none⟩ = some (.int .i64 b) ∧ u.cell? ⟨M, 2, none⟩ = some (.int .i64 c) ∧ u.cell? ⟨M, 3, none⟩ = some (.int .i64 d) ∧ N < u.heap.size ∧ u.cell? ⟨N, 0, none⟩ = some (.int .i64 a) ∧ u.cell? ⟨N, 1, none⟩ = some (.int .i64 b) ∧ u.cell? ⟨N, 2, none⟩ = some (.int .i64 c) ∧ u.cell? ⟨N, 3, none⟩ = some (.int .i64 d)) (k : Kp u v) : Kp w v ∧ w.heap.size < v.heap.size ∧ v.cell? ⟨w.heap.size, 0, none⟩ = some (.int .i64 op) ∧ v.cell? ⟨w.heap.size, 1, none⟩ = some (.int .i64 x) ∧ v.cell? ⟨w.heap.size, 2, none⟩ = some (.int .i64 y) ∧ v.cell? ⟨w.heap.size, 3, none⟩ = some (.int .i64 z) ∧ M < v.heap.size ∧ v.cell? ⟨M, 0, none⟩ = some (.int .i64 a) ∧ v.cell? ⟨M, 1, none⟩ = some (.int .i64 b) ∧ v.cell? ⟨M, 2, none⟩ = some (.int .i64 c) ∧ v.cell? ⟨M, 3, none⟩ = some (.int .i64 d) ∧ N < v.heap.size ∧ v.cell? ⟨N, 0, none⟩ = some (.int .i64 a) ∧ v.cell? ⟨N, 1, none⟩ = some (.int .i64 b) ∧ v.cell? ⟨N, 2, none⟩ = some (.int .i64 c) ∧ v.cell? ⟨N, 3, none⟩ = some (.int .i64 d) := by
  obtain ⟨h0, s1, a0, a1, a2, a3, s2, b0, b1, b2, b3, s3, c0, c1, c2, c3⟩ := h
  exact ⟨h0.trans k, Nat.lt_of_lt_of_le s1 k.size, (k.cells _ _ s1).trans a0, (k.cells _ _ s1).trans a1, (k.cells _ _ s1).trans a2, (k.cells _ _ s1).trans a3,
    Nat.lt_of_lt_of_le s2 k.size, (k.cells _ _ s2).trans b0, (k.cells _ _ s2).trans b1, (k.cells _ _ s2).trans b2, (k.cells _ _ s2).trans b3,
    Nat.lt_of_lt_of_le s3 k.size, (k.cells _ _ s3).trans c0, (k.cells _ _ s3).trans c1, (k.cells _ _ s3).trans c2, (k.cells _ _ s3).trans c3⟩
theorem cj_of {u : World} (k : Kp w u) (h1 : Box u w.heap.size op x y z) (h2 : Box u M a b c d) (h3 : Box u N a b c d) : Kp w u ∧ w.heap.size < u.heap.size ∧ u.cell? ⟨w.heap.size, 0, none⟩ = some (.int .i64 op) ∧ u.cell? ⟨w.heap.size, 1, none⟩ = some (.int .i64 x) ∧ u.cell? ⟨w.heap.size, 2, none⟩ = some (.int .i64 y) ∧ u.cell? ⟨w.heap.size, 3, none⟩ = some (.int .i64 z) ∧ M < u.heap.size ∧ u.cell? ⟨M, 0, none⟩ = some (.int .i64 a) ∧ u.cell? ⟨M, 1, none⟩ = some (.int .i64 b) ∧ u.cell? ⟨M, 2, none⟩ = some (.int .i64 c) ∧ u.cell? ⟨M, 3, none⟩ = some (.int .i64 d) ∧ N < u.heap.size ∧ u.cell? ⟨N, 0, none⟩ = some (.int .i64 a) ∧ u.cell? ⟨N, 1, none⟩ = some (.int .i64 b) ∧ u.cell? ⟨N, 2, none⟩ = some (.int .i64 c) ∧ u.cell? ⟨N, 3, none⟩ = some (.int .i64 d) :=
  ⟨k, h1.size, h1.c0, h1.c1, h1.c2, h1.c3, h2.size, h2.c0, h2.c1, h2.c2, h2.c3, h3.size, h3.c0, h3.c1, h3.c2, h3.c3⟩
theorem sin_scs {u : World} {A : Nat} (h : SIn u (some ⟨A, 0, none⟩) namesL) : Scs u A 0 namesL := by
  rcases h with h | ⟨b, off, hb, h⟩
  · exact absurd (congrArg List.length h) (by decide)
  · simp only [Option.some.injEq, Addr.mk.injEq, and_true] at hb
    obtain ⟨rfl, rfl⟩ := hb
    exact h
theorem Check_j (hE : Env w) {u : World} (h : Kp w u ∧ w.heap.size < u.heap.size ∧ u.cell? ⟨w.heap.size, 0, none⟩ = some (.int .i64 op) ∧ u.cell? ⟨w.heap.size, 1, none⟩ = some (.int .i64 x) ∧ u.cell? ⟨w.heap.size, 2, none⟩ = some (.int .i64 y) ∧ u.cell? ⟨w.heap.size, 3, none⟩ = some (.int .i64 z) ∧ M < u.heap.size ∧ u.cell? ⟨M, 0, none⟩ = some (.int .i64 a) ∧ u.cell? ⟨M, 1, none⟩ = some (.int .i64 b) ∧ u.cell? ⟨M, 2, none⟩ = some (.int .i64 c) ∧ u.cell? ⟨M, 3, none⟩ = some (.int .i64 d) ∧ N < u.heap.size ∧ u.cell? ⟨N, 0, none⟩ = some (.int .i64 a) ∧ u.cell? ⟨N, 1, none⟩ = some (.int .i64 b) ∧ u.cell? ⟨N, 2, none⟩ = some (.int .i64 c) ∧ u.cell? ⟨N, 3, none⟩ = some (.int .i64 d)) (hi : Wf ⟨op, x, y, z⟩) (e : Int) (he : chkE ⟨op, x, y, z⟩ = e) :
    Calls Tryd.prog 13 #[.agg #[.int .i64 op, .int .i64 x, .int .i64 y, .int .i64 z]] u fun r v => r = .returned (.int .i64 e) ∧ (Kp w v ∧ w.heap.size < v.heap.size ∧ v.cell? ⟨w.heap.size, 0, none⟩ = some (.int .i64 op) ∧ v.cell? ⟨w.heap.size, 1, none⟩ = some (.int .i64 x) ∧ v.cell? ⟨w.heap.size, 2, none⟩ = some (.int .i64 y) ∧ v.cell? ⟨w.heap.size, 3, none⟩ = some (.int .i64 z) ∧ M < v.heap.size ∧ v.cell? ⟨M, 0, none⟩ = some (.int .i64 a) ∧ v.cell? ⟨M, 1, none⟩ = some (.int .i64 b) ∧ v.cell? ⟨M, 2, none⟩ = some (.int .i64 c) ∧ v.cell? ⟨M, 3, none⟩ = some (.int .i64 d) ∧ N < v.heap.size ∧ v.cell? ⟨N, 0, none⟩ = some (.int .i64 a) ∧ v.cell? ⟨N, 1, none⟩ = some (.int .i64 b) ∧ v.cell? ⟨N, 2, none⟩ = some (.int .i64 c) ∧ v.cell? ⟨N, 3, none⟩ = some (.int .i64 d)) :=
  (Check_k hE h.1 op x y z e hi he).mono fun _ _ ⟨e, k⟩ => ⟨e, cj_kp h k⟩
theorem rCheck_j {u : World} (h : Kp w u ∧ w.heap.size < u.heap.size ∧ u.cell? ⟨w.heap.size, 0, none⟩ = some (.int .i64 op) ∧ u.cell? ⟨w.heap.size, 1, none⟩ = some (.int .i64 x) ∧ u.cell? ⟨w.heap.size, 2, none⟩ = some (.int .i64 y) ∧ u.cell? ⟨w.heap.size, 3, none⟩ = some (.int .i64 z) ∧ M < u.heap.size ∧ u.cell? ⟨M, 0, none⟩ = some (.int .i64 a) ∧ u.cell? ⟨M, 1, none⟩ = some (.int .i64 b) ∧ u.cell? ⟨M, 2, none⟩ = some (.int .i64 c) ∧ u.cell? ⟨M, 3, none⟩ = some (.int .i64 d) ∧ N < u.heap.size ∧ u.cell? ⟨N, 0, none⟩ = some (.int .i64 a) ∧ u.cell? ⟨N, 1, none⟩ = some (.int .i64 b) ∧ u.cell? ⟨N, 2, none⟩ = some (.int .i64 c) ∧ u.cell? ⟨N, 3, none⟩ = some (.int .i64 d)) (e : Int) (he : chkE ⟨op, x, y, z⟩ = e) :
    Calls Tryd.prog 18 #[.agg #[.int .i64 op, .int .i64 x, .int .i64 y, .int .i64 z]] u fun r v => r = .returned (.int .i64 e) ∧ (Kp w v ∧ w.heap.size < v.heap.size ∧ v.cell? ⟨w.heap.size, 0, none⟩ = some (.int .i64 op) ∧ v.cell? ⟨w.heap.size, 1, none⟩ = some (.int .i64 x) ∧ v.cell? ⟨w.heap.size, 2, none⟩ = some (.int .i64 y) ∧ v.cell? ⟨w.heap.size, 3, none⟩ = some (.int .i64 z) ∧ M < v.heap.size ∧ v.cell? ⟨M, 0, none⟩ = some (.int .i64 a) ∧ v.cell? ⟨M, 1, none⟩ = some (.int .i64 b) ∧ v.cell? ⟨M, 2, none⟩ = some (.int .i64 c) ∧ v.cell? ⟨M, 3, none⟩ = some (.int .i64 d) ∧ N < v.heap.size ∧ v.cell? ⟨N, 0, none⟩ = some (.int .i64 a) ∧ v.cell? ⟨N, 1, none⟩ = some (.int .i64 b) ∧ v.cell? ⟨N, 2, none⟩ = some (.int .i64 c) ∧ v.cell? ⟨N, 3, none⟩ = some (.int .i64 d)) :=
  (rCheck_any u op x y z e he).mono fun _ _ ⟨e, k⟩ => ⟨e, cj_kp h k⟩
theorem Text_j (hE : Env w) {u : World} (h : Kp w u ∧ w.heap.size < u.heap.size ∧ u.cell? ⟨w.heap.size, 0, none⟩ = some (.int .i64 op) ∧ u.cell? ⟨w.heap.size, 1, none⟩ = some (.int .i64 x) ∧ u.cell? ⟨w.heap.size, 2, none⟩ = some (.int .i64 y) ∧ u.cell? ⟨w.heap.size, 3, none⟩ = some (.int .i64 z) ∧ M < u.heap.size ∧ u.cell? ⟨M, 0, none⟩ = some (.int .i64 a) ∧ u.cell? ⟨M, 1, none⟩ = some (.int .i64 b) ∧ u.cell? ⟨M, 2, none⟩ = some (.int .i64 c) ∧ u.cell? ⟨M, 3, none⟩ = some (.int .i64 d) ∧ N < u.heap.size ∧ u.cell? ⟨N, 0, none⟩ = some (.int .i64 a) ∧ u.cell? ⟨N, 1, none⟩ = some (.int .i64 b) ∧ u.cell? ⟨N, 2, none⟩ = some (.int .i64 c) ∧ u.cell? ⟨N, 3, none⟩ = some (.int .i64 d)) (hi : Wf ⟨op, x, y, z⟩) (t : List UInt8) (ht : txt ⟨op, x, y, z⟩ = t) :
    Calls Tryd.prog 19 #[.agg #[.int .i64 op, .int .i64 x, .int .i64 y, .int .i64 z]] u fun r v => r = .returned (.string (bytesOf t)) ∧ (Kp w v ∧ w.heap.size < v.heap.size ∧ v.cell? ⟨w.heap.size, 0, none⟩ = some (.int .i64 op) ∧ v.cell? ⟨w.heap.size, 1, none⟩ = some (.int .i64 x) ∧ v.cell? ⟨w.heap.size, 2, none⟩ = some (.int .i64 y) ∧ v.cell? ⟨w.heap.size, 3, none⟩ = some (.int .i64 z) ∧ M < v.heap.size ∧ v.cell? ⟨M, 0, none⟩ = some (.int .i64 a) ∧ v.cell? ⟨M, 1, none⟩ = some (.int .i64 b) ∧ v.cell? ⟨M, 2, none⟩ = some (.int .i64 c) ∧ v.cell? ⟨M, 3, none⟩ = some (.int .i64 d) ∧ N < v.heap.size ∧ v.cell? ⟨N, 0, none⟩ = some (.int .i64 a) ∧ v.cell? ⟨N, 1, none⟩ = some (.int .i64 b) ∧ v.cell? ⟨N, 2, none⟩ = some (.int .i64 c) ∧ v.cell? ⟨N, 3, none⟩ = some (.int .i64 d)) :=
  (Text_k hE h.1 op x y z hi t ht).mono fun _ _ ⟨e, k⟩ => ⟨e, cj_kp h k⟩
theorem rText_j (hE : Env w) {u : World} (h : Kp w u ∧ w.heap.size < u.heap.size ∧ u.cell? ⟨w.heap.size, 0, none⟩ = some (.int .i64 op) ∧ u.cell? ⟨w.heap.size, 1, none⟩ = some (.int .i64 x) ∧ u.cell? ⟨w.heap.size, 2, none⟩ = some (.int .i64 y) ∧ u.cell? ⟨w.heap.size, 3, none⟩ = some (.int .i64 z) ∧ M < u.heap.size ∧ u.cell? ⟨M, 0, none⟩ = some (.int .i64 a) ∧ u.cell? ⟨M, 1, none⟩ = some (.int .i64 b) ∧ u.cell? ⟨M, 2, none⟩ = some (.int .i64 c) ∧ u.cell? ⟨M, 3, none⟩ = some (.int .i64 d) ∧ N < u.heap.size ∧ u.cell? ⟨N, 0, none⟩ = some (.int .i64 a) ∧ u.cell? ⟨N, 1, none⟩ = some (.int .i64 b) ∧ u.cell? ⟨N, 2, none⟩ = some (.int .i64 c) ∧ u.cell? ⟨N, 3, none⟩ = some (.int .i64 d)) (hi : Wf ⟨op, x, y, z⟩) (t : List UInt8) (ht : txt ⟨op, x, y, z⟩ = t) :
    Calls Tryd.prog 20 #[.agg #[.int .i64 op, .int .i64 x, .int .i64 y, .int .i64 z]] u fun r v => r = .returned (.string (bytesOf t)) ∧ (Kp w v ∧ w.heap.size < v.heap.size ∧ v.cell? ⟨w.heap.size, 0, none⟩ = some (.int .i64 op) ∧ v.cell? ⟨w.heap.size, 1, none⟩ = some (.int .i64 x) ∧ v.cell? ⟨w.heap.size, 2, none⟩ = some (.int .i64 y) ∧ v.cell? ⟨w.heap.size, 3, none⟩ = some (.int .i64 z) ∧ M < v.heap.size ∧ v.cell? ⟨M, 0, none⟩ = some (.int .i64 a) ∧ v.cell? ⟨M, 1, none⟩ = some (.int .i64 b) ∧ v.cell? ⟨M, 2, none⟩ = some (.int .i64 c) ∧ v.cell? ⟨M, 3, none⟩ = some (.int .i64 d) ∧ N < v.heap.size ∧ v.cell? ⟨N, 0, none⟩ = some (.int .i64 a) ∧ v.cell? ⟨N, 1, none⟩ = some (.int .i64 b) ∧ v.cell? ⟨N, 2, none⟩ = some (.int .i64 c) ∧ v.cell? ⟨N, 3, none⟩ = some (.int .i64 d)) :=
  (rText_any (hE.kept h.1) op x y z hi t ht).mono fun _ _ ⟨e, k⟩ => ⟨e, cj_kp h k⟩
theorem Names_j (hE : Env w) {u : World} (h : Kp w u ∧ w.heap.size < u.heap.size ∧ u.cell? ⟨w.heap.size, 0, none⟩ = some (.int .i64 op) ∧ u.cell? ⟨w.heap.size, 1, none⟩ = some (.int .i64 x) ∧ u.cell? ⟨w.heap.size, 2, none⟩ = some (.int .i64 y) ∧ u.cell? ⟨w.heap.size, 3, none⟩ = some (.int .i64 z) ∧ M < u.heap.size ∧ u.cell? ⟨M, 0, none⟩ = some (.int .i64 a) ∧ u.cell? ⟨M, 1, none⟩ = some (.int .i64 b) ∧ u.cell? ⟨M, 2, none⟩ = some (.int .i64 c) ∧ u.cell? ⟨M, 3, none⟩ = some (.int .i64 d) ∧ N < u.heap.size ∧ u.cell? ⟨N, 0, none⟩ = some (.int .i64 a) ∧ u.cell? ⟨N, 1, none⟩ = some (.int .i64 b) ∧ u.cell? ⟨N, 2, none⟩ = some (.int .i64 c) ∧ u.cell? ⟨N, 3, none⟩ = some (.int .i64 d)) :
    Calls Tryd.prog 9 #[] u fun r v => ∃ A cap, r = .returned (.slice (some ⟨A, 0, none⟩) 24 cap) ∧ Scs v A 0 namesL ∧ (Kp w v ∧ w.heap.size < v.heap.size ∧ v.cell? ⟨w.heap.size, 0, none⟩ = some (.int .i64 op) ∧ v.cell? ⟨w.heap.size, 1, none⟩ = some (.int .i64 x) ∧ v.cell? ⟨w.heap.size, 2, none⟩ = some (.int .i64 y) ∧ v.cell? ⟨w.heap.size, 3, none⟩ = some (.int .i64 z) ∧ M < v.heap.size ∧ v.cell? ⟨M, 0, none⟩ = some (.int .i64 a) ∧ v.cell? ⟨M, 1, none⟩ = some (.int .i64 b) ∧ v.cell? ⟨M, 2, none⟩ = some (.int .i64 c) ∧ v.cell? ⟨M, 3, none⟩ = some (.int .i64 d) ∧ N < v.heap.size ∧ v.cell? ⟨N, 0, none⟩ = some (.int .i64 a) ∧ v.cell? ⟨N, 1, none⟩ = some (.int .i64 b) ∧ v.cell? ⟨N, 2, none⟩ = some (.int .i64 c) ∧ v.cell? ⟨N, 3, none⟩ = some (.int .i64 d)) :=
  (Names_any (hE.kept h.1)).mono fun _ _ ⟨A, cap, e, s, k⟩ => ⟨A, cap, e, sin_scs s, cj_kp h k⟩
theorem rNames_j {u : World} (h : Kp w u ∧ w.heap.size < u.heap.size ∧ u.cell? ⟨w.heap.size, 0, none⟩ = some (.int .i64 op) ∧ u.cell? ⟨w.heap.size, 1, none⟩ = some (.int .i64 x) ∧ u.cell? ⟨w.heap.size, 2, none⟩ = some (.int .i64 y) ∧ u.cell? ⟨w.heap.size, 3, none⟩ = some (.int .i64 z) ∧ M < u.heap.size ∧ u.cell? ⟨M, 0, none⟩ = some (.int .i64 a) ∧ u.cell? ⟨M, 1, none⟩ = some (.int .i64 b) ∧ u.cell? ⟨M, 2, none⟩ = some (.int .i64 c) ∧ u.cell? ⟨M, 3, none⟩ = some (.int .i64 d) ∧ N < u.heap.size ∧ u.cell? ⟨N, 0, none⟩ = some (.int .i64 a) ∧ u.cell? ⟨N, 1, none⟩ = some (.int .i64 b) ∧ u.cell? ⟨N, 2, none⟩ = some (.int .i64 c) ∧ u.cell? ⟨N, 3, none⟩ = some (.int .i64 d)) (A : Nat) (s : Scs u A 0 namesL) :
    Calls Tryd.prog 22 #[] u fun r v => ∃ B, r = .returned (.slice (some ⟨B, 0, none⟩) 24 24) ∧ Scs v B 0 namesL ∧ Scs v A 0 namesL ∧ (Kp w v ∧ w.heap.size < v.heap.size ∧ v.cell? ⟨w.heap.size, 0, none⟩ = some (.int .i64 op) ∧ v.cell? ⟨w.heap.size, 1, none⟩ = some (.int .i64 x) ∧ v.cell? ⟨w.heap.size, 2, none⟩ = some (.int .i64 y) ∧ v.cell? ⟨w.heap.size, 3, none⟩ = some (.int .i64 z) ∧ M < v.heap.size ∧ v.cell? ⟨M, 0, none⟩ = some (.int .i64 a) ∧ v.cell? ⟨M, 1, none⟩ = some (.int .i64 b) ∧ v.cell? ⟨M, 2, none⟩ = some (.int .i64 c) ∧ v.cell? ⟨M, 3, none⟩ = some (.int .i64 d) ∧ N < v.heap.size ∧ v.cell? ⟨N, 0, none⟩ = some (.int .i64 a) ∧ v.cell? ⟨N, 1, none⟩ = some (.int .i64 b) ∧ v.cell? ⟨N, 2, none⟩ = some (.int .i64 c) ∧ v.cell? ⟨N, 3, none⟩ = some (.int .i64 d)) :=
  (rNames_any u).mono fun _ _ ⟨e, s', k⟩ => ⟨_, e, s', s.kp k, cj_kp h k⟩
theorem Texts_j {u : World} (h : Kp w u ∧ w.heap.size < u.heap.size ∧ u.cell? ⟨w.heap.size, 0, none⟩ = some (.int .i64 op) ∧ u.cell? ⟨w.heap.size, 1, none⟩ = some (.int .i64 x) ∧ u.cell? ⟨w.heap.size, 2, none⟩ = some (.int .i64 y) ∧ u.cell? ⟨w.heap.size, 3, none⟩ = some (.int .i64 z) ∧ M < u.heap.size ∧ u.cell? ⟨M, 0, none⟩ = some (.int .i64 a) ∧ u.cell? ⟨M, 1, none⟩ = some (.int .i64 b) ∧ u.cell? ⟨M, 2, none⟩ = some (.int .i64 c) ∧ u.cell? ⟨M, 3, none⟩ = some (.int .i64 d) ∧ N < u.heap.size ∧ u.cell? ⟨N, 0, none⟩ = some (.int .i64 a) ∧ u.cell? ⟨N, 1, none⟩ = some (.int .i64 b) ∧ u.cell? ⟨N, 2, none⟩ = some (.int .i64 c) ∧ u.cell? ⟨N, 3, none⟩ = some (.int .i64 d)) (A B ca cb : Nat) (sA : Scs u A 0 namesL) (sB : Scs u B 0 namesL) :
    Calls Tryd.prog 21 #[.slice (some ⟨A, 0, none⟩) 24 ca, .slice (some ⟨B, 0, none⟩) 24 cb] u fun r v => r = .returned (.bool true) ∧ (Kp w v ∧ w.heap.size < v.heap.size ∧ v.cell? ⟨w.heap.size, 0, none⟩ = some (.int .i64 op) ∧ v.cell? ⟨w.heap.size, 1, none⟩ = some (.int .i64 x) ∧ v.cell? ⟨w.heap.size, 2, none⟩ = some (.int .i64 y) ∧ v.cell? ⟨w.heap.size, 3, none⟩ = some (.int .i64 z) ∧ M < v.heap.size ∧ v.cell? ⟨M, 0, none⟩ = some (.int .i64 a) ∧ v.cell? ⟨M, 1, none⟩ = some (.int .i64 b) ∧ v.cell? ⟨M, 2, none⟩ = some (.int .i64 c) ∧ v.cell? ⟨M, 3, none⟩ = some (.int .i64 d) ∧ N < v.heap.size ∧ v.cell? ⟨N, 0, none⟩ = some (.int .i64 a) ∧ v.cell? ⟨N, 1, none⟩ = some (.int .i64 b) ∧ v.cell? ⟨N, 2, none⟩ = some (.int .i64 c) ∧ v.cell? ⟨N, 3, none⟩ = some (.int .i64 d)) :=
  (Texts_yes u A B ca cb sA sB).mono fun _ _ ⟨e, k⟩ => ⟨e, cj_kp h k⟩
end

set_option maxHeartbeats 4000000 in
set_option maxRecDepth 100000 in
theorem calls_out (op x y z : Int) (ao : Option Addr) (n cap : Nat) (s : List UInt8) (w : World) (hE : Env w) (hn : (n : Int) ≤ 9223372036854775807) (hz : ((bytesOf s).size : Int) ≤ 9223372036854775807) (h : (100 : Int) < n ∨ ((n : Int) ≤ 100 ∧ (100 : Int) < (bytesOf s).size)) :
    Calls Tryd.prog 4 #[.agg #[.int .i64 op, .int .i64 x, .int .i64 y, .int .i64 z], .slice ao n cap, .string (bytesOf s)] w (Yes w) := by
  generalize bytesOf s = t at *
  go_enter Tryd.func4, Tryd.ntmps4
  go_wp2_with fail
  refine (lives_k hE ((Kp.refl w).alloc _ _)).mono ?_
  rintro r w1 ⟨rfl, k1⟩
  have K1 := ((Kp.refl w).alloc #[.int .i64 op, .int .i64 x, .int .i64 y, .int .i64 z] 27).trans k1
  clear k1
  rcases h with h1 | ⟨h1, h2⟩
  · go_wp2
    go_ret
    exact ⟨rfl, K1⟩
  · go_wp2
    go_ret
    exact ⟨rfl, K1⟩

set_option maxHeartbeats 8000000 in
set_option maxRecDepth 100000 in
theorem calls_core (op x y z : Int) (ao : Option Addr) (n cap : Nat) (f : Nat → Int) (s : List UInt8) (w : World) (hE : Env w) (hi : Wf ⟨op, x, y, z⟩) (hv : IIn w ao f n) (hn : (n : Int) ≤ 100) (hs : s.length ≤ 100) (hz : ((bytesOf s).size : Int) ≤ 100)
    (t g : Int) (q : Bool) (ht : effT ⟨op, x, y, z⟩ f n = t) (hg : effG ⟨op, x, y, z⟩ n = g) (ho : effO ⟨op, x, y, z⟩ n = q)
    (jt : Int) (jj jo : Bool) (hjt : jmpT ⟨op, x, y, z⟩ = jt) (hjj : jmpJ ⟨op, x, y, z⟩ = jj) (hjo : jmpO ⟨op, x, y, z⟩ = jo)
    (a b c d e : Int) (hp : prsI s = ⟨a, b, c, d⟩) (hpe : prsE s = e) (ce : Int) (hce : chkE ⟨op, x, y, z⟩ = ce) (tx : List UInt8) (htx : txt ⟨op, x, y, z⟩ = tx) :
    Calls Tryd.prog 4 #[.agg #[.int .i64 op, .int .i64 x, .int .i64 y, .int .i64 z], .slice ao n cap, .string (bytesOf s)] w (Yes w) := by
  have ie : ∀ W, (binOp .eql 27 (.agg #[.int .i64 a, .int .i64 b, .int .i64 c, .int .i64 d]) (.agg #[.int .i64 a, .int .i64 b, .int .i64 c, .int .i64 d])).run Tryd.prog W = .ok (.bool true) W := fun W => ins_eq _ _ _ _ _ _ _ _ W true (by simp)
  have ig := ins_guard
  have hb : ((bytesOf tx).toList == (bytesOf tx).toList) = true := by simp
  have HIE := Lib.hid ie
  have HB := Lib.hid hb
  have HI := Lib.hid hi
  have HV := Lib.hid hv
  have HS := Lib.hid hs
  have HT := Lib.hid ht
  have HG := Lib.hid hg
  have HO := Lib.hid ho
  have HJT := Lib.hid hjt
  have HJJ := Lib.hid hjj
  have HJO := Lib.hid hjo
  have HP := Lib.hid hp
  have HPE := Lib.hid hpe
  have HC := Lib.hid hce
  have HX := Lib.hid htx
  clear hi hv hs ht hg ho hjt hjj hjo hp hpe hce htx ie hb
  go_enter Tryd.func4, Tryd.ntmps4
  go_wp2_with fail
  refine (lives_k hE ((Kp.refl w).alloc _ _)).mono ?_
  rintro r w1 ⟨rfl, k1⟩
  have K1 := ((Kp.refl w).alloc #[.int .i64 op, .int .i64 x, .int .i64 y, .int .i64 z] 27).trans k1
  have b1 := (Box.new w op x y z).kp k1
  clear k1
  have B1 := Lib.hid b1
  obtain ⟨si, i0, i1, i2, i3, iu⟩ := b1
  go_wp2_with fail

  refine (Effect_k hE K1 op x y z HI.out ao n cap f (HV.out.kp K1) t g q HT.out HG.out HO.out).mono ?_
  rintro r w2 ⟨rfl, k2⟩
  have A2 := k2
  have K2 := K1.trans A2
  have b2 := B1.out.kp A2
  clear si i0 i1 i2 i3 iu B1 K1 k2 A2
  have B2 := Lib.hid b2
  obtain ⟨si, i0, i1, i2, i3, iu⟩ := b2
  go_wp2_with fail
  refine (rEffect_any ⟨op, x, y, z⟩ ao n cap f (HV.out.kp K2) t g q HT.out HG.out HO.out).mono ?_
  rintro r w3 ⟨rfl, k3⟩
  have A3 := k3
  have K3 := K2.trans A3
  have b3 := B2.out.kp A3
  clear si i0 i1 i2 i3 iu B2 K2 k3 A3
  have B3 := Lib.hid b3
  obtain ⟨si, i0, i1, i2, i3, iu⟩ := b3
  go_wp2_with fail
  refine (Jumps_k hE K3 op x y z HI.out jt jj jo HJT.out HJJ.out HJO.out).mono ?_
  rintro r w4 ⟨rfl, k4⟩
  have A4 := k4
  have K4 := K3.trans A4
  have b4 := B3.out.kp A4
  clear si i0 i1 i2 i3 iu B3 K3 k4 A4
  have B4 := Lib.hid b4
  obtain ⟨si, i0, i1, i2, i3, iu⟩ := b4
  go_wp2_with fail
  refine (rJumps_any ⟨op, x, y, z⟩ jt jj jo HJT.out HJJ.out HJO.out).mono ?_
  rintro r w5 ⟨rfl, k5⟩
  have A5 := k5
  have K5 := K4.trans A5
  have b5 := B4.out.kp A5
  clear si i0 i1 i2 i3 iu B4 K4 k5 A5
  have B5 := Lib.hid b5
  obtain ⟨si, i0, i1, i2, i3, iu⟩ := b5
  go_wp2_with fail
  refine (Parse_k hE K5 s (by have := HS.out; omega) a b c d e HP.out HPE.out).mono ?_
  rintro r w6 ⟨rfl, k6⟩
  have A6 := k6.alloc #[.int .i64 a, .int .i64 b, .int .i64 c, .int .i64 d] 27
  have CM := Lib.hid (Box.new w6 a b c d)
  have K6 := K5.trans A6
  have b6 := B5.out.kp A6
  clear si i0 i1 i2 i3 iu B5 K5 k6 A6
  have B6 := Lib.hid b6
  obtain ⟨si, i0, i1, i2, i3, iu⟩ := b6
  go_wp2_with fail
  refine (rParse_any (hE.kept K6) s HS.out ⟨a, b, c, d⟩ e HP.out HPE.out).mono ?_
  rintro r w7 ⟨rfl, k7⟩
  have A7 := k7.alloc #[.int .i64 a, .int .i64 b, .int .i64 c, .int .i64 d] 27
  have CN := Lib.hid (Box.new w7 a b c d)
  have K7 := K6.trans A7
  have b7 := B6.out.kp A7
  have CM' := Lib.hid (CM.out.kp A7)
  clear si i0 i1 i2 i3 iu B6 K6 k7 A7
  have B7 := Lib.hid b7
  obtain ⟨si, i0, i1, i2, i3, iu⟩ := b7
  go_wp2_with fail
  have cj := cj_of K7 B7.out CM'.out CN.out
  clear CM CM' CN B7 si i0 i1 i2 i3 iu
  have ie := HIE.out
  have hb := HB.out
  generalize hw8 : w7.alloc (.cells #[.int .i64 a, .int .i64 b, .int .i64 c, .int .i64 d] 27) = w8 at *
  clear hw8
  have Kd := K7.drew
  have cjd := cj_kp cj ((Kp.refl w8).drew)
  have cj0 := cj
  obtain ⟨_, si, i0, i1, i2, i3, sm, m0, m1, m2, m3, sn, n0, n1, n2, n3⟩ := cj
  go_region_held3 (fun w' => Kp w w' ∧ w.heap.size < w'.heap.size ∧ w'.cell? ⟨w.heap.size, 0, none⟩ = some (.int .i64 op) ∧ w'.cell? ⟨w.heap.size, 1, none⟩ = some (.int .i64 x) ∧ w'.cell? ⟨w.heap.size, 2, none⟩ = some (.int .i64 y) ∧ w'.cell? ⟨w.heap.size, 3, none⟩ = some (.int .i64 z) ∧ w6.heap.size < w'.heap.size ∧ w'.cell? ⟨w6.heap.size, 0, none⟩ = some (.int .i64 a) ∧ w'.cell? ⟨w6.heap.size, 1, none⟩ = some (.int .i64 b) ∧ w'.cell? ⟨w6.heap.size, 2, none⟩ = some (.int .i64 c) ∧ w'.cell? ⟨w6.heap.size, 3, none⟩ = some (.int .i64 d) ∧ w7.heap.size < w'.heap.size ∧ w'.cell? ⟨w7.heap.size, 0, none⟩ = some (.int .i64 a) ∧ w'.cell? ⟨w7.heap.size, 1, none⟩ = some (.int .i64 b) ∧ w'.cell? ⟨w7.heap.size, 2, none⟩ = some (.int .i64 c) ∧ w'.cell? ⟨w7.heap.size, 3, none⟩ = some (.int .i64 d))
    (first | assumption | go_keep)
    (first
      | (go_at_call 13; (with_reducible refine (Check_j hE (by assumption) HI.out _ HC.out).mono ?_); rintro r w9 ⟨rfl, hS9⟩)
      | (go_at_call 18; (with_reducible refine (rCheck_j (by assumption) _ HC.out).mono ?_); rintro r w10 ⟨rfl, hS10⟩)
      | (go_at_call 19; (with_reducible refine (Text_j hE (by assumption) HI.out _ HX.out).mono ?_); rintro r w11 ⟨rfl, hS11⟩)
      | (go_at_call 20; (with_reducible refine (rText_j hE (by assumption) HI.out _ HX.out).mono ?_); rintro r w12 ⟨rfl, hS12⟩)
      | (go_at_call 9; (with_reducible refine (Names_j hE (by assumption)).mono ?_); rintro r w13 ⟨A, ca, rfl, sA, hS13⟩)
      | (go_at_call 22; (with_reducible refine (rNames_j (by assumption) _ (by assumption)).mono ?_); rintro r w14 ⟨B, rfl, sB, sA', hS14⟩)
      | (go_at_call 21; (with_reducible refine (Texts_j (by assumption) _ _ _ _ (by assumption) (by assumption)).mono ?_); rintro r w15 ⟨rfl, hS15⟩))
  all_goals
    go_wp2
    go_ret
    exact ⟨ret_bool (by simp), hS15.1⟩
theorem calls_walk (i : In) (ao : Option Addr) (n cap : Nat) (f : Nat → Int) (s : List UInt8) (w : World) (hE : Env w) (hi : Wf i) (hv : IIn w ao f n) (hn : n ≤ 9223372036854775807) (hz : (bytesOf s).size ≤ 9223372036854775807) :
    Calls Tryd.prog 4 #[.agg #[.int .i64 i.op, .int .i64 i.a, .int .i64 i.b, .int .i64 i.c], .slice ao n cap, .string (bytesOf s)] w (Yes w) := by
  have hl := bytesOf_size s
  by_cases h1 : 100 < n
  · exact calls_out i.op i.a i.b i.c ao n cap s w hE (by omega) (by omega) (.inl (by omega))
  · by_cases h2 : 100 < s.length
    · exact calls_out i.op i.a i.b i.c ao n cap s w hE (by omega) (by omega) (.inr ⟨by omega, by omega⟩)
    · exact calls_core i.op i.a i.b i.c ao n cap f s w hE hi hv (by omega) (by omega) (by omega) _ _ _ rfl rfl rfl _ _ _ rfl rfl rfl (prsI s).op (prsI s).a (prsI s).b (prsI s).c _ rfl rfl _ rfl _ rfl
end Co
end Go.Proofs.YtehmpakcfahmaaaDoor
