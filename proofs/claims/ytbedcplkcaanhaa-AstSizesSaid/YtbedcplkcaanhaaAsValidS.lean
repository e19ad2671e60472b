/-
  WALKS: package ast: is one statement valid, its parts aside. Own work.
-/
import Derived.Test.YtbedcplkcaanhaaAsFitsA
import Derived.Test.YtbedcplkcaanhaaAsFitsB
import Derived.Test.YtbedcplkcaanhaaAsFitsC
import Derived.Test.YtbedcplkcaanhaaAsFitsE
namespace Go.Proofs.Ytbedcplkcaanhaa
namespace As
open Go.RowKit Go Rg Go.Shelf
set_option linter.unusedVariables false

/-- The kind of a statement's first expression. -/
def St.ek (s : St) : Int := (s.ex.l.getD 0 d0).k
def fitS (s : St) : Bool := fB s.k s.t s.n s.nm s.ns.l.length s.ix.l.length s.ex.l.length s.th.length s.el.length s.ek (namB s.ns.l)
def vS (s : St) : Bool := decide (0 ≤ s.li) && fitS s
theorem fits_any (s : St) (w : World) {N : Nat} (h : StIn w N s) (hl : s.nm.length ≤ 1000000000000000000) (hn : ∀ x ∈ s.ns.l, x.length ≤ 1000000000000000000) :
    Calls Try.prog 119 #[s.val] w fun e w' => e = .returned (.bool (fitS s)) ∧ Below w.heap.size w w' := by
  have e3 : (s.ex.l.length : Int) = 1 → ∃ b off, s.ex.ao = some ⟨b, off, none⟩ ∧ b < w.heap.size ∧ w.cell? ⟨b, off, none⟩ = some (.int .i64 s.ek) := fun h1 => by
    obtain ⟨b, off, ha, _, hz, hc, _, _⟩ := h.ex.at (i := 0) (by omega)
    exact ⟨b, off, ha, hz, by simpa [Nd.cell, St.ek] using hc 0 (by decide)⟩
  have e10 : 0 < s.ns.l.length → ∀ w', Below w.heap.size w w' → Calls Try.prog 122 #[.slice s.ns.ao s.ns.l.length s.ns.cap, .func (.func 79) #[] #[]] w' fun r w'' => r = .returned (.bool (namB s.ns.l)) ∧ Below w'.heap.size w' w'' := fun _ w' b =>
    allN_any (N := N) (h.ns.keep (V := fun _ => False) (Keep.of b) (fun _ h => h.elim)) (Nat.le_trans h.cns.1 h.cns.2) hn (fun _ _ => by kernel_rfl)
  unfold fitS St.val
  generalize s.ek = ek at *
  generalize namB s.ns.l = an at *
  generalize s.k = k at *
  by_cases k1 : k = 1
  · subst k1; exact fits_1 _ _ _ _ _ _ _ _ _ _ _ _ _ _ _ _ _ _ _ ek an w hl _ rfl
  by_cases k2 : k = 2
  · subst k2; exact fits_2 _ _ _ _ _ _ _ _ _ _ _ _ _ _ _ _ _ _ _ ek an w hl _ rfl
  by_cases k3 : k = 3
  · subst k3; exact fits_3 _ _ _ _ _ _ _ _ _ _ _ _ _ _ _ _ _ _ _ ek an w hl _ rfl e3
  by_cases k4 : k = 4
  · subst k4; exact fits_4 _ _ _ _ _ _ _ _ _ _ _ _ _ _ _ _ _ _ _ ek an w hl _ rfl
  by_cases k5 : k = 5
  · subst k5; exact fits_5 _ _ _ _ _ _ _ _ _ _ _ _ _ _ _ _ _ _ _ ek an w hl _ rfl
  by_cases k6 : k = 6
  · subst k6; exact fits_6 _ _ _ _ _ _ _ _ _ _ _ _ _ _ _ _ _ _ _ ek an w hl _ rfl
  by_cases k7 : k = 7
  · subst k7; exact fits_7 _ _ _ _ _ _ _ _ _ _ _ _ _ _ _ _ _ _ _ ek an w hl _ rfl
  by_cases k8 : k = 8
  · subst k8; exact fits_8 _ _ _ _ _ _ _ _ _ _ _ _ _ _ _ _ _ _ _ ek an w hl _ rfl
  by_cases k9 : k = 9
  · subst k9; exact fits_9 _ _ _ _ _ _ _ _ _ _ _ _ _ _ _ _ _ _ _ ek an w hl _ rfl
  by_cases k10 : k = 10
  · subst k10; exact fits_10 _ _ _ _ _ _ _ _ _ _ _ _ _ _ _ _ _ _ _ ek an w hl _ rfl e10
  exact fits_0 k _ _ _ _ _ _ _ _ _ _ _ _ _ _ _ _ _ _ _ ek an w hl _ rfl (fun c h1 h2 e => by omega)
theorem src_any (n : Int) (b : Bool) (hb : decide (0 ≤ n) = b) (w : World) : Calls Try.prog 81 #[.int .i64 n] w fun e w' => e = .returned (.bool b) ∧ w' = w := by
  subst hb
  go_enter Try.func81, Try.ntmps81
  go_wp2
  go_ret
  exact ⟨rfl, rfl⟩
set_option maxHeartbeats 4000000 in
set_option maxRecDepth 100000 in
theorem validS_any (s : St) (w : World) {N : Nat} (hh : StIn w N s ∧ s.nm.length ≤ 1000000000000000000 ∧ ∀ x ∈ s.ns.l, x.length ≤ 1000000000000000000) :
    Calls Try.prog 120 #[s.val] w fun e w' => e = .returned (.bool (vS s)) ∧ Below w.heap.size w w' := by
  have HH := Lib.hid hh
  have HF : Hid (∃ r, fitS s = r ∧ vS s = (decide (0 ≤ s.li) && r)) := Lib.hid ⟨_, rfl, rfl⟩
  obtain ⟨r, hr1, hr2⟩ := HF.out
  rw [hr2]
  have HR := Lib.hid hr1
  clear hr1 hr2 HF hh
  have HC : ∀ w', Below w.heap.size w w' → Hid (Calls Try.prog 119 #[s.val] w' fun e w'' => e = .returned (.bool r) ∧ Below w'.heap.size w' w'') := fun w' b => Lib.hid (by
    rw [← HR.out]
    exact fits_any s w' (HH.out.1.keep (V := fun _ => False) (Keep.of b) (fun _ h => h.elim)) HH.out.2.1 HH.out.2.2)
  have HCH := Lib.hid HC
  clear HC
  unfold St.val at *
  by_cases h0 : 0 ≤ s.li
  · rw [show (decide (0 ≤ s.li) && r) = r by simp [h0]]
    go_enter Try.func120, Try.ntmps120
    have HS := Lib.hid (src_any s.li true (by simp [h0]))
    clear h0
    go_wp2_with (refine (HS.out _).mono ?_)
    rintro e w1 ⟨rfl, rfl⟩
    go_wp2_with (refine ((HCH.out _ ((Below.refl _ w).alloc (Nat.le_refl _) _)).out).mono ?_)
    rintro e w2 ⟨rfl, b2⟩
    have B2 := Lib.hid (((Below.refl _ w).alloc (Nat.le_refl _) _).trans (b2.mono (by simp)))
    clear b2
    go_wp2
    go_ret
    exact ⟨rfl, B2.out⟩
  · rw [show (decide (0 ≤ s.li) && r) = false by simp [h0]]
    go_enter Try.func120, Try.ntmps120
    have HS := Lib.hid (src_any s.li false (by simp [h0]))
    clear h0
    go_wp2_with (refine (HS.out _).mono ?_)
    rintro e w1 ⟨rfl, rfl⟩
    go_wp2
    go_ret
    exact ⟨rfl, (Below.refl _ w).alloc (Nat.le_refl _) _⟩
end As
end Go.Proofs.Ytbedcplkcaanhaa
