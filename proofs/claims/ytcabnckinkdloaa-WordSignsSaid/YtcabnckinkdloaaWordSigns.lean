/-
  The walk of WordSigns: a signed quotient is the unsigned one of both numbers without their signs, with the sign of both. Own work.
-/
import Derived.Test.YtcabnckinkdloaaWordDov
import Derived.Test.YtcabnckinkdloaaWordLaws
namespace Go.Proofs.Ytcabnckinkdloaa
namespace Wd
open Go.RowKit Go
set_option linter.unusedVariables false

set_option maxHeartbeats 1000000 in
theorem signs_nought (a : Int) (w : World) (ha : 0 ≤ a) (ha' : a < 4294967296) :
    Calls Try.prog 7 #[.int .u32 a, .int .u32 0] w (Yes w) := by
  have k0 := Kp.refl w
  go_enter Try.func7, Try.ntmps7
  go_wp2_with (go_at_call 8; refine (lives_yes (by assumption)).mono ?_; rintro e w1 ⟨rfl, h1⟩)
  go_ret
  exact ⟨rfl, by assumption⟩

set_option maxHeartbeats 2000000 in
theorem signs_core (a b x y na nb Q R nQ nR : Int) (w : World) (sx sy : Bool) (ha : 0 ≤ a) (ha' : a < 4294967296) (hb : 0 < b) (hb' : b < 4294967296)
    (hx : wrap32 a = x) (hy : wrap32 b = y) (hsx : decide (x < 0) = sx) (hsy : decide (y < 0) = sy) (hna : unVal 1 a = na) (hnb : unVal 1 b = nb) (na0 : 0 ≤ na) (na1 : na < 4294967296) (nb0 : 0 ≤ nb) (nb1 : nb < 4294967296)
    (hQ : val 4 (cond sx na a) (cond sy nb b) = Q) (hR : val 5 (cond sx na a) (cond sy nb b) = R) (q0 : 0 ≤ Q) (q1 : Q < 4294967296) (r0 : 0 ≤ R) (r1 : R < 4294967296)
    (hnQ : unVal 1 Q = nQ) (hnR : unVal 1 R = nR) (h6 : val 6 a b = cond (sx == sy) Q nQ) (h7 : val 7 a b = cond sx nR R) :
    Calls Try.prog 7 #[.int .u32 a, .int .u32 b] w (Yes w) := by
  have k0 := Kp.refl w
  cases sx <;> cases sy <;> simp at h6 h7 hQ hR
  all_goals
    go_enter Try.func7, Try.ntmps7
    go_wp2_with (first | (go_at_call 8; refine (lives_yes (by assumption)).mono ?_; rintro e w1 ⟨rfl, h1⟩) | (go_at_call 9; refine (dov (by assumption) _ _ _ (by omega) (by omega) (by omega) (by omega)).mono ?_; rintro e w1 ⟨rfl, h1⟩) | (go_at_call 11; refine (signed_any _ _ (by omega) (by omega)).mono ?_; rintro e w1 ⟨rfl, rfl⟩) | (go_at_call 13; refine (onec (by assumption) _ _ (by omega) (by omega)).mono ?_; rintro e w1 ⟨rfl, h1⟩))
    go_ret
    exact ⟨rfl, by assumption⟩

theorem signs_walk (a b : Int) (w : World) (ha : 0 ≤ a) (ha1 : a ≤ 4294967295) (hb : 0 ≤ b) (hb1 : b ≤ 4294967295) :
    Calls Try.prog 7 #[.int .u32 a, .int .u32 b] w (Yes w) := by
  have ha' : a < 4294967296 := by omega
  have hb' : b < 4294967296 := by omega
  by_cases h : b = 0
  · subst h; exact signs_nought a w ha ha'
  · have hp : 0 < b := by omega
    have ea : cond (decide (wrap32 a < 0)) (unVal 1 a) a = absw a := by unfold absw; by_cases g : wrap32 a < 0 <;> simp [g]
    have eb : cond (decide (wrap32 b < 0)) (unVal 1 b) b = absw b := by unfold absw; by_cases g : wrap32 b < 0 <;> simp [g]
    have n1 := unVal_bd 1 a ha ha'
    have n2 := unVal_bd 1 b hb hb'
    have A := absw_bd a ha ha'
    have B := absw_bd b hb hb'
    have Q := val_bd 4 (absw a) (absw b) A.1 (by omega) B.1 (by omega)
    have R := val_bd 5 (absw a) (absw b) A.1 (by omega) B.1 (by omega)
    refine signs_core a b _ _ _ _ _ _ _ _ w (decide (wrap32 a < 0)) (decide (wrap32 b < 0)) ha ha' hp hb' rfl rfl rfl rfl rfl rfl n1.1 n1.2 n2.1 n2.2 rfl rfl ?_ ?_ ?_ ?_ rfl rfl ?_ ?_
    · rw [ea, eb]; exact Q.1
    · rw [ea, eb]; exact Q.2
    · rw [ea, eb]; exact R.1
    · rw [ea, eb]; exact R.2
    · rw [ea, eb, signs6 a b ha ha' hp hb']
      by_cases g : wrap32 a < 0 <;> by_cases g2 : wrap32 b < 0 <;> simp [g, g2]
    · rw [ea, eb, signs7 a b ha ha' hp hb']
      by_cases g : wrap32 a < 0 <;> simp [g]
end Wd
end Go.Proofs.Ytcabnckinkdloaa
