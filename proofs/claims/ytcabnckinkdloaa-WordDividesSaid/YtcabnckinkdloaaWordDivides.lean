/-
  The walk of WordDivides: a quotient times the divisor, plus the remainder, is the dividend. Own work.
-/
import Derived.Test.YtcabnckinkdloaaWordDov
import Derived.Test.YtcabnckinkdloaaWordLaws
namespace Go.Proofs.Ytcabnckinkdloaa
namespace Wd
open Go.RowKit Go
set_option linter.unusedVariables false

set_option maxHeartbeats 1000000 in
theorem divides_core (a b q r s t u x y : Int) (w : World) (ha : 0 ≤ a) (ha' : a < 4294967296) (hb : 0 < b) (hb' : b < 4294967296)
    (b1 : 0 ≤ val 1 a b) (b1' : val 1 a b < 4294967296) (b2 : 0 ≤ val 2 a b) (b2' : val 2 a b < 4294967296)
    (hm : val 2 (val 1 a b) b = a) (hp : val 1 (val 2 a b) b = a) (hq : val 4 a b = q) (hr : val 5 a b = r) (hs : val 6 a b = s) (ht : val 7 a b = u) (hu : 0 ≤ u) (hu' : u < 4294967296) (hT : wrap32 u = t) (hx : wrap32 a = x) (hy : wrap32 b = y) (tb : -2147483648 ≤ t) (tb' : t ≤ 2147483647)  (xb : -2147483648 ≤ x) (xb' : x ≤ 2147483647)  (yb : -2147483648 ≤ y) (yb' : y ≤ 2147483647)
    (f1 : (q * b + r) % 4294967296 = a) (f2 : r < b) (f3 : (s * b + t) % 4294967296 = a) (F4 : Hid (t = 0 ∨ (t < 0 ↔ x < 0))) (F5 : Hid ((t < y ∨ t < -y) ∧ (-t < y ∨ -t < -y))) :
    Calls Try.prog 3 #[.int .u32 a, .int .u32 b] w (Yes w) := by
  have k0 := Kp.refl w
  go_enter Try.func3, Try.ntmps3
  go_wp2_with (first | (go_at_call 8; refine (lives_yes (by assumption)).mono ?_; rintro e w1 ⟨rfl, h1⟩) | (go_at_call 9; refine (dov (by assumption) _ _ _ (by omega) (by omega) (by omega) (by omega)).mono ?_; rintro e w1 ⟨rfl, h1⟩) | (go_at_call 11; refine (signed_any _ _ (by omega) (by omega)).mono ?_; rintro e w1 ⟨rfl, rfl⟩))
  all_goals (have f4 := F4.out; have f5 := F5.out; clear F4 F5; first | (exfalso; omega) | (go_ret; exact ⟨ret_bool (by simp <;> omega), by assumption⟩))

set_option maxHeartbeats 1000000 in
theorem divides_nought (a : Int) (w : World) (ha : 0 ≤ a) (ha' : a < 4294967296)
    (hm : val 2 (val 1 a 0) 0 = a) (hp : val 1 (val 2 a 0) 0 = a) (b1 : 0 ≤ val 1 a 0) (b1' : val 1 a 0 < 4294967296) (b2 : 0 ≤ val 2 a 0) (b2' : val 2 a 0 < 4294967296) :
    Calls Try.prog 3 #[.int .u32 a, .int .u32 0] w (Yes w) := by
  have k0 := Kp.refl w
  go_enter Try.func3, Try.ntmps3
  go_wp2_with (first | (go_at_call 8; refine (lives_yes (by assumption)).mono ?_; rintro e w1 ⟨rfl, h1⟩) | (go_at_call 9; refine (dov (by assumption) _ _ _ (by omega) (by omega) (by omega) (by omega)).mono ?_; rintro e w1 ⟨rfl, h1⟩))
  go_loopw [5] (fun i wr => ∃ k : Int, 4 ≤ k ∧ k ≤ 8 ∧ i = .int .i64 k ∧ Kp w wr) (fun i _ => 8 - (intOf i).toNat)
  case atStart => exact ⟨4, by omega, by omega, rfl, by assumption⟩
  case round =>
    obtain ⟨k, hk, hk', rfl, hkp⟩ := hrel
    by_cases hlt : k ≤ 7
    · have hv : val k a 0 = 0 := val_zero ⟨hk, hlt⟩ rfl
      have he : err k 0 = 12 := err_zero ⟨hk, hlt⟩ rfl
      go_wp2_with (go_at_call 10; refine (doc hkp _ _ _ (by omega) (by omega) (by omega) (by omega)).mono ?_; rintro e w1 ⟨rfl, h1⟩)
      go_roundw
      case rel => exact ⟨k + 1, by omega, by omega, rfl, by assumption⟩
      case measure => simp [intOf]; omega
    · go_wp2
      go_ret
      exact ⟨rfl, by assumption⟩

theorem divides_walk (a b : Int) (w : World) (ha : 0 ≤ a) (ha1 : a ≤ 4294967295) (hb : 0 ≤ b) (hb1 : b ≤ 4294967295) :
    Calls Try.prog 3 #[.int .u32 a, .int .u32 b] w (Yes w) := by
  have ha' : a < 4294967296 := by omega
  have hb' : b < 4294967296 := by omega
  have b1 := val_bd 1 a b ha ha' hb hb'
  have b2 := val_bd 2 a b ha ha' hb hb'
  have b7 := val_bd 7 a b ha ha' hb hb'
  by_cases h : b = 0
  · subst h
    exact divides_nought a w ha ha' (add_sub a 0 ha ha') (sub_add a 0 ha ha') b1.1 b1.2 b2.1 b2.2
  · have hp : 0 < b := by omega
    have t := wrap32_bd (val 7 a b)
    have x := wrap32_bd a
    have y := wrap32_bd b
    exact divides_core a b _ _ _ _ _ _ _ w ha ha' hp hb' b1.1 b1.2 b2.1 b2.2 (add_sub a b ha ha') (sub_add a b ha ha') rfl rfl rfl rfl b7.1 b7.2 rfl rfl rfl t.1 t.2 x.1 x.2 y.1 y.2
      (div_rem a b ha ha' h) (rem_lt a b hp) (div_rem_signed a b ha ha' hp hb') (Lib.hid (rem_sign a b h)) (Lib.hid (rem_size a b hp hb'))
end Wd
end Go.Proofs.Ytcabnckinkdloaa
