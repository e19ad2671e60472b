/-
  The walk of WordShifts: shifting there and back, a signed shift as a division that rounds down, a cut of a cut. Own work.
-/
import Derived.Test.YtcabnckinkdloaaWordDov
import Derived.Test.YtcabnckinkdloaaWordLaws
namespace Go.Proofs.Ytcabnckinkdloaa
namespace Wd
open Go.RowKit Go
set_option linter.unusedVariables false

set_option maxHeartbeats 1000000 in
theorem shifts_core (a n K P x D R c d H V11 V12 V13 Z : Int) (w : World) (ha : 0 ≤ a) (ha' : a < 4294967296) (hn : -9223372036854775808 ≤ n) (hn' : n ≤ 9223372036854775807)
    (hK : pick n 32 = K) (K0 : 0 ≤ K) (K1 : K < 32) (hP : 2 ^ K.toNat = P) (p0 : 1 ≤ P) (p1 : P ≤ 2147483648) (hx : wrap32 a = x) (x0 : -2147483648 ≤ x) (x1 : x ≤ 2147483647)
    (hD : x.tdiv P = D) (d0 : -2147483648 ≤ D) (d1 : D ≤ 2147483647) (hR : x.tmod P = R)
    (hc : cutVal a 16 = c) (c0 : 0 ≤ c) (c1 : c < 4294967296) (hd : cutVal c 8 = d) (he : cutVal a 8 = d) (hf : cutVal a 32 = a) (hg : cutErr 32 = 0)
    (hH : val 11 4294967295 (32 - K) = H) (H0 : 0 ≤ H) (H1 : H < 4294967296) (h11 : val 11 a K = V11) (v0 : 0 ≤ V11) (v1 : V11 < 4294967296) (h12 : val 12 V11 K = V12) (h13 : val 13 a K = V13) (y0 : 0 ≤ V13) (y1 : V13 < 4294967296) (hZ : wrap32 V13 = Z)
    (hA : bits .andNot .u32 a H = V12) (FN : Hid (Z = if R < 0 then D - 1 else D)) :
    Calls Try.prog 6 #[.int .u32 a, .int .i64 n] w (Yes w) := by
  have k0 := Kp.refl w
  by_cases hr : R < 0
  all_goals
    go_enter Try.func6, Try.ntmps6
    go_wp2_with (first | (go_at_call 8; refine (lives_yes (by assumption)).mono ?_; rintro e w1 ⟨rfl, h1⟩) | (go_at_call 9; refine (dov (by assumption) _ _ _ (by omega) (by omega) (by omega) (by omega)).mono ?_; rintro e w1 ⟨rfl, h1⟩) | (go_at_call 14; refine (cut_any _ _ _ (by omega) (by omega)).mono ?_; rintro e w1 ⟨rfl, rfl⟩) | (go_at_call 13; refine (onec (by assumption) _ _ (by omega) (by omega)).mono ?_; rintro e w1 ⟨rfl, h1⟩) | (go_at_call 11; refine (signed_any _ _ (by omega) (by omega)).mono ?_; rintro e w1 ⟨rfl, rfl⟩) | (go_at_call 12; refine (pick_any (by assumption) _ _ (by omega) (by omega) (by omega) (by omega)).mono ?_; rintro e w1 ⟨rfl, h1⟩))
    all_goals (have fn := FN.out; clear FN; split at fn <;> first | (exfalso; omega) | (go_ret; exact ⟨rfl, by assumption⟩))

theorem shifts_walk (a n : Int) (w : World) (ha : 0 ≤ a) (ha1 : a ≤ 4294967295) (hn : -9223372036854775808 ≤ n) (hn' : n ≤ 9223372036854775807) :
    Calls Try.prog 6 #[.int .u32 a, .int .i64 n] w (Yes w) := by
  have ha' : a < 4294967296 := by omega
  have k0 : 0 ≤ pick n 32 := Int.emod_nonneg _ (by decide)
  have k1 : pick n 32 < 32 := Int.emod_lt_of_pos _ (by decide)
  have hp := pow_lt k0 k1
  have hp2 := pow_le (pick n 32) k1
  have x := wrap32_bd a
  have d := tdiv_bd' (wrap32 a) (2 ^ (pick n 32).toNat) x hp.1
  have c := cutVal_bd a 16 ha ha'
  have H := val_bd 11 4294967295 (32 - pick n 32) (by decide) (by decide) (by omega) (by omega)
  have V := val_bd 11 a (pick n 32) ha ha' (by omega) (by omega)
  have Y := val_bd 13 a (pick n 32) ha ha' (by omega) (by omega)
  exact shifts_core a n _ _ _ _ _ _ _ _ _ _ _ _ w ha ha' hn hn' rfl k0 k1 rfl (by omega) hp2 rfl x.1 x.2 rfl d.1 d.2 rfl rfl c.1 c.2 (cut_cut a) rfl rfl rfl rfl H.1 H.2 rfl V.1 V.2 rfl rfl Y.1 Y.2 rfl
    (there_and_back a _ ha ha' k0 k1) (Lib.hid (sar_down a _ k0 k1))
end Wd
end Go.Proofs.Ytcabnckinkdloaa
