/-
  The walk of WordBits: shifts are multiplications and divisions by powers of two; and, or, xor, not and cuts agree. Own work.
-/
import Derived.Test.YtcabnckinkdloaaWordDov
import Derived.Test.YtcabnckinkdloaaWordLaws
namespace Go.Proofs.Ytcabnckinkdloaa
namespace Wd
open Go.RowKit Go
set_option linter.unusedVariables false

set_option maxHeartbeats 1000000 in
theorem bits_lo (a b n K P V11 V12 V8 V9 V10 nt ng c d : Int) (w : World) (ha : 0 ≤ a) (ha' : a < 4294967296) (hb : 0 ≤ b) (hb' : b < 4294967296) (hn : -9223372036854775808 ≤ n) (hn' : n ≤ 9223372036854775807)
    (hK : pick n 41 = K) (K0 : 0 ≤ K) (K1 : K < 32) (hP : 2 ^ K.toNat % 4294967296 = P) (p0 : 0 ≤ P) (p1 : P < 4294967296) (h12 : val 12 a K = V12) (h4 : val 4 a P = V12) (h11 : val 11 a K = V11) (h3 : val 3 a P = V11)
    (h8 : val 8 a b = V8) (h9 : val 9 a b = V9) (h10 : val 10 a b = V10) (hnt : unVal 2 a = nt) (hng : unVal 1 a = ng) (hc : cutVal a 8 = c) (hd : cutVal a 16 = d) (h5 : val 5 a 256 = c) (h5' : val 5 a 65536 = d)
    (FA : Hid (V8 + V9 = a + b)) (FB : Hid (V10 + 2 * V8 = a + b)) (FC : Hid (nt + a = 4294967295)) (FD : Hid ((ng + a) % 4294967296 = 0)) :
    Calls Try.prog 5 #[.int .u32 a, .int .u32 b, .int .i64 n] w (Yes w) := by
  have k0 := Kp.refl w
  go_enter Try.func5, Try.ntmps5
  go_wp2_with (first | (go_at_call 8; refine (lives_yes (by assumption)).mono ?_; rintro e w1 ⟨rfl, h1⟩) | (go_at_call 9; refine (dov (by assumption) _ _ _ (by omega) (by omega) (by omega) (by omega)).mono ?_; rintro e w1 ⟨rfl, h1⟩) | (go_at_call 14; refine (cut_any _ _ _ (by omega) (by omega)).mono ?_; rintro e w1 ⟨rfl, rfl⟩) | (go_at_call 13; refine (onec (by assumption) _ _ (by omega) (by omega)).mono ?_; rintro e w1 ⟨rfl, h1⟩) | (go_at_call 11; refine (signed_any _ _ (by omega) (by omega)).mono ?_; rintro e w1 ⟨rfl, rfl⟩) | (go_at_call 12; refine (pick_any (by assumption) _ _ (by omega) (by omega) (by omega) (by omega)).mono ?_; rintro e w1 ⟨rfl, h1⟩))
  all_goals (have fa := FA.out; have fb := FB.out; have fc := FC.out; have fd := FD.out; clear FA FB FC FD; first | (exfalso; omega) | (go_ret; exact ⟨rfl, by assumption⟩))

set_option maxHeartbeats 1000000 in
theorem bits_hi (a b n K P V11 V12 V8 V9 V10 nt ng c d : Int) (w : World) (ha : 0 ≤ a) (ha' : a < 4294967296) (hb : 0 ≤ b) (hb' : b < 4294967296) (hn : -9223372036854775808 ≤ n) (hn' : n ≤ 9223372036854775807)
    (hK : pick n 41 = K) (K0 : 32 ≤ K) (K1 : K ≤ 40) (h12 : val 12 a K = 0) (h13 : val 13 a K = -(a / 2147483648) % 4294967296) (h11 : val 11 a K = V11) (h3 : val 3 a 0 = V11)
    (h8 : val 8 a b = V8) (h9 : val 9 a b = V9) (h10 : val 10 a b = V10) (hnt : unVal 2 a = nt) (hng : unVal 1 a = ng) (hc : cutVal a 8 = c) (hd : cutVal a 16 = d) (h5 : val 5 a 256 = c) (h5' : val 5 a 65536 = d)
    (FA : Hid (V8 + V9 = a + b)) (FB : Hid (V10 + 2 * V8 = a + b)) (FC : Hid (nt + a = 4294967295)) (FD : Hid ((ng + a) % 4294967296 = 0)) :
    Calls Try.prog 5 #[.int .u32 a, .int .u32 b, .int .i64 n] w (Yes w) := by
  have k0 := Kp.refl w
  go_enter Try.func5, Try.ntmps5
  go_wp2_with (first | (go_at_call 8; refine (lives_yes (by assumption)).mono ?_; rintro e w1 ⟨rfl, h1⟩) | (go_at_call 9; refine (dov (by assumption) _ _ _ (by omega) (by omega) (by omega) (by omega)).mono ?_; rintro e w1 ⟨rfl, h1⟩) | (go_at_call 14; refine (cut_any _ _ _ (by omega) (by omega)).mono ?_; rintro e w1 ⟨rfl, rfl⟩) | (go_at_call 13; refine (onec (by assumption) _ _ (by omega) (by omega)).mono ?_; rintro e w1 ⟨rfl, h1⟩) | (go_at_call 11; refine (signed_any _ _ (by omega) (by omega)).mono ?_; rintro e w1 ⟨rfl, rfl⟩) | (go_at_call 12; refine (pick_any (by assumption) _ _ (by omega) (by omega) (by omega) (by omega)).mono ?_; rintro e w1 ⟨rfl, h1⟩))
  all_goals (have fa := FA.out; have fb := FB.out; have fc := FC.out; have fd := FD.out; clear FA FB FC FD; first | (exfalso; omega) | (go_ret; exact ⟨rfl, by assumption⟩))

theorem bits_walk (a b n : Int) (w : World) (ha : 0 ≤ a) (ha1 : a ≤ 4294967295) (hb : 0 ≤ b) (hb1 : b ≤ 4294967295) (hn : -9223372036854775808 ≤ n) (hn' : n ≤ 9223372036854775807) :
    Calls Try.prog 5 #[.int .u32 a, .int .u32 b, .int .i64 n] w (Yes w) := by
  have ha' : a < 4294967296 := by omega
  have hb' : b < 4294967296 := by omega
  have k0 : 0 ≤ pick n 41 := Int.emod_nonneg _ (by decide)
  have k1 : pick n 41 < 41 := Int.emod_lt_of_pos _ (by decide)
  have ab := and_or a b ha ha' hb hb'
  have FA := Lib.hid ab.1
  have FB := Lib.hid ab.2
  have FC := Lib.hid (not_add a)
  have FD := Lib.hid (neg_add a)
  by_cases h : pick n 41 < 32
  · have hp := pow_lt k0 h
    exact bits_lo a b n _ _ _ _ _ _ _ _ _ _ _ w ha ha' hb hb' hn hn' rfl k0 h rfl (by omega) (by omega) rfl (shr_div a _ k0 h).symm rfl (shl_mul a _ k0 h).symm rfl rfl rfl rfl rfl rfl rfl (cut_8_rem a).symm (cut_16_rem a).symm FA FB FC FD
  · exact bits_hi a b n _ 0 _ 0 _ _ _ _ _ _ _ w ha ha' hb hb' hn hn' rfl (by omega) (by omega) (shr_far a _ ha ha' (by omega)) (sar_far a _ ha ha' (by omega)) rfl (shl_far a _ (by omega)).symm rfl rfl rfl rfl rfl rfl rfl (cut_8_rem a).symm (cut_16_rem a).symm FA FB FC FD
end Wd
end Go.Proofs.Ytcabnckinkdloaa
