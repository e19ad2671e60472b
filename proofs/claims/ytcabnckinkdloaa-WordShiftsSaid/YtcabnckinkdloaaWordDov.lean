/-
  WALKS: the helpers of layer 1's statements (do, Pick), by the contracts of package word. Own work.
-/
import Derived.Test.YtcabnckinkdloaaWordLives
namespace Go.Proofs.Ytcabnckinkdloaa
namespace Wd
open Go.RowKit Go
set_option linter.unusedVariables false

set_option maxHeartbeats 400000 in
theorem dov {w0 w : World} (hk : Kp w0 w) (op a b : Int) (ha : 0 ≤ a) (ha' : a < 4294967296) (hb : 0 ≤ b) (hb' : b < 4294967296) :
    Calls Try.prog 9 #[.int .i64 op, .int .u32 a, .int .u32 b] w fun e w' => e = .returned (.int .u32 (val op a b)) ∧ Kp w0 w' := by
  go_enter Try.func9, Try.ntmps9
  go_wp2_with (go_at_call 10; refine (doc hk _ _ _ ha ha' hb hb').mono ?_; rintro e w1 ⟨rfl, h1⟩)
  go_ret
  exact ⟨rfl, by assumption⟩

/-- Pick: n modulo m, from 0 on. -/
def pick (n m : Int) : Int := n % m
set_option maxHeartbeats 400000 in
theorem pick_any {w0 w : World} (hk : Kp w0 w) (n m : Int) (hm : 1 ≤ m) (hm' : m ≤ 1000) (h1 : -9223372036854775808 ≤ n) (h2 : n ≤ 9223372036854775807) :
    Calls Try.prog 12 #[.int .i64 n, .int .i64 m] w fun e w' => e = .returned (.int .i64 (pick n m)) ∧ Kp w0 w' := by
  by_cases hn : 0 ≤ n
  · have hp : 0 ≤ n % m := Int.emod_nonneg _ (by omega)
    go_enter Try.func12, Try.ntmps12
    go_wp2
    go_ret
    exact ⟨rfl, hk⟩
  · have hb1 : -m < n.tmod m := Int.lt_tmod_of_pos n (by omega)
    have hb2 : n.tmod m ≤ 0 := by
      have e1 : (-n).tmod m = -(n.tmod m) := Int.neg_tmod ..
      have e2 : (-n).tmod m = (-n) % m := Int.tmod_eq_emod_of_nonneg (by omega)
      have e3 : 0 ≤ (-n) % m := Int.emod_nonneg _ (by omega)
      omega
    have hf1 : n.tmod m < 0 → n.tmod m + m = pick n m := by
      intro h
      unfold pick
      have e := Int.mul_tdiv_add_tmod n m
      have e2 : (n.tmod m + m) % m = n % m := by
        rw [Int.add_emod_right, show n.tmod m = n - m * n.tdiv m by omega, Int.sub_mul_emod_self_left]
      rw [← e2, Int.emod_eq_of_lt (by omega) (by omega)]
    have hf2 : n.tmod m = 0 → 0 = pick n m := by
      intro h
      unfold pick
      exact (Int.emod_eq_zero_of_dvd (Int.dvd_of_tmod_eq_zero h)).symm
    by_cases hz : n.tmod m < 0
    · have F := Lib.hid hf1; clear hf1 hf2
      go_enter Try.func12, Try.ntmps12
      go_wp2
      go_ret
      exact ⟨ret_int (F.out hz), hk⟩
    · have F := Lib.hid hf2; clear hf1 hf2
      have hz0 : n.tmod m = 0 := by omega
      go_enter Try.func12, Try.ntmps12
      go_wp2
      go_ret
      exact ⟨ret_int (F.out hz0), hk⟩
theorem signedc {w0 w : World} (hk : Kp w0 w) (a : Int) (ha : 0 ≤ a) (ha' : a < 4294967296) :
    Calls Try.prog 11 #[.int .u32 a] w fun e w' => e = .returned (.int .i64 (wrap32 a)) ∧ w = w' := signed_any a w ha ha'
end Wd
end Go.Proofs.Ytcabnckinkdloaa
