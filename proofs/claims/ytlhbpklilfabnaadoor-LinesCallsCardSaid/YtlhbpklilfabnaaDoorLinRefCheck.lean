/-
  WALK: the document's own answer of layer 2: Check. Own work.
-/
import Derived.Test.YtlhbpklilfabnaaDoorLinTake
namespace Go.Proofs.YtlhbpklilfabnaaDoor
namespace Ln
open Go.RowKit Go
set_option linter.unusedVariables false

theorem vaB_five {v : Vc} (h : vaB v = false) : v.l < 0 ∨ (0 ≤ v.l ∧ 31 < v.l) ∨ (0 ≤ v.l ∧ v.l ≤ 31 ∧ v.p < 1) ∨ (0 ≤ v.l ∧ v.l ≤ 31 ∧ 1 ≤ v.p ∧ 15 < v.p) ∨ (0 ≤ v.l ∧ v.l ≤ 31 ∧ 1 ≤ v.p ∧ v.p ≤ 15 ∧ v.f < 0) := by
  unfold vaB at h; simp at h; omega

set_option maxRecDepth 100000 in
set_option maxHeartbeats 1000000 in
theorem rcheck_any (ao : Option Addr) (n cap : Nat) (vs : Nat → Vc) (w : World) (hv : VIn w ao vs n) (hn : n ≤ maxLen) :
    Calls Tryd.prog 19 #[.slice ao n cap] w fun e w' => e = .returned (.int .i64 (chk vs n)) ∧ Kp w w' := by
  unfold maxLen at hn
  by_cases hl : 32 < n
  · rw [chk_long hl]
    go_enter Tryd.func19, Tryd.ntmps19
    go_wp2
    go_ret
    exact ⟨rfl, Kp.refl _⟩
  · have hl : n ≤ 32 := by omega
    go_enter Tryd.func19, Tryd.ntmps19
    go_wp2
    go_loopw [3] (fun i wr => ∃ (k : Nat), k ≤ n ∧ i = .int .i64 k ∧ Good vs k ∧ Kp w wr) (fun i _ => n - (intOf i).toNat)
    case atStart => exact ⟨0, Nat.zero_le _, rfl, Good.zero vs, Kp.refl _⟩
    case round =>
      obtain ⟨wo, rfl⟩ : ∃ wo : World, wo = wr := ⟨_, rfl⟩
      obtain ⟨k, hk, rfl, hg, hkp⟩ := hrel
      have HG := Lib.hid hg
      clear hg
      by_cases hlt : k < n
      · obtain ⟨b, off, hao, hvc⟩ := (hv.kp hkp).at hlt
        subst hao
        have cl := hvc.l k hlt
        have cp := hvc.p k hlt
        have cf := hvc.f k hlt
        have HV := Lib.hid hvc
        clear hvc
        cases hvb : vaB (vs k) with
        | false =>
          have HB := Lib.hid (show chk vs n = 2 from chk_bad hl (fun g => by have := (g k hlt).1; rw [hvb] at this; cases this))
          rcases vaB_five hvb with h1 | ⟨h1, h2⟩ | ⟨h1, h2, h3⟩ | ⟨h1, h2, h3, h4⟩ | ⟨h1, h2, h3, h4, h5⟩
          all_goals
            go_wp2
            go_ret
            exact ⟨ret_int HB.out.symm, hkp⟩
        | true =>
          obtain ⟨h1, h2, h3, h4, h5⟩ := vaB_iff.1 hvb
          have h2' : (vs k).l ≤ 31 := by omega
          have HK := Lib.hid hkp
          have HVB := Lib.hid hvb
          clear hkp hvb
          have ik0 : (0 : Int) ≤ (k : Int) := Int.natCast_nonneg _
          have ik1 : (k : Int) < (n : Int) := by omega
          go_wp2
          go_loopw [4] (fun i wr => ∃ (j : Nat), j ≤ k ∧ i = .int .i64 j ∧ (∀ j', j' < j → (vs j').l ≠ (vs k).l) ∧ Kp wo wr) (fun i _ => k - (intOf i).toNat)
          case atStart => exact ⟨0, Nat.zero_le _, rfl, fun j h => absurd h (Nat.not_lt_zero j), Kp.refl _⟩
          case round =>
            obtain ⟨j, hj, rfl, hd, hkq⟩ := hrel
            have HD := Lib.hid hd
            clear hd
            by_cases hjk : j < k
            · have hvq := HV.out.kp hkq
              have dl := hvq.l k hlt
              have el := hvq.l j (by omega)
              clear hvq
              have ij0 : (0 : Int) ≤ (j : Int) := Int.natCast_nonneg _
              have ij1 : (j : Int) < (n : Int) := by omega
              by_cases he : (vs j).l = (vs k).l
              · have HB := Lib.hid (show chk vs n = 2 from chk_bad hl (fun g => (g k hlt).2 j hjk he))
                have he2 : ((vs j).l == (vs k).l) = true := by simpa using he
                clear he
                go_wp2
                go_quiet (fail)
                go_wp2
                go_ret
                exact ⟨ret_int HB.out.symm, (HK.out.trans hkq).drewN _⟩
              · have HE := Lib.hid he
                have he2 : ((vs j).l == (vs k).l) = false := by simpa using he
                clear he
                go_wp2
                go_quiet (fail)
                go_wp2
                go_roundw
                case rel => exact ⟨j + 1, by omega, by go_num, fun j' hj' => by
                  rcases Nat.lt_succ_iff_lt_or_eq.1 hj' with h | h
                  · exact HD.out j' h
                  · subst h; exact HE.out, hkq.drewN _⟩
                case measure => simp [intOf]; omega
            · obtain rfl : j = k := by omega
              go_wp2
              go_roundw
              case rel => exact ⟨j + 1, by omega, by go_num, HG.out.succ HVB.out HD.out, HK.out.trans hkq⟩
              case measure => simp [intOf]; omega
      · obtain rfl : k = n := by omega
        go_wp2
        go_ret
        exact ⟨ret_int (chk_ok hl HG.out).symm, hkp⟩
end Ln
end Go.Proofs.YtlhbpklilfabnaaDoor
