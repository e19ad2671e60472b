/-
  WALK: the statement LinesTakes. Own work.
-/
import Derived.Test.YtlhbpklilfabnaaDoorLinTakesFacts
import Derived.Test.YtlhbpklilfabnaaDoorLinSets
namespace Go.Proofs.YtlhbpklilfabnaaDoor
namespace Ln
open Go.RowKit Go
set_option linter.unusedVariables false

theorem check_c {w0 w : World} (hk : Kp w0 w) (ao : Option Addr) (n cap : Nat) (vs : Nat → Vc) (hv : VIn w ao vs n) (hn : n ≤ maxLen) (c : Int) (hc : chk vs n = c) :
    Calls Tryd.prog 14 #[.slice ao n cap] w fun e w' => e = .returned (.int .i64 c) ∧ Kp w0 w' :=
  (check_any ao n cap vs w hv hn).mono fun _ _ ⟨h, k⟩ => ⟨by rw [h, hc], hk.trans k⟩

set_option maxRecDepth 100000 in
set_option maxHeartbeats 400000 in
theorem takes_out (p e more lv ac up : Int) (ao : Option Addr) (n cap : Nat) (vs : Nat → Vc) (w : World) (hT : TabIn w) (hv : VIn w ao vs n) (hn : n ≤ maxLen) (h : 40 < n ∨ (n ≤ 40 ∧ ¬ chk vs n = 0)) :
    Calls Tryd.prog 5 #[.int .u32 p, .int .u32 e, .int .u32 more, .int .i64 lv, .int .i64 ac, .int .i64 up, .slice ao n cap] w (Yes w) := by
  have HT := Lib.hid hT
  have HV := Lib.hid hv
  have HN := Lib.hid hn
  have hn2 : n ≤ 9223372036854775807 := by unfold maxLen at hn; omega
  clear hT hv hn
  rcases h with h40 | ⟨h40, hc⟩
  · go_enter Tryd.func5, Tryd.ntmps5
    go_wp2_with fail
    refine (lives_yes (Kp.refl w) HT.out).mono ?_
    rintro e1 w1 ⟨rfl, k1⟩
    go_wp2
    go_ret
    exact ⟨rfl, k1⟩
  · have hne : (chk vs n != 0) = true := by simpa using hc
    clear hc
    go_enter Tryd.func5, Tryd.ntmps5
    go_wp2_with fail
    refine (lives_yes (Kp.refl w) HT.out).mono ?_
    rintro e1 w1 ⟨rfl, k1⟩
    go_wp2_with fail
    refine (check_c k1 ao n cap vs (HV.out.kp k1) HN.out _ rfl).mono ?_
    rintro e2 w2 ⟨rfl, k2⟩
    go_wp2
    go_ret
    exact ⟨rfl, k2⟩

set_option maxRecDepth 100000 in
set_option maxHeartbeats 2000000 in
theorem takes_none (p e more lv ac up : Int) (ao : Option Addr) (n cap : Nat) (vs : Nat → Vc) (w : World) (hT : TabIn w) (hv : VIn w ao vs n) (hn : n ≤ maxLen) (hc : chk vs n = 0)
    (hp : 0 ≤ p) (hp' : p < 4294967296) (he : 0 ≤ e) (he' : e < 4294967296) (hm : 0 ≤ more) (hm' : more < 4294967296) (hl : -9223372036854775808 ≤ lv) (hl' : lv ≤ 9223372036854775807) (hu : up ≤ 9223372036854775807) (ho : tk p e lv ac vs n = none) :
    Calls Tryd.prog 5 #[.int .u32 p, .int .u32 e, .int .u32 more, .int .i64 lv, .int .i64 ac, .int .i64 up, .slice ao n cap] w (Yes w) := by
  obtain ⟨h32, hg⟩ := chk_zero.1 hc
  have HT := Lib.hid hT
  have HV := Lib.hid hv
  have HN := Lib.hid hn
  have HG := Lib.hid hg
  have hn2 : n ≤ 9223372036854775807 := by omega
  have h40 : n ≤ 40 := by omega
  have hp1 := or_bd hp hp' hm hm'
  have he1 := or_bd he he' hm hm'
  have hw : ∃ U, (if 20 < up then 20 else up) = U := ⟨_, rfl⟩
  obtain ⟨U, hU⟩ := hw
  have hw : ∃ L, (if 1000 < lv then 1000 else lv) = L := ⟨_, rfl⟩
  obtain ⟨L, hL⟩ := hw
  have hU1 : 0 ≤ up → 0 ≤ U ∧ U ≤ 20 := fun h => by rw [← hU]; split <;> omega
  have hL1 : -9223372036854775808 ≤ L ∧ L ≤ 1000 := by rw [← hL]; split <;> omega
  have HC1 := Lib.hid (fun (w' : World) (hk : Kp w w') => check_c hk ao n cap vs (hv.kp hk) hn 0 hc)
  have HT1 := Lib.hid (fun (w' : World) (hk : Kp w w') => take_c hk p e lv ac ao n cap vs (hv.kp hk) hn hp hp' he he' 0 false (by rw [ho]; rfl) (by rw [ho]; rfl))
  have HT2 := Lib.hid (fun (w' : World) (hk : Kp w w') => take_c hk (bits .or .u32 p more) (bits .or .u32 e more) lv ac ao n cap vs (hv.kp hk) hn hp1.1 hp1.2 he1.1 he1.2 _ _ rfl rfl)
  have HT3 := Lib.hid (fun (hup : 0 ≤ up) (w' : World) (hk : Kp w w') => take_c hk p e (L + U) ac ao n cap vs (hv.kp hk) hn hp hp' he he' 0 false
    (by cases h3 : tk p e (L + U) ac vs n with
        | none => rfl
        | some d => have := (tk_higher hL (hU1 hup).1 h3).1; rw [ho] at this; cases this)
    (by cases h3 : tk p e (L + U) ac vs n with
        | none => rfl
        | some d => have := (tk_higher hL (hU1 hup).1 h3).1; rw [ho] at this; cases this))
  have HO := Lib.hid (tk_none h32 hg ho)
  have HU := Lib.hid hU1
  obtain ⟨hL1, hL2⟩ := hL1
  clear hT hv hn hg hc ho hp1 he1 hU1
  go_enter Tryd.func5, Tryd.ntmps5
  go_wp2_with fail
  refine (lives_yes (Kp.refl w) HT.out).mono ?_
  rintro e1 w1 ⟨rfl, k1⟩
  go_wp2_with fail
  refine (HC1.out _ k1).mono ?_
  rintro e2 w2 ⟨rfl, k2⟩
  clear k1
  go_wp2_with fail
  refine (HT1.out _ k2).mono ?_
  rintro e3 w3 ⟨rfl, k3⟩
  clear k2
  go_wp2
  have K3 := Lib.hid k3
  clear k3
  go_loopw [17] (fun i wr => ∃ (k : Nat), k ≤ n ∧ i = .int .i64 k ∧ Kp w wr) (fun i _ => n - (intOf i).toNat)
  case atStart => exact ⟨0, Nat.zero_le _, rfl, K3.out⟩
  case round =>
    obtain ⟨k, hk, rfl, hkp⟩ := hrel
    have HK := Lib.hid hkp
    clear hkp
    by_cases hlt : k < n
    · obtain ⟨b, off, hao, hvc⟩ := (HV.out.kp HK.out).at hlt
      subst hao
      have cl := hvc.l k hlt
      have cp := hvc.p k hlt
      clear hvc
      have hr := HO.out k hlt
      cases h1 : hasB p (vs k).l with
      | false =>
        clear hr
        go_wp2_with (go_at_call 13; refine (has_any _ _ _ (by omega) (by omega)).mono ?_; rintro e w' ⟨rfl, rfl⟩)
        go_quiet (fail)
        go_wp2
        go_roundw
        case rel => exact ⟨k + 1, by omega, by go_num, HK.out.drewN _⟩
        case measure => simp [intOf]; omega
      | true =>
        cases h2 : hasB e (vs k).l with
        | false =>
          clear hr
          go_wp2_with (go_at_call 13; refine (has_any _ _ _ (by omega) (by omega)).mono ?_; rintro e w' ⟨rfl, rfl⟩)
          go_quiet (fail)
          go_wp2
          go_roundw
          case rel => exact ⟨k + 1, by omega, by go_num, HK.out.drewN _⟩
          case measure => simp [intOf]; omega
        | true =>
          by_cases h3 : lv < (vs k).p
          · by_cases h4 : ac < (vs k).p
            · exfalso
              rw [rdy_iff.2 ⟨h1, h2, h3, h4⟩] at hr; cases hr
            · clear hr
              go_wp2_with (go_at_call 13; refine (has_any _ _ _ (by omega) (by omega)).mono ?_; rintro e w' ⟨rfl, rfl⟩)
              go_quiet (fail)
              go_wp2
              go_roundw
              case rel => exact ⟨k + 1, by omega, by go_num, HK.out.drewN _⟩
              case measure => simp [intOf]; omega
          · clear hr
            go_wp2_with (go_at_call 13; refine (has_any _ _ _ (by omega) (by omega)).mono ?_; rintro e w' ⟨rfl, rfl⟩)
            go_quiet (fail)
            go_wp2
            go_roundw
            case rel => exact ⟨k + 1, by omega, by go_num, HK.out.drewN _⟩
            case measure => simp [intOf]; omega
    · obtain rfl : k = n := by omega
      go_wp2_with fail
      refine (HT2.out _ HK.out).mono ?_
      rintro e4 w4 ⟨rfl, k4⟩
      by_cases hup : up < 0
      · go_wp2
        go_quiet (fail)
        go_wp2
        go_ret
        exact ⟨rfl, k4.drewN _⟩
      · have hup : 0 ≤ up := by omega
        obtain ⟨hU1, hU2⟩ := HU.out hup
        have K4 := Lib.hid k4
        clear k4
        go_wp2
        go_quiet (fail)
        go_wp2_with (go_at_call 15; refine (HT3.out hup _ (K4.out.drewN _)).mono ?_; rintro e5 w5 ⟨rfl, k5⟩)
        go_ret
        exact ⟨rfl, k5⟩
end Ln
end Go.Proofs.YtlhbpklilfabnaaDoor
