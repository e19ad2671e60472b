/-
  WALK: the statement LinesTakes, where one is taken; all of it. Own work.
-/
import Derived.Test.YtlhbpklilfabnaaDoorLinTakes
namespace Go.Proofs.YtlhbpklilfabnaaDoor
namespace Ln
open Go.RowKit Go
set_option linter.unusedVariables false

/-- Four ways not to be ready. -/
theorem rdy_not {p e lv ac : Int} {v : Vc} (h : rdy p e lv ac v = false) : hasB p v.l = false ∨ (hasB p v.l = true ∧ hasB e v.l = false) ∨ (hasB p v.l = true ∧ hasB e v.l = true ∧ v.p ≤ lv) ∨ (hasB p v.l = true ∧ hasB e v.l = true ∧ lv < v.p ∧ v.p ≤ ac) := by
  cases h1 : hasB p v.l with
  | false => exact .inl rfl
  | true =>
    cases h2 : hasB e v.l with
    | false => exact .inr (.inl ⟨rfl, rfl⟩)
    | true =>
      by_cases h3 : lv < v.p
      · by_cases h4 : ac < v.p
        · rw [rdy_iff.2 ⟨h1, h2, h3, h4⟩] at h; cases h
        · exact .inr (.inr (.inr ⟨rfl, rfl, h3, by omega⟩))
      · exact .inr (.inr (.inl ⟨rfl, rfl, by omega⟩))

set_option maxRecDepth 100000 in
set_option maxHeartbeats 4000000 in
theorem takes_some (p e more lv ac up : Int) (ao : Option Addr) (n cap : Nat) (vs : Nat → Vc) (w : World) (hT : TabIn w) (hv : VIn w ao vs n) (hn : n ≤ maxLen) (hc : chk vs n = 0)
    (hp : 0 ≤ p) (hp' : p < 4294967296) (he : 0 ≤ e) (he' : e < 4294967296) (hm : 0 ≤ more) (hm' : more < 4294967296) (hl : -9223372036854775808 ≤ lv) (hl' : lv ≤ 9223372036854775807) (hu : up ≤ 9223372036854775807) (c : Nat) (ho : tk p e lv ac vs n = some c) :
    Calls Tryd.prog 5 #[.int .u32 p, .int .u32 e, .int .u32 more, .int .i64 lv, .int .i64 ac, .int .i64 up, .slice ao n cap] w (Yes w) := by
  obtain ⟨h32, hg, hcn, c1, c2, c3, c4, hbest⟩ := tk_some ho
  obtain ⟨d, hd, hdn, hcd⟩ := tk_more hp hp' he he' hm hm' ho
  have HT := Lib.hid hT
  have HV := Lib.hid hv
  have HN := Lib.hid hn
  have HG := Lib.hid hg
  have HR := Lib.hid (rdy_iff.2 ⟨c1, c2, c3, c4⟩)
  have hn2 : n ≤ 9223372036854775807 := by omega
  have h40 : n ≤ 40 := by omega
  have hp1 := or_bd hp hp' hm hm'
  have he1 := or_bd he he' hm hm'
  have hw : ∃ U, (if 20 < up then 20 else up) = U := ⟨_, rfl⟩
  obtain ⟨U, hU⟩ := hw
  have hw : ∃ L, (if 1000 < lv then 1000 else lv) = L := ⟨_, rfl⟩
  obtain ⟨L, hL⟩ := hw
  have hU1 : 0 ≤ up → 0 ≤ U ∧ U ≤ 20 := fun h => by rw [← hU]; split <;> omega
  have hL1 : -9223372036854775808 ≤ L ∧ L ≤ 1000 := by rw [← hL]; split <;> omega
  have HC1 := Lib.hid (fun (w' : World) (hk : Kp w w') => check_c hk ao n cap vs (hv.kp hk) hn 0 hc)
  have HT1 := Lib.hid (fun (w' : World) (hk : Kp w w') => take_c hk p e lv ac ao n cap vs (hv.kp hk) hn hp hp' he he' (c : Int) true (by rw [ho]; rfl) (by rw [ho]; rfl))
  have HT2 := Lib.hid (fun (w' : World) (hk : Kp w w') => take_c hk (bits .or .u32 p more) (bits .or .u32 e more) lv ac ao n cap vs (hv.kp hk) hn hp1.1 hp1.2 he1.1 he1.2 (d : Int) true (by rw [hd]; rfl) (by rw [hd]; rfl))
  have HT3 := Lib.hid (fun (w' : World) (hk : Kp w w') => take_c hk p e (L + U) ac ao n cap vs (hv.kp hk) hn hp hp' he he' _ _ rfl rfl)
  have HF := Lib.hid (fun (hup : 0 ≤ up) (x : Nat) (h3 : tk p e (L + U) ac vs n = some x) => show x = c ∧ L + U < (vs c).p by
    have h4 := tk_higher hL (hU1 hup).1 h3
    rw [ho] at h4
    obtain rfl := Option.some.inj h4.1
    exact ⟨rfl, h4.2⟩)
  have HB := Lib.hid hbest
  have HU := Lib.hid hU1
  obtain ⟨hL1, hL2⟩ := hL1
  have ic0 : (0 : Int) ≤ (c : Int) := Int.natCast_nonneg _
  have ic1 : (c : Int) < (n : Int) := by omega
  have id0 : (0 : Int) ≤ (d : Int) := Int.natCast_nonneg _
  have id1 : (d : Int) < (n : Int) := by omega
  clear hT hv hn hg hc ho hp1 he1 hU1 hbest hd c1 c2 c3 c4
  go_enter Tryd.func5, Tryd.ntmps5
  go_wp2_with fail
  refine (lives_yes (Kp.refl w) HT.out).mono ?_
  rintro e1 w1 ⟨rfl, k1⟩
  go_wp2_with fail
  refine (HC1.out _ k1).mono ?_
  rintro e2 w2 ⟨rfl, k2⟩
  clear k1
  go_wp2_with fail
  refine (HT1.out _ k2).mono ?_
  rintro e3 w3 ⟨rfl, k3⟩
  clear k2
  go_wp2
  have K3 := Lib.hid k3
  clear k3
  go_loopw [17] (fun i wr => ∃ (k : Nat), k ≤ n ∧ i = .int .i64 k ∧ Kp w wr) (fun i _ => n - (intOf i).toNat)
  case atStart => exact ⟨0, Nat.zero_le _, rfl, K3.out⟩
  case round =>
    obtain ⟨k, hk, rfl, hkp⟩ := hrel
    have HK := Lib.hid hkp
    clear hkp
    by_cases hlt : k < n
    · obtain ⟨b, off, hao, hvc⟩ := (HV.out.kp HK.out).at hlt
      subst hao
      have cl := hvc.l k hlt
      have cp := hvc.p k hlt
      have dl := hvc.l c hcn
      have dp := hvc.p c hcn
      clear hvc
      have ik0 : (0 : Int) ≤ (k : Int) := Int.natCast_nonneg _
      have ik1 : (k : Int) < (n : Int) := by omega
      cases hr : rdy p e lv ac (vs k) with
      | false =>
        have hkc : ¬ k = c := fun e => by subst e; rw [HR.out] at hr; cases hr
        have hkc1 : (k == c) = false := by simpa using hkc
        have hkc2 : ((k : Int) == (c : Int)) = false := by simp; omega
        clear hkc
        rcases rdy_not hr with h1 | ⟨h1, h2⟩ | ⟨h1, h2, h3⟩ | ⟨h1, h2, h3, h4⟩
        all_goals
          clear hr
          go_wp2_with (go_at_call 13; refine (has_any _ _ _ (by omega) (by omega)).mono ?_; rintro e w' ⟨rfl, rfl⟩)
          go_quiet (fail)
          go_wp2
          go_roundw
          case rel => exact ⟨k + 1, by omega, by go_num, HK.out.drewN _⟩
          case measure => simp [intOf]; omega
      | true =>
        obtain ⟨h1, h2, h3, h4⟩ := rdy_iff.1 hr
        by_cases hkc : k = c
        · subst hkc
          clear hr
          go_wp2_with (go_at_call 13; refine (has_any _ _ _ (by omega) (by omega)).mono ?_; rintro e w' ⟨rfl, rfl⟩)
          go_quiet (fail)
          go_wp2
          go_roundw
          case rel => exact ⟨k + 1, by omega, by go_num, HK.out.drewN _⟩
          case measure => simp [intOf]; omega
        · have hkc1 : (k == c) = false := by simpa using hkc
          have hkc2 : ((k : Int) == (c : Int)) = false := by simp; omega
          have hkc3 : ((k : Int) != (c : Int)) = true := by simp; omega
          have hkc4 : (k != c) = true := by simp; omega
          have hbb := beB_no.1 (HB.out k hlt hr)
          clear hkc hr
          rcases hbb with hb1 | ⟨hb1, hb2⟩
          · have hb3 : ((vs k).p == (vs c).p) = false := by simp; omega
            have hb4 : (vs k).p ≤ (vs c).p := by omega
            have hb5 : decide ((vs c).p < (vs k).p) = false := by simp; omega
            go_wp2_with (go_at_call 13; refine (has_any _ _ _ (by omega) (by omega)).mono ?_; rintro e w' ⟨rfl, rfl⟩)
            go_quiet (fail)
            go_wp2
            go_roundw
            case rel => exact ⟨k + 1, by omega, by go_num, HK.out.drewN _⟩
            case measure => simp [intOf]; omega
          · have hb3 : ((vs k).p == (vs c).p) = true := by simpa using hb1
            have hb4 : (vs k).p ≤ (vs c).p := by omega
            clear hb1
            go_wp2_with (go_at_call 13; refine (has_any _ _ _ (by omega) (by omega)).mono ?_; rintro e w' ⟨rfl, rfl⟩)
            go_quiet (fail)
            go_wp2
            go_roundw
            case rel => exact ⟨k + 1, by omega, by go_num, HK.out.drewN _⟩
            case measure => simp [intOf]; omega
    · obtain rfl : k = n := by omega
      go_wp2_with fail
      refine (HT2.out _ HK.out).mono ?_
      rintro e4 w4 ⟨rfl, k4⟩
      obtain ⟨b, off, hao, hvc⟩ := (HV.out.kp k4).at hcn
      subst hao
      have dp := hvc.p c hcn
      have ep := hvc.p d hdn
      have HVC := Lib.hid hvc
      clear hvc
      by_cases hup : up < 0
      · go_wp2
        go_quiet (fail)
        go_wp2
        go_ret
        exact ⟨rfl, k4.drewN _⟩
      · have hup : 0 ≤ up := by omega
        obtain ⟨hU1, hU2⟩ := HU.out hup
        have K4 := Lib.hid k4
        clear k4
        cases h3 : tk p e (L + U) ac vs k with
        | none =>
          have HT4 := Lib.hid (fun (w' : World) (hk : Kp w w') => by have := HT3.out w' hk; rw [h3] at this; exact this)
          clear h3
          go_wp2
          go_quiet (fail)
          go_wp2_with (go_at_call 15; refine (HT4.out _ (K4.out.drewN _)).mono ?_; rintro e5 w5 ⟨rfl, k5⟩)
          go_ret
          exact ⟨rfl, k5⟩
        | some x =>
          obtain ⟨rfl, hgt⟩ := HF.out hup x h3
          have HT4 := Lib.hid (fun (q : Nat) => by have := take_any p e (L + U) ac (some ⟨b, off, none⟩) k cap vs (w4.drewN q) (.inr ⟨b, off, rfl, HVC.out.kp ((Kp.refl w4).drewN q)⟩) HN.out hp hp' he he'; rw [h3] at this; exact this)
          clear h3
          go_wp2
          go_quiet (fail)
          go_wp2_with (go_at_call 15; refine (HT4.out _).mono ?_; rintro e5 w5 ⟨rfl, k5⟩; have gp := (HVC.out.kp (((Kp.refl w4).drewN _).trans k5)).p _ hcn)
          go_ret
          exact ⟨rfl, (K4.out.drewN _).trans k5⟩

theorem takes_walk (p e more lv ac up : Int) (ao : Option Addr) (n cap : Nat) (vs : Nat → Vc) (w : World) (hT : TabIn w) (hv : VIn w ao vs n) (hn : n ≤ maxLen)
    (hp : 0 ≤ p) (hp' : p < 4294967296) (he : 0 ≤ e) (he' : e < 4294967296) (hm : 0 ≤ more) (hm' : more < 4294967296) (hl : -9223372036854775808 ≤ lv) (hl' : lv ≤ 9223372036854775807) (ha : -9223372036854775808 ≤ ac) (ha' : ac ≤ 9223372036854775807) (hu : -9223372036854775808 ≤ up) (hu' : up ≤ 9223372036854775807) :
    Calls Tryd.prog 5 #[.int .u32 p, .int .u32 e, .int .u32 more, .int .i64 lv, .int .i64 ac, .int .i64 up, .slice ao n cap] w (Yes w) := by
  by_cases h40 : 40 < n
  · exact takes_out p e more lv ac up ao n cap vs w hT hv hn (.inl h40)
  · by_cases hc : chk vs n = 0
    · cases ho : tk p e lv ac vs n with
      | none => exact takes_none p e more lv ac up ao n cap vs w hT hv hn hc hp hp' he he' hm hm' hl hl' hu' ho
      | some c => exact takes_some p e more lv ac up ao n cap vs w hT hv hn hc hp hp' he he' hm hm' hl hl' hu' c ho
    · exact takes_out p e more lv ac up ao n cap vs w hT hv hn (.inr ⟨by omega, hc⟩)
end Ln
end Go.Proofs.YtlhbpklilfabnaaDoor
