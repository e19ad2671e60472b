/-
  WALK: the statement LinesTurned. Own work.
-/
import Derived.Test.YtlhbpklilfabnaaDoorLinTurnedFacts
import Derived.Test.YtlhbpklilfabnaaDoorLinTakes
import Derived.Laws.StructEq
namespace Go.Proofs.YtlhbpklilfabnaaDoor
namespace Ln
open Go.RowKit Go
set_option linter.unusedVariables false

theorem info_vec : (Tryd.prog.info? 35).map (fun i => (i.zero, i.size, i.bytes)) = some (some (.agg #[.int .i64 0, .int .i64 0, .int .i64 0]), 3, 24) := by kernel_rfl
theorem own_vecs {w : World} {B : Nat} {v : Value} {vs : Nat → Vc} {n : Nat} (h : w.ownsRow B 35 3 v n (vcs vs n)) : ∃ ao cap, v = .slice ao n cap ∧ VIn w ao vs n := by
  rcases h.2 with ⟨rfl, h0⟩ | ⟨g, cap, cur, rfl, hg, hh, h1, h2, h3, h4⟩
  · exact ⟨none, 0, by rw [h0], .inl h0⟩
  · refine ⟨some ⟨g, 0, none⟩, cap, rfl, .inr ⟨g, 0, rfl, (Array.getElem?_eq_some_iff.1 hh).1, fun i hi => ?_, fun i hi => ?_, fun i hi => ?_⟩⟩
    · rw [Nat.zero_add, h.cellAt _ (by omega)]; exact (vcs_at vs n i hi).1
    · rw [Nat.zero_add, h.cellAt _ (by omega)]; exact (vcs_at vs n i hi).2.1
    · rw [Nat.zero_add, h.cellAt _ (by omega)]; exact (vcs_at vs n i hi).2.2

theorem vec_struct : Tryd.prog.underlying 35 = some (.struct (Tryd.prog.fieldsOf 35)) := by kernel_rfl
theorem vec_held : Tryd.prog.stoodInHeld 35 = false := by kernel_rfl
theorem vec_guard : Tryd.prog.eqGuardType Tryd.prog.depth 35 = false := by kernel_rfl
/-- A vector equals itself. -/
theorem vec_self (l p f : Int) (w : World) : (binOp .eql 35 (.agg #[.int .i64 l, .int .i64 p, .int .i64 f]) (.agg #[.int .i64 l, .int .i64 p, .int .i64 f])).run Tryd.prog w = .ok (.bool true) w := by
  have hu := Tryd.underlying35
  have hi := Tryd.underlying3
  rw [run_eql_struct, run_equalIn_agg w 9999 _ _ _ vec_struct vec_held]
  simp [Op.eqFields, Program.fieldsOf, hu, hi, part, go_sem]

set_option maxRecDepth 100000 in
set_option maxHeartbeats 400000 in
theorem turned_out (p e lv ac : Int) (ao : Option Addr) (n cap : Nat) (vs : Nat → Vc) (w : World) (hT : TabIn w) (hv : VIn w ao vs n) (hn : n ≤ maxLen) (h : 40 < n ∨ (n ≤ 40 ∧ ¬ chk vs n = 0)) :
    Calls Tryd.prog 7 #[.int .u32 p, .int .u32 e, .int .i64 lv, .int .i64 ac, .slice ao n cap] w (Yes w) := by
  have HT := Lib.hid hT
  have HV := Lib.hid hv
  have HN := Lib.hid hn
  have hn2 : n ≤ 9223372036854775807 := by unfold maxLen at hn; omega
  clear hT hv hn
  rcases h with h40 | ⟨h40, hc⟩
  · go_enter Tryd.func7, Tryd.ntmps7
    go_wp2_with fail
    refine (lives_yes (Kp.refl w) HT.out).mono ?_
    rintro e1 w1 ⟨rfl, k1⟩
    go_wp2
    go_ret
    exact ⟨rfl, k1⟩
  · have hne : (chk vs n != 0) = true := by simpa using hc
    clear hc
    go_enter Tryd.func7, Tryd.ntmps7
    go_wp2_with fail
    refine (lives_yes (Kp.refl w) HT.out).mono ?_
    rintro e1 w1 ⟨rfl, k1⟩
    go_wp2_with fail
    refine (check_c k1 ao n cap vs (HV.out.kp k1) HN.out _ rfl).mono ?_
    rintro e2 w2 ⟨rfl, k2⟩
    go_wp2
    go_ret
    exact ⟨rfl, k2⟩

set_option maxRecDepth 100000 in
set_option maxHeartbeats 4000000 in
theorem turned_in (p e lv ac : Int) (ao : Option Addr) (n cap : Nat) (vs : Nat → Vc) (w : World) (hT : TabIn w) (hv : VIn w ao vs n) (hn : n ≤ maxLen) (hc : chk vs n = 0)
    (hp : 0 ≤ p) (hp' : p < 4294967296) (he : 0 ≤ e) (he' : e < 4294967296) :
    Calls Tryd.prog 7 #[.int .u32 p, .int .u32 e, .int .i64 lv, .int .i64 ac, .slice ao n cap] w (Yes w) := by
  obtain ⟨i0, hi, hz0, hz1, hz2⟩ := info_parts info_vec
  obtain ⟨h32, hg⟩ := chk_zero.1 hc
  have HT := Lib.hid hT
  have HV := Lib.hid hv
  have HN := Lib.hid hn
  have HG := Lib.hid hg
  have hn2 : n ≤ 9223372036854775807 := by omega
  have h40 : n ≤ 40 := by omega
  have HC1 := Lib.hid (fun (w' : World) (hk : Kp w w') => check_c hk ao n cap vs (hv.kp hk) hn 0 hc)
  have HC2 := Lib.hid (chk_ok h32 (rvs_good hg))
  clear hT hv hn hg hc
  go_enter Tryd.func7, Tryd.ntmps7
  go_wp2_with fail
  refine (lives_yes (Kp.refl w) HT.out).mono ?_
  rintro e1 w1 ⟨rfl, k1⟩
  go_wp2_with fail
  refine (HC1.out _ k1).mono ?_
  rintro e2 w2 ⟨rfl, k2⟩
  clear k1
  have K2 := Lib.hid k2
  clear k2
  have hi1 : -1 ≤ (n : Int) - 1 := by omega
  go_wp2
  go_loopw [11, 12] (fun v i wr => ∃ (k j : Nat), n = k + j ∧ i = .int .i64 ((j : Int) - 1) ∧ wr.ownsRow w2.heap.size 35 3 v k (vcs (rvs vs n) k) ∧ Kp w2 wr) (fun _ i _ => (intOf i + 1).toNat)
  case atStart => exact ⟨0, n, by omega, rfl, World.ownsRow_nil _ _ _ _, Kp.refl _⟩
  case round =>
    obtain ⟨k, j, hnkj, rfl, hown, hkp⟩ := hrel
    have HJ := Lib.hid hnkj
    clear hnkj
    rcases j with _ | j
    · obtain rfl : n = k := by have := HJ.out; omega
      obtain ⟨to, tcap, rfl, hvt⟩ := own_vecs hown
      have K4 := Lib.hid (K2.out.trans hkp)
      have HVT := Lib.hid hvt
      clear hown hkp hvt
      have HVW := Lib.hid (HV.out.kp K4.out)
      have HT3 := Lib.hid (fun (w' : World) (hk : Kp wr w') => check_c hk to n tcap (rvs vs n) (HVT.out.kp hk) HN.out 0 HC2.out)
      cases ho : tk p e lv ac vs n with
      | none =>
        have hr := rvs_none h32 HG.out ho
        have HT1 := Lib.hid (fun (w' : World) (hk : Kp wr w') => take_c hk p e lv ac ao n cap vs (HVW.out.kp hk) HN.out hp hp' he he' 0 false (by rw [ho]; rfl) (by rw [ho]; rfl))
        have HT2 := Lib.hid (fun (w' : World) (hk : Kp wr w') => take_c hk p e lv ac to n tcap (rvs vs n) (HVT.out.kp hk) HN.out hp hp' he he' 0 false (by rw [hr]; rfl) (by rw [hr]; rfl))
        clear ho hr
        go_wp2_with fail
        refine (HT1.out _ (Kp.refl wr)).mono ?_
        rintro e4 w4 ⟨rfl, k4⟩
        go_wp2_with fail
        refine (HT2.out _ k4).mono ?_
        rintro e5 w5 ⟨rfl, k5⟩
        go_wp2_with fail
        refine (HT3.out _ k5).mono ?_
        rintro e6 w6 ⟨rfl, k6⟩
        go_wp2
        go_ret
        exact ⟨rfl, K4.out.trans k6⟩
      | some c =>
        have hcn := (tk_some ho).2.2.1
        obtain ⟨m, hr, hmn, hmc⟩ := rvs_some ho
        have hln := HG.out.line hcn
        obtain ⟨hl0, hl1⟩ := hln
        have hbl := bitV_bd hl0 hl1
        obtain ⟨hbl0, hbl1⟩ := hbl
        have hpb := andNot_bd hp hp' (show 0 ≤ bitV (vs c).l by omega) hbl1
        obtain ⟨b, off, hao, hvc⟩ := HVW.out.at hcn
        subst hao
        obtain ⟨bt, ot, hto, hvct⟩ := HVT.out.at hmn
        subst hto
        have HVC := Lib.hid hvc
        have HVCT := Lib.hid hvct
        have HTS := Lib.hid hmc
        have HT1 := Lib.hid (fun (w' : World) (hk : Kp wr w') => take_c hk p e lv ac _ n cap vs (HVW.out.kp hk) HN.out hp hp' he he' (c : Int) true (by rw [ho]; rfl) (by rw [ho]; rfl))
        have HT2 := Lib.hid (fun (w' : World) (hk : Kp wr w') => take_c hk p e lv ac _ n tcap (rvs vs n) (HVT.out.kp hk) HN.out hp hp' he he' (m : Int) true (by rw [hr]; rfl) (by rw [hr]; rfl))
        have HOF := Lib.hid (fun (w' : World) => of_any (some ⟨w'.heap.size, 0, none⟩) 1 1 (fun _ => (vs c).l) (w'.alloc (.cells #[.int .i64 (vs c).l] 3)) (.inr ⟨_, _, rfl, by simp, fun i hi => by
          obtain rfl : i = 0 := by omega
          simp⟩) (by decide))
        have HO1 := Lib.hid (set_one hl0 hl1)
        have HFD := Lib.hid (fun (w' : World) (hk : Kp wr w') => (find_any _ n cap vs (vs c).l w' (HVW.out.kp hk) HN.out).mono (R' := fun e w'' => e = .returned (.tuple #[.int .i64 (c : Int), .bool true]) ∧ Kp wr w'') fun _ _ ⟨h, k⟩ => ⟨by rw [h, fnd_at HG.out hcn]; rfl, hk.trans k⟩)
        have HT4 := Lib.hid (fun (w' : World) (hk : Kp wr w') (i : Int) (q : Bool) (h1 : oi (tk (bits .andNot .u32 p (bitV (vs c).l)) e lv ac vs n) = i) (h2 : ob (tk (bits .andNot .u32 p (bitV (vs c).l)) e lv ac vs n) = q) => take_c hk (bits .andNot .u32 p (bitV (vs c).l)) e lv ac _ n cap vs (HVW.out.kp hk) HN.out hpb.1 hpb.2 he he' i q h1 h2)
        have HLE := Lib.hid (fun (d : Nat) (h : tk (bits .andNot .u32 p (bitV (vs c).l)) e lv ac vs n = some d) => tk_less hp hp' ho h)
        have ic0 : (0 : Int) ≤ (c : Int) := Int.natCast_nonneg _
        have ic1 : (c : Int) < (n : Int) := by omega
        have im0 : (0 : Int) ≤ (m : Int) := Int.natCast_nonneg _
        have im1 : (m : Int) < (n : Int) := by omega
        clear ho hr hvc hvct hmc hpb
        go_wp2_with fail
        refine (HT1.out _ (Kp.refl wr)).mono ?_
        rintro e4 w4 ⟨rfl, k4⟩
        go_wp2_with fail
        refine (HT2.out _ k4).mono ?_
        rintro e5 w5 ⟨rfl, k5⟩
        clear k4
        go_wp2_with fail
        refine (HT3.out _ k5).mono ?_
        rintro e6 w6 ⟨rfl, k6⟩
        clear k5
        have K6 := Lib.hid k6
        have hb6 := (HVC.out.kp k6).size
        have cl6 := (HVC.out.kp k6).l c hcn
        clear k6
        go_wp2_with fail
        refine (HOF.out w6).mono ?_
        rintro e7 w7 ⟨rfl, rfl⟩
        rw [HO1.out.1, HO1.out.2]
        go_wp2_with fail
        refine (HFD.out _ (K6.out.alloc _ _)).mono ?_
        rintro e8 w8 ⟨rfl, k8⟩
        cases h4 : tk (bits .andNot .u32 p (bitV (vs c).l)) e lv ac vs n with
        | none =>
          have HT5 := Lib.hid (HT4.out _ k8 0 false (by rw [h4]; rfl) (by rw [h4]; rfl))
          clear h4
          go_wp2_with fail
          refine HT5.out.mono ?_
          rintro e9 w9 ⟨rfl, k9⟩
          have K9 := Lib.hid k9
          have cl9 := (HVC.out.kp k9).l c hcn
          have cp9 := (HVC.out.kp k9).p c hcn
          have cf9 := (HVC.out.kp k9).f c hcn
          have tl9 := (HVCT.out.kp k9).l m hmn
          have tp9 := (HVCT.out.kp k9).p m hmn
          have tf9 := (HVCT.out.kp k9).f m hmn
          rw [HTS.out] at tl9 tp9 tf9
          clear k8 k9 cl6 hb6
          have hvs := vec_self (vs c).l (vs c).p (vs c).f
          have hvg := vec_guard
          go_wp2
          go_quiet (fail)
          go_wp2
          go_ret
          exact ⟨rfl, (K4.out.trans K9.out).drewN _⟩
        | some d =>
          obtain ⟨hdn, hdc, hdp⟩ := HLE.out d h4
          have HT5 := Lib.hid (HT4.out _ k8 (d : Int) true (by rw [h4]; rfl) (by rw [h4]; rfl))
          have id0 : (0 : Int) ≤ (d : Int) := Int.natCast_nonneg _
          have id1 : (d : Int) < (n : Int) := by omega
          have hdc1 : ((d : Int) != (c : Int)) = true := by simp; omega
          have hdc2 : (d != c) = true := by simp; omega
          clear hdc
          clear h4
          go_wp2_with fail
          refine HT5.out.mono ?_
          rintro e9 w9 ⟨rfl, k9⟩
          have K9 := Lib.hid k9
          have cl9 := (HVC.out.kp k9).l c hcn
          have cp9 := (HVC.out.kp k9).p c hcn
          have cf9 := (HVC.out.kp k9).f c hcn
          have tl9 := (HVCT.out.kp k9).l m hmn
          have tp9 := (HVCT.out.kp k9).p m hmn
          have tf9 := (HVCT.out.kp k9).f m hmn
          have dp9 := (HVC.out.kp k9).p d hdn
          rw [HTS.out] at tl9 tp9 tf9
          clear k8 k9 cl6 hb6
          have hvs := vec_self (vs c).l (vs c).p (vs c).f
          have hvg := vec_guard
          go_wp2
          go_quiet (fail)
          go_wp2
          go_ret
          exact ⟨rfl, (K4.out.trans K9.out).drewN _⟩
    · have hjn : j < n := by have := HJ.out; omega
      obtain ⟨b, off, hao, hvc⟩ := (HV.out.kp (K2.out.trans hkp)).at hjn
      subst hao
      have cl := hvc.l j hjn
      have cp := hvc.p j hjn
      have cf := hvc.f j hjn
      clear hvc
      have ij0 : (0 : Int) ≤ (j : Int) := Int.natCast_nonneg _
      have ij1 : (j : Int) < (n : Int) := by omega
      have hk32 : k ≤ 32 := by have := HJ.out; omega
      go_wp2_with (at_builtin; refine wpList_append_own _ rfl _ _ 28 rfl w2.heap.size 35 i0 (.agg #[.int .i64 0, .int .i64 0, .int .i64 0]) 3 24 Tryd.underlying28 hi hz0 hz1 hz2 rfl (by decide) _ _ _ rfl (hown.alloc _) ⟨wr.heap.size, 0, none⟩ 1 1 [.int .i64 (vs j).l, .int .i64 (vs j).p, .int .i64 (vs j).f] rfl rfl ?c1 ?c2 ?c3 ?c4 ?c5 ?_)
      case c1 =>
        intro i u hj
        match i, hj with
        | 0, hj => simp at hj; subst hj; simp [Addr.add]
        | 1, hj => simp at hj; subst hj; simp [Addr.add]
        | 2, hj => simp at hj; subst hj; simp [Addr.add]
      case c2 =>
        intro u hu
        simp at hu
        rcases hu with rfl | rfl | rfl <;> rfl
      case c3 => unfold maxLen; omega
      case c4 => omega
      case c5 => have := hkp.size; simp; omega
      intro v' wa hown' hgrow _
      have hk1 : Kp w2 wa := ⟨(hkp.alloc _ _).below.grown hgrow (by have := hkp.size; simp; omega) (fun k hk => (hown.lt k hk).1)⟩
      have hown2 : wa.ownsRow w2.heap.size 35 3 v' (k + 1) (vcs (rvs vs n) (k + 1)) := by
        have e : rvs vs n k = vs j := by unfold rvs; rw [show n - 1 - k = j by have := HJ.out; omega]
        rw [vcs, e]; exact hown'
      clear hown' hgrow hown
      go_wp2
      go_roundw
      case rel => exact ⟨k + 1, j, by have := HJ.out; omega, by go_num, hown2, hk1⟩
      case measure => simp [intOf]

theorem turned_walk (p e lv ac : Int) (ao : Option Addr) (n cap : Nat) (vs : Nat → Vc) (w : World) (hT : TabIn w) (hv : VIn w ao vs n) (hn : n ≤ maxLen)
    (hp : 0 ≤ p) (hp' : p < 4294967296) (he : 0 ≤ e) (he' : e < 4294967296) (_hl : -9223372036854775808 ≤ lv) (_hl' : lv ≤ 9223372036854775807) (_ha : -9223372036854775808 ≤ ac) (_ha' : ac ≤ 9223372036854775807) :
    Calls Tryd.prog 7 #[.int .u32 p, .int .u32 e, .int .i64 lv, .int .i64 ac, .slice ao n cap] w (Yes w) := by
  by_cases h40 : 40 < n
  · exact turned_out p e lv ac ao n cap vs w hT hv hn (.inl h40)
  · by_cases hc : chk vs n = 0
    · exact turned_in p e lv ac ao n cap vs w hT hv hn hc hp hp' he he'
    · exact turned_out p e lv ac ao n cap vs w hT hv hn (.inr ⟨by omega, hc⟩)
end Ln
end Go.Proofs.YtlhbpklilfabnaaDoor
