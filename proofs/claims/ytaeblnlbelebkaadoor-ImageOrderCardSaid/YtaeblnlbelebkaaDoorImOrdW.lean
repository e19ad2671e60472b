/-
  WALKS: the statement ImageOrder. Own work.
-/
import Derived.Test.YtaeblnlbelebkaaDoorImLives
import Derived.Test.YtaeblnlbelebkaaDoorImLight
import Derived.Test.YtaeblnlbelebkaaDoorImMapB
namespace Go.Proofs.YtaeblnlbelebkaaDoor
namespace Im
open Go.RowKit Go Go.Maps
open Co (Kp ret_int ret_bool ret2_int In in0 IIn Ics Wf bytesOf)
open Ln (VIn Vcs)
set_option linter.unusedVariables false

/-- The call under way: the image's box, the variables. -/
structure Bi (w wi : World) (p : Nat) (h : Hd) (m : Im) : Prop where
  ptr : Ptr wi p h m
  env : Co.Env wi
  k : Kp w wi
theorem Bi.kp {w wi wj : World} {p : Nat} {h : Hd} {m : Im} (s : Bi w wi p h m) (k : Kp wi wj) : Bi w wj p h m :=
  ⟨s.ptr.kp k, s.env.kept k, s.k.trans k⟩
theorem kp_grown' {w w1 w2 : World} (k : Kp w w1) {M : Nat} (h : w1.grownBy w2 (some M)) (hM : w.heap.size ≤ M) : Kp w w2 :=
  ⟨k.below.trans ⟨h.os, h.tape, h.output, h.size, fun i hi => h.block i (Nat.lt_of_lt_of_le hi k.size) (fun e => by injection e with e; omega)⟩⟩
theorem kp_map (w : World) : Kp w (w.alloc (.map #[] 0)) := ⟨(Below.refl _ w).alloc (Nat.le_refl _) _⟩
/-- Where the k-th function begins; behind the last one, the end. -/
def frE (m : Im) (k : Nat) : Int := if k < m.funcs.length then m.fr k else m.code.length
theorem fr_next {m : Im} {k : Nat} : frE m (k + 1) = m.to k := by
  unfold frE
  by_cases h : k + 1 < m.funcs.length
  · rw [if_pos h, to_next h]
  · rw [if_neg h, to_last h]
theorem of_in {m : Im} (hF : FnsB m) {k : Nat} (hk : k < m.funcs.length) {a : Int} (h0 : m.fr k ≤ a) (h1 : a < m.to k) : ofK m a m.funcs.length = some k := by
  refine ofK_hit ?_ ⟨h0, h1⟩ _ hk
  rw [ofK_none]
  intro f hf h
  have := hF.mono hf hk
  omega
theorem of_ans {m : Im} (hc : chkI m = 0) {k : Nat} (hk : k < m.funcs.length) {a : Int} (h0 : m.fr k ≤ a) (h1 : a < m.to k) : ofR (ofA m a) = (k : Int) ∧ (ofA m a).isSome = true := by
  have := of_in (chkI_zero.1 hc).2.1.fns hk h0 h1
  rw [ofA_yes hc, this]
  exact ⟨rfl, rfl⟩
theorem rg_ans {m : Im} (hc : chkI m = 0) {k : Nat} (hk : k < m.funcs.length) : rgA m k = m.fr k ∧ rgB m k = m.to k := by
  unfold rgA rgB
  have : chkI m = 0 ∧ (0 : Int) ≤ (k : Int) ∧ (k : Int) < m.funcs.length := ⟨hc, by omega, by omega⟩
  rw [if_pos this, if_pos this, Int.toNat_natCast]
  exact ⟨rfl, rfl⟩
set_option maxHeartbeats 8000000 in
set_option maxRecDepth 100000 in
theorem order_walk {w : World} (hE : Co.Env w) {h : Hd} {m : Im} (hin : ImIn w h m) (hW : ImWf m) :
    Calls Tryd.prog 5 #[h.val m] w fun e w' => e = .returned (.bool true) ∧ Kp w w' := by
  have K1 := (Kp.refl w).alloc #[.slice h.aC m.code.length h.cC, .slice h.aF m.funcs.length h.cF, .slice h.aV m.vecs.length h.cV, .int .i64 m.main, .slice h.aI m.init.length h.cI, .slice h.aP m.ports.length h.cP, .int .i64 m.stack, .slice h.aA m.atoms.length h.cA] 29
  have B1 := Lib.hid (Bi.mk (Ptr.new hin) (hE.kept K1) K1)
  have HW := Lib.hid hW
  clear hE hin hW K1
  unfold Hd.val
  go_enter Tryd.func5, Tryd.ntmps5
  go_upto_region 1 with (fail)
  revert B1
  generalize w.alloc _ = w1
  generalize w.heap.size = p
  intro B1
  go_wp2_with fail
  refine (lives_any B1.out.env).mono ?_
  rintro e w2 ⟨rfl, k2⟩
  have B2 := Lib.hid (B1.out.kp k2)
  clear B1 k2
  have c0 := B2.out.ptr.c0
  have c1 := B2.out.ptr.c1
  have c2 := B2.out.ptr.c2
  have c3 := B2.out.ptr.c3
  have c4 := B2.out.ptr.c4
  have c5 := B2.out.ptr.c5
  have c6 := B2.out.ptr.c6
  have c7 := B2.out.ptr.c7
  go_wp2_with fail
  refine (Light_any (h := h) (m := m) B2.out.ptr.in' HW.out).mono ?_
  rintro e w3 ⟨b, rfl, _, k3⟩
  have B3 := Lib.hid (B2.out.kp k3)
  clear c0 c1 c2 c3 c4 c5 c6 c7 B2 k3
  cases b with
  | false =>
    go_wp2
    go_ret
    exact ⟨rfl, B3.out.k⟩
  | true =>
  have c0 := B3.out.ptr.c0
  have c1 := B3.out.ptr.c1
  have c2 := B3.out.ptr.c2
  have c3 := B3.out.ptr.c3
  have c4 := B3.out.ptr.c4
  have c5 := B3.out.ptr.c5
  have c6 := B3.out.ptr.c6
  have c7 := B3.out.ptr.c7
  by_cases hq : chkI m = 0
  case neg =>
    have hne : (chkI m != 0) = true := by simpa using hq
    generalize hqq : chkI m = q at *
    have HQ := Lib.hid hqq
    clear hq hqq
    go_wp2_with fail
    refine (Check_any (h := h) (m := m) B3.out.env B3.out.ptr.in' HW.out).mono ?_
    rw [HQ.out]
    rintro e w4 ⟨rfl, k4⟩
    go_wp2
    go_ret
    exact ⟨rfl, B3.out.k.trans k4⟩
  case pos =>
  have HQ := Lib.hid hq
  clear hq
  go_wp2_with fail
  refine (Check_any (h := h) (m := m) B3.out.env B3.out.ptr.in' HW.out).mono ?_
  rw [HQ.out]
  rintro e w4 ⟨rfl, k4⟩
  have B4 := Lib.hid (B3.out.kp k4)
  clear c0 c1 c2 c3 c4 c5 c6 c7 B3 k4
  have c0 := B4.out.ptr.c0
  have c1 := B4.out.ptr.c1
  have c2 := B4.out.ptr.c2
  have c3 := B4.out.ptr.c3
  have c4 := B4.out.ptr.c4
  have c5 := B4.out.ptr.c5
  have c6 := B4.out.ptr.c6
  have c7 := B4.out.ptr.c7
  obtain ⟨l, hl⟩ : ∃ l, orderL m = l := ⟨_, rfl⟩
  have hlA : orA m = l := by unfold orA; rw [if_pos HQ.out, hl]
  have HLA := Lib.hid hlA
  have HLN : Hid (l.length = m.funcs.length) := Lib.hid (by rw [← hl]; exact (chkI_zero.1 HQ.out).2.2.len (Nat.le_refl _))
  have HAT : Hid (∀ k, k < m.funcs.length → l.getD k 0 < m.funcs.length ∧ l.getD k 0 ∉ l.take k ∧ ∀ g ∈ callsOf m (l.getD k 0), g ∈ l.take k) := Lib.hid (fun k hk => by rw [← hl]; exact order_at (chkI_zero.1 HQ.out).2.2 hk)
  have HN64 : m.funcs.length ≤ 64 := by have := (chkI_zero.1 HQ.out).1; unfold Long Large at this; omega
  clear hl hlA
  go_wp2_with fail
  refine (Order_any (h := h) (m := m) B4.out.env B4.out.ptr.in' HW.out l HLA.out).mono ?_
  rintro e w5 ⟨v, rfl, ⟨ao, cap, rfl, hli, hlm⟩, k5⟩
  have B5 := Lib.hid (B4.out.kp k5)
  obtain ⟨n, hn⟩ : ∃ n, l.length = n := ⟨_, rfl⟩
  have HN := Lib.hid hn
  rw [hn] at hlm ⊢
  have hlm2 : (n : Int) ≤ 64 := by have := HLN.out; omega
  clear hn
  have HI5 := Lib.hid hli
  clear c0 c1 c2 c3 c4 c5 c6 c7 B4 k5 hli
  have hmm := @run_makeMap Tryd.prog
  have K6 := kp_map w5
  have M6 := MapB.new w5
  have hM : w5.heap.size ≤ w5.heap.size := Nat.le_refl _
  go_upto_region 7 with (fail)
  revert K6 M6
  generalize w5.alloc _ = w6
  intro K6 M6
  obtain ⟨M, hM⟩ : ∃ M, w5.heap.size = M := ⟨_, rfl⟩
  rw [hM] at M6 ⊢
  have HM := Lib.hid hM
  have M0 : MapB w6 M 0 (tOf l 0) := by rw [tOf_zero]; exact M6
  clear hM M6 hmm
  go_wp2_with fail
  go_loopw [5] (fun i wr => ∃ k : Nat, k ≤ n ∧ i = .int .i64 k ∧ MapB wr M k (tOf l k) ∧ Kp w5 wr) (fun i _ => n - (intOf i).toNat)
  case atStart => exact ⟨0, Nat.zero_le _, rfl, M0, K6⟩
  case round =>
    obtain ⟨k, hk, rfl, hmp, kr⟩ := hrel
    by_cases hlt : k < n
    · have HB := Lib.hid (B5.out.kp kr)
      have c0 := HB.out.ptr.c0
      have c1 := HB.out.ptr.c1
      have c2 := HB.out.ptr.c2
      have c3 := HB.out.ptr.c3
      have c4 := HB.out.ptr.c4
      have c5 := HB.out.ptr.c5
      have c6 := HB.out.ptr.c6
      have c7 := HB.out.ptr.c7
      have hkl : k < l.length := by rw [HN.out]; exact hlt
      have hkf : k < m.funcs.length := by rw [← HLN.out]; exact hkl
      obtain ⟨b, off, hao, hics⟩ := IIn.at HI5.out hkl
      have hx := (hics.kp kr).at' k hkl
      have zb : b < wr.heap.size := (hics.kp kr).size
      have HX := Lib.hid (HAT.out k hkf)
      have HNX := Lib.hid (tOf_next hkl)
      have ht0 : tOf l k ((l.getD k 0 : Nat) : Int) = false := by rw [tOf_mem]; exact decide_eq_false HX.out.2.1
      try simp only at hx
      generalize hX : l.getD k 0 = x at *
      have hxF : (x : Int) < (m.funcs.length : Int) := by have := HX.out.1; omega
      have hx0 : (0 : Int) ≤ (x : Int) := Int.natCast_nonneg _
      obtain ⟨L, hL⟩ : ∃ L, callsOf m x = L := ⟨_, rfl⟩
      have HL : Hid (caA m (x : Int) = L) := Lib.hid (by unfold caA; rw [if_pos ⟨HQ.out, hx0, hxF⟩, Int.toNat_natCast]; exact hL)
      have HLg : Hid (∀ j, j < L.length → L.getD j 0 < 64 ∧ tOf l k ((L.getD j 0 : Nat) : Int) = true) := Lib.hid (fun j hj => by
        have hm := getD_mem hj
        have h1 := callsOf_lt (chkI_zero.1 HQ.out).2.1.ins HX.out.1 (g := L.getD j 0) (by rw [hL]; exact hm)
        refine ⟨by omega, ?_⟩
        rw [tOf_mem]
        exact decide_eq_true (HX.out.2.2 _ (by rw [hL]; exact hm)))
      have HT0 := Lib.hid ht0
      have HMP := Lib.hid hmp
      have KR := Lib.hid kr
      have hk0 : (0 : Int) ≤ (k : Int) := Int.natCast_nonneg _
      have hk1 : (k : Int) < (n : Int) := by omega
      clear hL hX ht0 hmp kr hics hkl hkf
      rw [hao]
      go_wp2_with fail
      go_region_with (go_at_call 20; refine (Calls_any (h := h) (m := m) ((HB.out.kp ((Kp.refl wr).drew)).env) ((HB.out.kp ((Kp.refl wr).drew)).ptr.in') HW.out (x : Int) L HL.out).mono ?_; rintro e w7 ⟨v, rfl, ⟨aL, cL, rfl, hLI, hLm⟩, k7⟩)
      all_goals
        have KD := Lib.hid (((Kp.refl wr).drew).trans k7)
        have HB7 := Lib.hid (HB.out.kp KD.out)
        have HM7 := Lib.hid (HMP.out.kp KD.out)
        have hx7 : w7.cell? ⟨b, off + k, none⟩ = some (.int .i64 (x : Int)) := (KD.out.cells _ _ zb).trans hx
        have HLI := Lib.hid hLI
        have c17 := HB7.out.ptr.c1
        obtain ⟨q, hq⟩ : ∃ q, L.length = q := ⟨_, rfl⟩
        have HQL := Lib.hid hq
        rw [hq] at hLm ⊢
        clear c0 c1 c2 c3 c4 c5 c6 c7 HB k7 hx hLI hq
        go_wp2_with fail
        go_loop [7] (fun i => ∃ j : Nat, j ≤ q ∧ i = .int .i64 j) (fun i => q - (intOf i).toNat)
        case atStart => exact ⟨0, Nat.zero_le _, rfl⟩
        case round =>
          obtain ⟨j, hj, rfl⟩ := hrel
          by_cases hjt : j < q
          · have hjl : j < L.length := by rw [HQL.out]; exact hjt
            obtain ⟨b2, off2, hao2, hics2⟩ := IIn.at HLI.out hjl
            have hg := hics2.at' j hjl
            have hgp := HLg.out j hjl
            try simp only at hg
            have hj0 : (0 : Int) ≤ (j : Int) := Int.natCast_nonneg _
            have hj1 : (j : Int) < (q : Int) := by omega
            generalize L.getD j 0 = g at *
            have hlook := HM7.out.look (g : Int) (wf64 (by omega) (by omega)) true hgp.2
            rw [hao2]
            clear hgp hics2
            go_wp2
            go_round
            case rel => exact ⟨j + 1, by omega, by go_num⟩
            case measure => simp [intOf]; omega
          · obtain rfl : j = q := by omega
            have hl0 := HM7.out.look (x : Int) (wf64 (by omega) (by omega)) false HT0.out
            have hl1 := HM7.out.look_drew (x : Int) (wf64 (by omega) (by omega)) false HT0.out
            have hl2 := HM7.out.look_drewN (x : Int) (wf64 (by omega) (by omega)) false HT0.out
            have hge : decide ((m.funcs.length : Int) ≤ (x : Int)) = false := by simp; omega
            have hl3 : decide ((x : Int) < 0) = false := by simp
            go_wp2_with fail
            go_quiet (fail)
            go_wp2_with (first
              | (at_mapUpdate; refine mapB_put _ rfl _ _ _ rfl M k (tOf l k) rfl (HM7.out.kp ((Kp.refl w7).drewN nq)) (by unfold maxLen; omega) (x : Int) rfl (wf64 (by omega) (by omega)) true rfl ?_; intro w8 hm8 hg8)
              | go_in)
            go_roundw
            case rel => exact ⟨k + 1, by omega, by go_num, by have e := HNX.out; rw [e] at hm8; exact hm8, kp_grown' ((KR.out.trans KD.out).drewN nq) hg8 (by have := HM.out; omega)⟩
            case measure => simp [intOf]; omega
    · have HB := Lib.hid (B5.out.kp kr)
      have hnf : ((n : Int) == (m.funcs.length : Int)) = true := by
        have e1 := HN.out
        have e2 := HLN.out
        have : n = m.funcs.length := by omega
        rw [this]
        simp
      have hcl : (m.code.length : Int) ≤ 16384 := by have := (chkI_zero.1 HQ.out).1; unfold Long Large at this; omega
      have hfr0 : frE m 0 = 0 := by
        have hF := (chkI_zero.1 HQ.out).2.1.fns
        unfold frE
        rw [if_pos (by have := hF.1; omega)]
        exact hF.2.1
      have HF0 := Lib.hid hfr0
      clear hmp kr hfr0 hk
      go_wp2_with fail
      go_loopw [8, 9] (fun a i ws => ∃ j : Nat, j ≤ m.funcs.length ∧ i = .int .i64 j ∧ a = .int .i64 (frE m j) ∧ Kp wr ws) (fun _ i _ => m.funcs.length - (intOf i).toNat)
      case atStart => exact ⟨0, Nat.zero_le _, rfl, by rw [HF0.out], Kp.refl _⟩
      case round =>
        obtain ⟨j, hj, rfl, rfl, ks⟩ := hrel
        have HS := Lib.hid (HB.out.kp ks)
        have c0 := HS.out.ptr.c0
        have c1 := HS.out.ptr.c1
        have c2 := HS.out.ptr.c2
        have c3 := HS.out.ptr.c3
        have c4 := HS.out.ptr.c4
        have c5 := HS.out.ptr.c5
        have c6 := HS.out.ptr.c6
        have c7 := HS.out.ptr.c7
        by_cases hjt : j < m.funcs.length
        · have hF := (chkI_zero.1 HQ.out).2.1.fns
          have hlt2 := hF.step hjt
          have h0 := hF.fr0 hjt
          have h1 := hF.toN hjt
          have HRG := Lib.hid (rg_ans HQ.out hjt)
          have HO1 := Lib.hid (of_ans HQ.out hjt (a := m.fr j) (Int.le_refl _) hlt2)
          have HO2 := Lib.hid (of_ans HQ.out hjt (a := m.to j - 1) (by omega) (by omega))
          have HEN : Hid (frE m (j + 1) = m.to j) := Lib.hid fr_next
          have e : frE m j = m.fr j := by unfold frE; rw [if_pos hjt]
          rw [e]
          have HKS := Lib.hid ks
          clear hF e ks
          generalize m.fr j = F at *
          generalize m.to j = T at *
          have hj0 : (0 : Int) ≤ (j : Int) := Int.natCast_nonneg _
          have hj1 : (j : Int) < (m.funcs.length : Int) := by omega
          go_wp2_with fail
          refine (Range_any (h := h) (m := m) HS.out.env HS.out.ptr.in' HW.out (j : Int) F T HRG.out.1 HRG.out.2).mono ?_
          rintro e w8 ⟨rfl, k8⟩
          have H8 := Lib.hid (HS.out.kp k8)
          have K8 := Lib.hid (HKS.out.trans k8)
          clear c0 c1 c2 c3 c4 c5 c6 c7 k8 HS
          have c0 := H8.out.ptr.c0
          have c1 := H8.out.ptr.c1
          have c2 := H8.out.ptr.c2
          have c3 := H8.out.ptr.c3
          have c4 := H8.out.ptr.c4
          have c5 := H8.out.ptr.c5
          have c6 := H8.out.ptr.c6
          have c7 := H8.out.ptr.c7
          have ht : decide (T ≤ F) = false := by simp; omega
          go_wp2_with fail
          refine (Of_any (h := h) (m := m) H8.out.env H8.out.ptr.in' HW.out F (j : Int) true HO1.out.1 HO1.out.2).mono ?_
          rintro e w9 ⟨rfl, k9⟩
          have H9 := Lib.hid (H8.out.kp k9)
          have K9 := Lib.hid (K8.out.trans k9)
          clear c0 c1 c2 c3 c4 c5 c6 c7 k9 H8 K8
          have c0 := H9.out.ptr.c0
          have c1 := H9.out.ptr.c1
          have c2 := H9.out.ptr.c2
          have c3 := H9.out.ptr.c3
          have c4 := H9.out.ptr.c4
          have c5 := H9.out.ptr.c5
          have c6 := H9.out.ptr.c6
          have c7 := H9.out.ptr.c7
          have hw : IntKind.i64.wrap (T - 1) = T - 1 := IntWalk.i64_in _ (by omega)
          go_wp2_with fail
          refine (Of_any (h := h) (m := m) H9.out.env H9.out.ptr.in' HW.out (T - 1) (j : Int) true HO2.out.1 HO2.out.2).mono ?_
          rintro e w10 ⟨rfl, k10⟩
          have H10 := Lib.hid (H9.out.kp k10)
          have K10 := Lib.hid (K9.out.trans k10)
          clear c0 c1 c2 c3 c4 c5 c6 c7 k10 H9 K9
          go_wp2_with fail
          go_roundw
          case rel => exact ⟨j + 1, by omega, by go_num, by rw [HEN.out], K10.out⟩
          case measure => simp [intOf]; omega
        · have e : frE m j = m.code.length := by unfold frE; rw [if_neg hjt]
          rw [e]
          have HKS := Lib.hid ks
          clear e ks
          obtain rfl : j = m.funcs.length := by omega
          go_wp2
          go_ret
          exact ⟨rfl, HS.out.k⟩
end Im
end Go.Proofs.YtaeblnlbelebkaaDoor
