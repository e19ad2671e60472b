/-
  WALKS: the statement ImageApart. Own work.
-/
import Derived.Test.YtaeblnlbelebkaaGreatDoorImEqB
import Derived.Test.YtaeblnlbelebkaaGreatDoorImLives
import Derived.Test.YtaeblnlbelebkaaGreatDoorImLight
import Derived.Test.YtaeblnlbelebkaaGreatDoorImTexts
import Derived.Test.YtaeblnlbelebkaaGreatDoorCpC
import Derived.Deep.RegionHeld3
namespace Go.Proofs.YtaeblnlbelebkaaGreatDoor
namespace Im
open Go.RowKit Go
open Co (Kp ret_int ret_bool ret2_int In in0 IIn Ics Wf bytesOf)
open Ln (VIn Vcs)
set_option linter.unusedVariables false

theorem all_chk {m : Im} (h : chkI m = 0) {i : Nat} (hi : i < m.code.length) : Co.chk (m.code.getD i in0) = true := by
  obtain ⟨_, hm, _⟩ := chkI_zero.1 h
  obtain ⟨f, hf, h1, h2⟩ := hm.fns.owner hi
  have h0 := hm.fns.fr0 hf
  have := (hm.ins f hf (i - (m.fr f).toNat) (by omega)).chk
  rw [show (m.fr f).toNat + (i - (m.fr f).toNat) = i by omega] at this
  exact this
theorem byA_same {m o : Im} (h : chkI m = 0) (g : chkI o = 0) (hm : ImWf m) (ho : ImWf o) : byA m = byA o ↔ m = o := by
  unfold byA
  rw [if_pos h, if_pos g]
  exact ⟨fun e => byts_inj h g hm.init ho.init e, fun e => by rw [e]⟩
theorem back_ins {i : In} (h : Co.chk i = true) : Co.prsI (Co.txt i) = i ∧ Co.prsE (Co.txt i) = 0 ∧ (Co.txt i).length ≤ 100 :=
  ⟨Co.prsI_some (Co.prs_txt h), Co.prsE_some (Co.prs_txt h), by have := Co.txt_len i; omega⟩
theorem alloc_new_of {w w5 : World} {cs : Array Value} {t : TypeId} (h : w.alloc (.cells cs t) = w5) : (∀ o, w5.cell? ⟨w.heap.size, o, none⟩ = cs[o]?) ∧ Kp w w5 ∧ w.heap.size < w5.heap.size ∧ ∀ o, w5.frozen? ⟨w.heap.size, o, none⟩ = false := by
  subst h
  exact ⟨fun o => new_alloc (Kp.refl _) o, (Kp.refl w).alloc _ _, by simp, fun o => by simp⟩
/-- The call under way: both images' boxes, the variables. -/
structure Ap (w wi : World) (p : Nat) (h g : Hd) (m o : Im) : Prop where
  p1 : Ptr wi p h m
  p2 : Ptr wi (p + 1) g o
  env : Co.Env wi
  pw : Co.Pw wi
  k : Kp w wi
theorem Ap.kp {w wi wj : World} {p : Nat} {h g : Hd} {m o : Im} (s : Ap w wi p h g m o) (k : Kp wi wj) : Ap w wj p h g m o :=
  ⟨s.p1.kp k, s.p2.kp k, s.env.kept k, s.pw.kept k, s.k.trans k⟩
set_option maxHeartbeats 8000000 in
set_option maxRecDepth 100000 in
theorem apart_walk {w : World} (hE : Co.Env w) (hP : Co.Pw w) {h g : Hd} {m o : Im} (hm : ImIn w h m) (hW : ImWf m) (ho : ImIn w g o) (hV : ImWf o) :
    Calls Tryz.prog 4 #[h.val m, g.val o] w fun e w' => e = .returned (.bool true) ∧ Kp w w' := by
  have P1 := (Ptr.new hm).kp ((Kp.refl _).alloc #[.slice g.aC o.code.length g.cC, .slice g.aF o.funcs.length g.cF, .slice g.aV o.vecs.length g.cV, .int .i64 o.main, .slice g.aI o.init.length g.cI, .slice g.aP o.ports.length g.cP, .int .i64 o.stack, .slice g.aA o.atoms.length g.cA] 29)
  have P2 := ptr_two #[.slice h.aC m.code.length h.cC, .slice h.aF m.funcs.length h.cF, .slice h.aV m.vecs.length h.cV, .int .i64 m.main, .slice h.aI m.init.length h.cI, .slice h.aP m.ports.length h.cP, .int .i64 m.stack, .slice h.aA m.atoms.length h.cA] 29 ho
  have K2 := (((Kp.refl w).alloc #[.slice h.aC m.code.length h.cC, .slice h.aF m.funcs.length h.cF, .slice h.aV m.vecs.length h.cV, .int .i64 m.main, .slice h.aI m.init.length h.cI, .slice h.aP m.ports.length h.cP, .int .i64 m.stack, .slice h.aA m.atoms.length h.cA] 29).alloc #[.slice g.aC o.code.length g.cC, .slice g.aF o.funcs.length g.cF, .slice g.aV o.vecs.length g.cV, .int .i64 o.main, .slice g.aI o.init.length g.cI, .slice g.aP o.ports.length g.cP, .int .i64 o.stack, .slice g.aA o.atoms.length g.cA] 29)
  have B := Lib.hid (Ap.mk P1 P2 (hE.kept K2) (hP.kept K2) K2)
  have HW := Lib.hid hW
  have HV := Lib.hid hV
  clear hm ho hW hV hE hP P1 P2 K2
  unfold Hd.val
  go_enter Tryz.func4, Tryz.ntmps4
  go_upto_region 1 with (fail)
  revert B
  generalize (w.alloc _).alloc _ = w2
  generalize w.heap.size = p
  intro B
  go_wp2_with fail
  refine (lives_any B.out.env).mono ?_
  rintro e w3 ⟨rfl, k3⟩
  have B := Lib.hid (B.out.kp k3)
  clear k3
  have c0 := B.out.p1.c0
  have d0 := B.out.p2.c0
  have c1 := B.out.p1.c1
  have d1 := B.out.p2.c1
  have c2 := B.out.p1.c2
  have d2 := B.out.p2.c2
  have c3 := B.out.p1.c3
  have d3 := B.out.p2.c3
  have c4 := B.out.p1.c4
  have d4 := B.out.p2.c4
  have c5 := B.out.p1.c5
  have d5 := B.out.p2.c5
  have c6 := B.out.p1.c6
  have d6 := B.out.p2.c6
  have c7 := B.out.p1.c7
  have d7 := B.out.p2.c7
  have zp := B.out.p1.size
  have zq := B.out.p2.size
  go_wp2_with fail
  refine (Light_any (h := h) (m := m) B.out.p1.in' HW.out).mono ?_
  rintro e w4 ⟨b, rfl, -, k4⟩
  have B := Lib.hid (B.out.kp k4)
  clear k4 c0 d0 c1 d1 c2 d2 c3 d3 c4 d4 c5 d5 c6 d6 c7 d7 zp zq
  cases b with
  | false =>
    go_wp2
    go_ret
    exact ⟨rfl, B.out.k⟩
  | true =>
  have c0 := B.out.p1.c0
  have d0 := B.out.p2.c0
  have c1 := B.out.p1.c1
  have d1 := B.out.p2.c1
  have c2 := B.out.p1.c2
  have d2 := B.out.p2.c2
  have c3 := B.out.p1.c3
  have d3 := B.out.p2.c3
  have c4 := B.out.p1.c4
  have d4 := B.out.p2.c4
  have c5 := B.out.p1.c5
  have d5 := B.out.p2.c5
  have c6 := B.out.p1.c6
  have d6 := B.out.p2.c6
  have c7 := B.out.p1.c7
  have d7 := B.out.p2.c7
  have zp := B.out.p1.size
  have zq := B.out.p2.size
  go_wp2_with fail
  refine (Light_any (h := g) (m := o) B.out.p2.in' HV.out).mono ?_
  rintro e w5 ⟨b, rfl, -, k5⟩
  have B := Lib.hid (B.out.kp k5)
  clear k5 c0 d0 c1 d1 c2 d2 c3 d3 c4 d4 c5 d5 c6 d6 c7 d7 zp zq
  cases b with
  | false =>
    go_wp2
    go_ret
    exact ⟨rfl, B.out.k⟩
  | true =>
  obtain ⟨la, hla⟩ : ∃ z, byA m = z := ⟨_, rfl⟩
  obtain ⟨qa, hqa⟩ : ∃ z, chkI m = z := ⟨_, rfl⟩
  obtain ⟨lb, hlb⟩ : ∃ z, byA o = z := ⟨_, rfl⟩
  obtain ⟨qb, hqb⟩ : ∃ z, chkI o = z := ⟨_, rfl⟩
  have HBA := Lib.hid (fun W (hE : Co.Env W) (i : ImIn W h m) => Bytes_any hE i HW.out la hla qa hqa)
  have HBB := Lib.hid (fun W (hE : Co.Env W) (i : ImIn W g o) => Bytes_any hE i HV.out lb hlb qb hqb)
  have HCA := Lib.hid (fun W (hE : Co.Env W) (i : ImIn W h m) => Check_any hE i HW.out)
  have HCB := Lib.hid (fun W (hE : Co.Env W) (i : ImIn W g o) => Check_any hE i HV.out)
  have HLA := Lib.hid hla
  have HLB := Lib.hid hlb
  have HQA := Lib.hid hqa
  have HQB := Lib.hid hqb
  clear hla hlb hqa hqb
  have c0 := B.out.p1.c0
  have d0 := B.out.p2.c0
  have c1 := B.out.p1.c1
  have d1 := B.out.p2.c1
  have c2 := B.out.p1.c2
  have d2 := B.out.p2.c2
  have c3 := B.out.p1.c3
  have d3 := B.out.p2.c3
  have c4 := B.out.p1.c4
  have d4 := B.out.p2.c4
  have c5 := B.out.p1.c5
  have d5 := B.out.p2.c5
  have c6 := B.out.p1.c6
  have d6 := B.out.p2.c6
  have c7 := B.out.p1.c7
  have d7 := B.out.p2.c7
  have zp := B.out.p1.size
  have zq := B.out.p2.size
  go_wp2_with fail
  refine (HBA.out _ B.out.env B.out.p1.in').mono ?_
  rintro e w6 ⟨v1, rfl, ⟨B1, -, o1⟩, k6⟩
  have B := Lib.hid (B.out.kp k6)
  have O1 := Lib.hid o1
  clear k6 o1 c0 d0 c1 d1 c2 d2 c3 d3 c4 d4 c5 d5 c6 d6 c7 d7 zp zq
  have c0 := B.out.p1.c0
  have d0 := B.out.p2.c0
  have c1 := B.out.p1.c1
  have d1 := B.out.p2.c1
  have c2 := B.out.p1.c2
  have d2 := B.out.p2.c2
  have c3 := B.out.p1.c3
  have d3 := B.out.p2.c3
  have c4 := B.out.p1.c4
  have d4 := B.out.p2.c4
  have c5 := B.out.p1.c5
  have d5 := B.out.p2.c5
  have c6 := B.out.p1.c6
  have d6 := B.out.p2.c6
  have c7 := B.out.p1.c7
  have d7 := B.out.p2.c7
  have zp := B.out.p1.size
  have zq := B.out.p2.size
  go_wp2_with fail
  refine (HBB.out _ B.out.env B.out.p2.in').mono ?_
  rintro e w7 ⟨v2, rfl, ⟨B2, -, o2⟩, k7⟩
  have CA : Hid (∀ W, Kp w7 W → (convert 30 9 v1).run Tryz.prog W = .ok (.string (Co.bytesOf la)) W) := Lib.hid (fun W k => conv_row O1.out (k7.trans k))
  have CB : Hid (∀ W, Kp w7 W → (convert 30 9 v2).run Tryz.prog W = .ok (.string (Co.bytesOf lb)) W) := Lib.hid (fun W k => conv_row o2 k)
  obtain ⟨a1, p1, rfl, -, -, -⟩ := own_form O1.out
  obtain ⟨a2, p2, rfl, -, -, -⟩ := own_form o2
  have B := Lib.hid (B.out.kp k7)
  clear k7 o2 O1 c0 d0 c1 d1 c2 d2 c3 d3 c4 d4 c5 d5 c6 d6 c7 d7 zp zq
  have HL0 : Hid (qa ≠ 0 → la.length = 0) := Lib.hid (fun e => by rw [← HLA.out]; unfold byA; rw [if_neg (by rw [HQA.out]; exact e)]; rfl)
  have HM0 : Hid (qb ≠ 0 → lb.length = 0) := Lib.hid (fun e => by rw [← HLB.out]; unfold byA; rw [if_neg (by rw [HQB.out]; exact e)]; rfl)
  by_cases ea : qa = 0
  case neg =>
    have e1 : (qa != 0) = true := by simpa using ea
    have e2 : (qa == 0) = false := by simpa using ea
    have l1 : (la.length : Int) = 0 := by rw [HL0.out ea]; rfl
    by_cases eb : qb = 0
    case pos =>
      have f2 : (qb == 0) = true := by simpa using eb
      have c0 := B.out.p1.c0
      have d0 := B.out.p2.c0
      have c1 := B.out.p1.c1
      have d1 := B.out.p2.c1
      have c2 := B.out.p1.c2
      have d2 := B.out.p2.c2
      have c3 := B.out.p1.c3
      have d3 := B.out.p2.c3
      have c4 := B.out.p1.c4
      have d4 := B.out.p2.c4
      have c5 := B.out.p1.c5
      have d5 := B.out.p2.c5
      have c6 := B.out.p1.c6
      have d6 := B.out.p2.c6
      have c7 := B.out.p1.c7
      have d7 := B.out.p2.c7
      have zp := B.out.p1.size
      have zq := B.out.p2.size
      go_wp2_with fail
      refine (HCA.out _ B.out.env B.out.p1.in').mono ?_
      rintro e w8 ⟨rfl, k8⟩
      rw [HQA.out]
      have B := Lib.hid (B.out.kp k8)
      clear k8 c0 d0 c1 d1 c2 d2 c3 d3 c4 d4 c5 d5 c6 d6 c7 d7 zp zq
      have c0 := B.out.p1.c0
      have d0 := B.out.p2.c0
      have c1 := B.out.p1.c1
      have d1 := B.out.p2.c1
      have c2 := B.out.p1.c2
      have d2 := B.out.p2.c2
      have c3 := B.out.p1.c3
      have d3 := B.out.p2.c3
      have c4 := B.out.p1.c4
      have d4 := B.out.p2.c4
      have c5 := B.out.p1.c5
      have d5 := B.out.p2.c5
      have c6 := B.out.p1.c6
      have d6 := B.out.p2.c6
      have c7 := B.out.p1.c7
      have d7 := B.out.p2.c7
      have zp := B.out.p1.size
      have zq := B.out.p2.size
      go_wp2_with fail
      refine (HCB.out _ B.out.env B.out.p2.in').mono ?_
      rintro e w9 ⟨rfl, k9⟩
      rw [HQB.out]
      have B := Lib.hid (B.out.kp k9)
      clear k9 c0 d0 c1 d1 c2 d2 c3 d3 c4 d4 c5 d5 c6 d6 c7 d7 zp zq
      go_wp2
      go_ret
      exact ⟨rfl, B.out.k⟩
    case neg =>
      have f1 : (qb != 0) = true := by simpa using eb
      have f2 : (qb == 0) = false := by simpa using eb
      have l2 : (lb.length : Int) = 0 := by rw [HM0.out eb]; rfl
      have c0 := B.out.p1.c0
      have d0 := B.out.p2.c0
      have c1 := B.out.p1.c1
      have d1 := B.out.p2.c1
      have c2 := B.out.p1.c2
      have d2 := B.out.p2.c2
      have c3 := B.out.p1.c3
      have d3 := B.out.p2.c3
      have c4 := B.out.p1.c4
      have d4 := B.out.p2.c4
      have c5 := B.out.p1.c5
      have d5 := B.out.p2.c5
      have c6 := B.out.p1.c6
      have d6 := B.out.p2.c6
      have c7 := B.out.p1.c7
      have d7 := B.out.p2.c7
      have zp := B.out.p1.size
      have zq := B.out.p2.size
      go_wp2_with fail
      refine (HCA.out _ B.out.env B.out.p1.in').mono ?_
      rintro e w8 ⟨rfl, k8⟩
      rw [HQA.out]
      have B := Lib.hid (B.out.kp k8)
      clear k8 c0 d0 c1 d1 c2 d2 c3 d3 c4 d4 c5 d5 c6 d6 c7 d7 zp zq
      have c0 := B.out.p1.c0
      have d0 := B.out.p2.c0
      have c1 := B.out.p1.c1
      have d1 := B.out.p2.c1
      have c2 := B.out.p1.c2
      have d2 := B.out.p2.c2
      have c3 := B.out.p1.c3
      have d3 := B.out.p2.c3
      have c4 := B.out.p1.c4
      have d4 := B.out.p2.c4
      have c5 := B.out.p1.c5
      have d5 := B.out.p2.c5
      have c6 := B.out.p1.c6
      have d6 := B.out.p2.c6
      have c7 := B.out.p1.c7
      have d7 := B.out.p2.c7
      have zp := B.out.p1.size
      have zq := B.out.p2.size
      go_wp2_with fail
      refine (HCB.out _ B.out.env B.out.p2.in').mono ?_
      rintro e w9 ⟨rfl, k9⟩
      rw [HQB.out]
      have B := Lib.hid (B.out.kp k9)
      clear k9 c0 d0 c1 d1 c2 d2 c3 d3 c4 d4 c5 d5 c6 d6 c7 d7 zp zq
      go_wp2
      go_ret
      exact ⟨rfl, B.out.k⟩
  case pos =>
  have e1 : (qa != 0) = false := by simpa using ea
  by_cases eb : qb = 0
  case neg =>
    have e2 : (qa == 0) = true := by simpa using ea
    have f1 : (qb != 0) = true := by simpa using eb
    have f2 : (qb == 0) = false := by simpa using eb
    have l2 : (lb.length : Int) = 0 := by rw [HM0.out eb]; rfl
    have c0 := B.out.p1.c0
    have d0 := B.out.p2.c0
    have c1 := B.out.p1.c1
    have d1 := B.out.p2.c1
    have c2 := B.out.p1.c2
    have d2 := B.out.p2.c2
    have c3 := B.out.p1.c3
    have d3 := B.out.p2.c3
    have c4 := B.out.p1.c4
    have d4 := B.out.p2.c4
    have c5 := B.out.p1.c5
    have d5 := B.out.p2.c5
    have c6 := B.out.p1.c6
    have d6 := B.out.p2.c6
    have c7 := B.out.p1.c7
    have d7 := B.out.p2.c7
    have zp := B.out.p1.size
    have zq := B.out.p2.size
    go_wp2_with fail
    refine (HCA.out _ B.out.env B.out.p1.in').mono ?_
    rintro e w8 ⟨rfl, k8⟩
    rw [HQA.out]
    have B := Lib.hid (B.out.kp k8)
    clear k8 c0 d0 c1 d1 c2 d2 c3 d3 c4 d4 c5 d5 c6 d6 c7 d7 zp zq
    have c0 := B.out.p1.c0
    have d0 := B.out.p2.c0
    have c1 := B.out.p1.c1
    have d1 := B.out.p2.c1
    have c2 := B.out.p1.c2
    have d2 := B.out.p2.c2
    have c3 := B.out.p1.c3
    have d3 := B.out.p2.c3
    have c4 := B.out.p1.c4
    have d4 := B.out.p2.c4
    have c5 := B.out.p1.c5
    have d5 := B.out.p2.c5
    have c6 := B.out.p1.c6
    have d6 := B.out.p2.c6
    have c7 := B.out.p1.c7
    have d7 := B.out.p2.c7
    have zp := B.out.p1.size
    have zq := B.out.p2.size
    go_wp2_with fail
    refine (HCB.out _ B.out.env B.out.p2.in').mono ?_
    rintro e w9 ⟨rfl, k9⟩
    rw [HQB.out]
    have B := Lib.hid (B.out.kp k9)
    clear k9 c0 d0 c1 d1 c2 d2 c3 d3 c4 d4 c5 d5 c6 d6 c7 d7 zp zq
    go_wp2
    go_ret
    exact ⟨rfl, B.out.k⟩
  case pos =>
  have f1 : (qb != 0) = false := by simpa using eb
  have HCK : Hid (chkI m = 0 ∧ chkI o = 0) := Lib.hid ⟨by rw [HQA.out]; exact ea, by rw [HQB.out]; exact eb⟩
  have HSM : Hid (la = lb ↔ m = o) := Lib.hid (by rw [← HLA.out, ← HLB.out]; exact byA_same HCK.out.1 HCK.out.2 HW.out HV.out)
  have HTX : Hid (txA m = m.code.map Co.txt) := Lib.hid (by unfold txA; rw [if_pos HCK.out.1])
  have HTT := Lib.hid (fun W (hE : Co.Env W) (hP : Co.Pw W) (i : ImIn W h m) => Text_img hE hP i HW.out (m.code.map Co.txt) HTX.out 0 HCK.out.1)
  clear ea eb HBA HBB HCA HCB HL0 HM0
  have c0 := B.out.p1.c0
  have d0 := B.out.p2.c0
  have c1 := B.out.p1.c1
  have d1 := B.out.p2.c1
  have c2 := B.out.p1.c2
  have d2 := B.out.p2.c2
  have c3 := B.out.p1.c3
  have d3 := B.out.p2.c3
  have c4 := B.out.p1.c4
  have d4 := B.out.p2.c4
  have c5 := B.out.p1.c5
  have d5 := B.out.p2.c5
  have c6 := B.out.p1.c6
  have d6 := B.out.p2.c6
  have c7 := B.out.p1.c7
  have d7 := B.out.p2.c7
  have zp := B.out.p1.size
  have zq := B.out.p2.size
  unfold Hd.val at HTT
  go_wp2_with fail
  refine (HTT.out _ B.out.env B.out.pw B.out.p1.in').mono ?_
  rintro e w8 ⟨v3, rfl, o3, k8⟩
  have CA := Lib.hid (fun W (k : Kp w8 W) => CA.out W (k8.trans k))
  have CB := Lib.hid (fun W (k : Kp w8 W) => CB.out W (k8.trans k))
  have B := Lib.hid (B.out.kp k8)
  clear k8 c0 d0 c1 d1 c2 d2 c3 d3 c4 d4 c5 d5 c6 d6 c7 d7 zp zq
  obtain ⟨a3, p3, rfl, -, -, -⟩ := own_form o3
  have HS := Lib.hid (row_T o3)
  have hlen : (m.code.map Co.txt).length = m.code.length := List.length_map ..
  rw [hlen]
  clear o3 hlen HTT
  obtain ⟨b, hb⟩ : ∃ b : Bool, (m = o ↔ b = true) := by
    by_cases e : m = o
    · exact ⟨true, by simp [e]⟩
    · exact ⟨false, by simp [e]⟩
  have HMO := Lib.hid hb
  have hq : ((bytesOf la).toList == (bytesOf lb).toList) = b := by
    rw [Co.bytesOf_toList, Co.bytesOf_toList, Bool.eq_iff_iff]
    rw [← hb, ← HSM.out]
    simp
  have hnb : (b != b) = false := by simp
  clear hb
  generalize Co.bytesOf la = sa at *
  generalize Co.bytesOf lb = sb at *
  have HSA : Hid (∀ W, Kp w8 W → Calls Tryz.prog 15 #[.agg #[.slice h.aC m.code.length h.cC, .slice h.aF m.funcs.length h.cF, .slice h.aV m.vecs.length h.cV, .int .i64 m.main, .slice h.aI m.init.length h.cI, .slice h.aP m.ports.length h.cP, .int .i64 m.stack, .slice h.aA m.atoms.length h.cA], .agg #[.slice g.aC o.code.length g.cC, .slice g.aF o.funcs.length g.cF, .slice g.aV o.vecs.length g.cV, .int .i64 o.main, .slice g.aI o.init.length g.cI, .slice g.aP o.ports.length g.cP, .int .i64 o.stack, .slice g.aA o.atoms.length g.cA]] W fun e w' => e = .returned (.bool b) ∧ Kp w8 w') := Lib.hid (fun W k => (Same_any (h := h) (g := g) (m := m) (o := o) (B.out.p1.in'.kp k) (B.out.p2.in'.kp k) HW.out b HMO.out).mono fun e w' ⟨he, k'⟩ => ⟨he, k.trans k'⟩)
  have CAq : ∀ w', Kp w8 w' → (convert 30 9 (.slice a1 la.length p1)).run Tryz.prog w' = .ok (.string sa) w' := fun w' k => CA.out w' k
  have CBq : ∀ w', Kp w8 w' → (convert 30 9 (.slice a2 lb.length p2)).run Tryz.prog w' = .ok (.string sb) w' := fun w' k => CB.out w' k
  have C0 : ∀ w', Kp w8 w' → w'.cell? ⟨p, 0, none⟩ = some (.slice h.aC m.code.length h.cC) := fun w' k => (k.cells _ _ B.out.p1.size).trans B.out.p1.c0
  have D0 : ∀ w', Kp w8 w' → w'.cell? ⟨p + 1, 0, none⟩ = some (.slice g.aC o.code.length g.cC) := fun w' k => (k.cells _ _ B.out.p2.size).trans B.out.p2.c0
  have C1 : ∀ w', Kp w8 w' → w'.cell? ⟨p, 1, none⟩ = some (.slice h.aF m.funcs.length h.cF) := fun w' k => (k.cells _ _ B.out.p1.size).trans B.out.p1.c1
  have D1 : ∀ w', Kp w8 w' → w'.cell? ⟨p + 1, 1, none⟩ = some (.slice g.aF o.funcs.length g.cF) := fun w' k => (k.cells _ _ B.out.p2.size).trans B.out.p2.c1
  have C2 : ∀ w', Kp w8 w' → w'.cell? ⟨p, 2, none⟩ = some (.slice h.aV m.vecs.length h.cV) := fun w' k => (k.cells _ _ B.out.p1.size).trans B.out.p1.c2
  have D2 : ∀ w', Kp w8 w' → w'.cell? ⟨p + 1, 2, none⟩ = some (.slice g.aV o.vecs.length g.cV) := fun w' k => (k.cells _ _ B.out.p2.size).trans B.out.p2.c2
  have C3 : ∀ w', Kp w8 w' → w'.cell? ⟨p, 3, none⟩ = some (.int .i64 m.main) := fun w' k => (k.cells _ _ B.out.p1.size).trans B.out.p1.c3
  have D3 : ∀ w', Kp w8 w' → w'.cell? ⟨p + 1, 3, none⟩ = some (.int .i64 o.main) := fun w' k => (k.cells _ _ B.out.p2.size).trans B.out.p2.c3
  have C4 : ∀ w', Kp w8 w' → w'.cell? ⟨p, 4, none⟩ = some (.slice h.aI m.init.length h.cI) := fun w' k => (k.cells _ _ B.out.p1.size).trans B.out.p1.c4
  have D4 : ∀ w', Kp w8 w' → w'.cell? ⟨p + 1, 4, none⟩ = some (.slice g.aI o.init.length g.cI) := fun w' k => (k.cells _ _ B.out.p2.size).trans B.out.p2.c4
  have C5 : ∀ w', Kp w8 w' → w'.cell? ⟨p, 5, none⟩ = some (.slice h.aP m.ports.length h.cP) := fun w' k => (k.cells _ _ B.out.p1.size).trans B.out.p1.c5
  have D5 : ∀ w', Kp w8 w' → w'.cell? ⟨p + 1, 5, none⟩ = some (.slice g.aP o.ports.length g.cP) := fun w' k => (k.cells _ _ B.out.p2.size).trans B.out.p2.c5
  have C6 : ∀ w', Kp w8 w' → w'.cell? ⟨p, 6, none⟩ = some (.int .i64 m.stack) := fun w' k => (k.cells _ _ B.out.p1.size).trans B.out.p1.c6
  have D6 : ∀ w', Kp w8 w' → w'.cell? ⟨p + 1, 6, none⟩ = some (.int .i64 o.stack) := fun w' k => (k.cells _ _ B.out.p2.size).trans B.out.p2.c6
  have C7 : ∀ w', Kp w8 w' → w'.cell? ⟨p, 7, none⟩ = some (.slice h.aA m.atoms.length h.cA) := fun w' k => (k.cells _ _ B.out.p1.size).trans B.out.p1.c7
  have D7 : ∀ w', Kp w8 w' → w'.cell? ⟨p + 1, 7, none⟩ = some (.slice g.aA o.atoms.length g.cA) := fun w' k => (k.cells _ _ B.out.p2.size).trans B.out.p2.c7
  have hk8 : Kp w8 w8 := Kp.refl _
  clear CA CB
  go_wp2_with fail
  go_region_held3 (fun w' => Kp w8 w') (first | assumption | exact Kp.drew (by assumption))
    ((go_at_call 15; (with_reducible refine (HSA.out _ (by assumption)).mono ?_); rintro r w9 ⟨rfl, hS9⟩))
  have B := Lib.hid (B.out.kp hS9)
  have HS := Lib.hid (HS.out.kp hS9)
  clear hS9 hk8 C0 C1 C2 C3 C4 C5 C6 C7 D0 D1 D2 D3 D4 D5 D6 D7 CAq CBq HSA hq hnb
  obtain ⟨n, hn⟩ : ∃ n, m.code.length = n := ⟨_, rfl⟩
  have HN := Lib.hid hn
  rw [hn]
  clear hn
  have hn1 : n ≤ 9223372036854775807 := by rw [← HN.out]; exact HW.out.nC
  have HIN := B.out.p1.in'.code
  have HIN2 := Lib.hid HIN
  clear HIN
  go_wp2_with fail
  go_loopw [11, 12, 13] (fun i x e wr => ∃ k : Nat, k ≤ n ∧ i = .int .i64 k ∧ Kp w9 wr) (fun i _ _ _ => n - (intOf i).toNat)
  case atStart => exact ⟨0, Nat.zero_le _, rfl, Kp.refl _⟩
  case round =>
    obtain ⟨k, hk, rfl, kr⟩ := hrel
    by_cases hlt : k < n
    · have hlm : k < m.code.length := by rw [HN.out]; exact hlt
      obtain ⟨b3, o3, rfl, z3, l3⟩ := SIn.at (HS.out.kp kr) (i := k) (by rw [List.length_map]; exact hlm)
      have c3 := l3
      have hg : (m.code.map Co.txt).getD k [] = Co.txt (m.code.getD k in0) := by
        rw [List.getD_eq_getElem?_getD, List.getElem?_map, List.getD_eq_getElem?_getD]
        rw [List.getElem?_eq_getElem hlm]
        rfl
      rw [hg] at c3
      obtain ⟨bC, oC, hao, hv⟩ := CIn.at (HIN2.out.kp kr) hlm
      have x0 := hv.o k hlm
      have x1 := hv.a k hlm
      have x2 := hv.b' k hlm
      have x3 := hv.c k hlm
      have zC := hv.size
      have hck := all_chk HCK.out.1 hlm
      have d0 := (B.out.kp kr).p1.c0
      have zp := (B.out.kp kr).p1.size
      rw [hao, HN.out] at d0
      have hpw := Lib.hid ((B.out.kp kr).pw)
      clear l3 hg hv hlm hao
      generalize m.code.getD k in0 = x at *
      obtain ⟨bi, be, bl⟩ := back_ins hck
      have HRP := Lib.hid (Co.rParse_any hpw.out (Co.txt x) bl x 0 bi be)
      have hqx := fun W => ins_neq x x false (by simp) W
      obtain ⟨y0, y1, y2, y3⟩ := x
      simp only at x0 x1 x2 x3 HRP hqx
      clear hck bi be bl hpw
      generalize Co.bytesOf (Co.txt _) = tx at *
      have hk0 : (0 : Int) ≤ (k : Int) := Int.natCast_nonneg _
      have hk1 : (k : Int) < (n : Int) := by omega
      go_wp2_with fail
      refine HRP.out.mono ?_
      rintro e w10 ⟨rfl, k10⟩
      have d0 := (k10.cells _ _ zp).trans d0
      have x0 := (k10.cells _ _ zC).trans x0
      have x1 := (k10.cells _ _ zC).trans x1
      have x2 := (k10.cells _ _ zC).trans x2
      have x3 := (k10.cells _ _ zC).trans x3
      have zp := Nat.lt_of_lt_of_le zp k10.size
      have zC := Nat.lt_of_lt_of_le zC k10.size
      have K10 := Lib.hid (kr.trans k10)
      clear k10 kr z3 c3 HRP
      go_upto_region 16 with (fail)
      generalize hw11 : w10.alloc _ = w11
      have A := alloc_new_of hw11
      have s0 := A.1 0
      have s1 := A.1 1
      have s2 := A.1 2
      have s3 := A.1 3
      have z11 := A.2.2.1
      simp only [List.getElem?_toArray, List.getElem?_cons_succ, List.getElem?_cons_zero] at s0 s1 s2 s3
      have d0 := (A.2.1.cells _ _ zp).trans d0
      have x0 := (A.2.1.cells _ _ zC).trans x0
      have x1 := (A.2.1.cells _ _ zC).trans x1
      have x2 := (A.2.1.cells _ _ zC).trans x2
      have x3 := (A.2.1.cells _ _ zC).trans x3
      have zp := Nat.lt_of_lt_of_le zp A.2.1.size
      have zC := Nat.lt_of_lt_of_le zC A.2.1.size
      have K11 := Lib.hid (K10.out.trans A.2.1)
      clear A hw11
      generalize w10.heap.size = PX at *
      go_quiet (fail)
      go_wp2
      go_roundw
      case rel => exact ⟨k + 1, by omega, by go_num, K11.out.drewN _⟩
      case measure => simp [intOf]; omega
    · obtain rfl : k = n := by omega
      go_wp2
      go_ret
      exact ⟨rfl, B.out.k.trans kr⟩
end Im
end Go.Proofs.YtaeblnlbelebkaaGreatDoor
