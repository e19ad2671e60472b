/-
  WALKS: slices.EqualFunc at an image's lists of cells; package image, Same. Own work.
-/
import Derived.Test.YtaeblnlbelebkaaGreatDoorImEq
namespace Go.Proofs.YtaeblnlbelebkaaGreatDoor
namespace Im
open Go.RowKit Go
open Co (Kp ret_int ret_bool ret2_int In in0 IIn Ics Wf bytesOf)
open Ln (VIn Vcs)
set_option linter.unusedVariables false

set_option maxHeartbeats 2000000 in
set_option maxRecDepth 100000 in
theorem eqL_same (ao bo : Option Addr) (ca cb n : Nat) (xs ys : List (List Int)) (w : World) (hv : AIn w ao xs) (hv2 : AIn w bo ys) (lx : xs.length = n) (ly : ys.length = n) (hn : n ≤ 9223372036854775807) (hne : ∀ k, (xs.getD k []).length ≤ 9223372036854775807) (r : Bool) (hr : xs = ys ↔ r = true) :
    Calls Tryz.prog 47 #[.slice ao n ca, .slice bo n cb, .func (.func 48) #[] #[]] w fun e w' => e = .returned (.bool r) ∧ Qt w w' := by
  have HR := Lib.hid hr
  have HV := Lib.hid hv
  have HV2 := Lib.hid hv2
  have LX := Lib.hid lx
  have LY := Lib.hid ly
  have HNE := Lib.hid hne
  have hent : ∀ (args : Array Value) (w : World), Sem.run Tryz.prog (callFunc 48 args) w = .ok (.enter 48 args) w := fun _ _ => by kernel_rfl
  clear hr hv hv2 lx ly hne
  go_enter Tryz.func47, Tryz.ntmps47
  go_wp2
  go_loopw [7, 8, 9, 17] (fun i0 v1 v2 i wr => ∃ (k : Nat), k ≤ n ∧ i = .int .i64 k ∧ Qt w wr ∧ Hid (∀ j, j < k → xs.getD j [] = ys.getD j [])) (fun _ _ _ i _ => n - (intOf i).toNat)
  case atStart => exact ⟨0, Nat.zero_le _, rfl, Qt.refl _, fun j h => absurd h (Nat.not_lt_zero j)⟩
  case round =>
    obtain ⟨k, hk, rfl, hkp, HA⟩ := hrel
    by_cases hlt : k < n
    · obtain ⟨b, off, hao, hb, aox, cx, cl, hix⟩ := AIn.cell (HV.out.kp hkp.kp) (i := k) (by rw [LX.out]; exact hlt)
      subst hao
      obtain ⟨b2, off2, hbo, hb2, aoy, cy, cl2, hiy⟩ := AIn.cell (HV2.out.kp hkp.kp) (i := k) (by rw [LY.out]; exact hlt)
      subst hbo
      have hk0 : (0 : Int) ≤ (k : Int) := Int.natCast_nonneg _
      have hk1 : (k : Int) < (n : Int) := by omega
      have hlen := HNE.out k
      have HXY := Lib.hid (fun (hx : xs.getD k [] = ys.getD k []) => (show ∀ j, j < k + 1 → xs.getD j [] = ys.getD j [] from fun j hj => by
          rcases Nat.lt_succ_iff_lt_or_eq.1 hj with h2 | h2
          · exact HA.out j h2
          · subst h2; exact hx))
      have FIN := Lib.hid (fun (hx : xs.getD k [] ≠ ys.getD k []) => (show r = false by
          have : ¬ r = true := fun e => ne_getD hx (HR.out.2 e)
          simpa using this))
      obtain ⟨x, hxx⟩ : ∃ x, xs.getD k [] = x := ⟨_, rfl⟩
      obtain ⟨y, hyy⟩ : ∃ y, ys.getD k [] = y := ⟨_, rfl⟩
      rw [hxx] at cl hix hlen
      rw [hyy] at cl2 hiy
      rw [hxx, hyy] at HXY FIN
      clear hxx hyy
      obtain ⟨q, hq⟩ : ∃ q : Bool, decide (x = y) = q := ⟨_, rfl⟩
      have HC := Lib.hid (eqInt_any aox aoy cx cy x y wr hix hiy hlen q (by rw [← hq]; simp))
      clear hix hiy hlen
      cases q with
      | true =>
        have HX := Lib.hid (HXY.out (of_decide_eq_true hq))
        clear HXY FIN hq
        generalize x.length = lx at *
        generalize y.length = ly at *
        go_wp2_with fail
        refine HC.out.mono ?_
        rintro e w2 ⟨rfl, q2⟩
        go_wp2
        go_roundw
        case rel => exact ⟨k + 1, by omega, by go_num, by obtain ⟨m1, rfl⟩ := hkp; obtain ⟨m2, rfl⟩ := q2; exact ⟨m1 + m2, by simp [World.drewN, Nat.add_assoc]⟩, HX⟩
        case measure => simp [intOf]; omega
      | false =>
        have HF := Lib.hid (FIN.out (of_decide_eq_false hq))
        clear HXY FIN hq
        generalize x.length = lx at *
        generalize y.length = ly at *
        go_wp2_with fail
        refine HC.out.mono ?_
        rintro e w2 ⟨rfl, q2⟩
        go_wp2
        go_ret
        exact ⟨ret_bool HF.out.symm, by obtain ⟨m1, rfl⟩ := hkp; obtain ⟨m2, rfl⟩ := q2; exact ⟨m1 + m2, by simp [World.drewN, Nat.add_assoc]⟩⟩
    · obtain rfl : k = n := by omega
      go_wp2
      go_ret
      exact ⟨ret_bool (HR.out.1 (ext_getD (d := []) (by rw [LX.out, LY.out]) (fun j hj => HA.out j (by rw [← LX.out]; exact hj)))).symm, hkp⟩
theorem eqL_any (ao bo : Option Addr) (ca cb : Nat) (xs ys : List (List Int)) (w : World) (hv : AIn w ao xs) (hv2 : AIn w bo ys) (hn : xs.length ≤ 9223372036854775807) (hne : ∀ k, (xs.getD k []).length ≤ 9223372036854775807) (r : Bool) (hr : xs = ys ↔ r = true) :
    Calls Tryz.prog 47 #[.slice ao xs.length ca, .slice bo ys.length cb, .func (.func 48) #[] #[]] w fun e w' => e = .returned (.bool r) ∧ Qt w w' := by
  by_cases hnm : xs.length = ys.length
  · have := eqL_same ao bo ca cb xs.length xs ys w hv hv2 rfl hnm.symm hn hne r hr
    rw [← hnm]
    exact this
  · have FIN : r = false := by
      have : ¬ r = true := fun e => ne_len hnm (hr.2 e)
      simpa using this
    subst FIN
    have hneq : ((xs.length : Int) != (ys.length : Int)) = true := by simpa using (by omega : ¬ (xs.length : Int) = ys.length)
    clear hv hv2 hr hne
    generalize xs.length = n at *
    generalize ys.length = m at *
    go_enter Tryz.func47, Tryz.ntmps47
    go_wp2
    go_ret
    exact ⟨rfl, Qt.refl _⟩
theorem Qt.trans {a b c : World} (h : Qt a b) (k : Qt b c) : Qt a c := by
  obtain ⟨m1, rfl⟩ := h
  obtain ⟨m2, rfl⟩ := k
  exact ⟨m1 + m2, by simp [World.drewN, Nat.add_assoc]⟩
/-- The equality of images, part by part. -/
theorem im_parts (m o : Im) : m = o ↔ m.code = o.code ∧ m.funcs = o.funcs ∧ m.vecs = o.vecs ∧ m.main = o.main ∧ m.init = o.init ∧ m.ports = o.ports ∧ m.stack = o.stack ∧ m.atoms = o.atoms := by
  cases m; cases o
  simp only [Im.mk.injEq]
instance vcDec : DecidableEq Ln.Vc := fun a b => decidable_of_iff (a.l = b.l ∧ a.p = b.p ∧ a.f = b.f) ⟨fun ⟨x, y, z⟩ => by cases a; cases b; simp only at x y z; subst x y z; rfl, fun e => by subst e; exact ⟨rfl, rfl, rfl⟩⟩
set_option maxHeartbeats 4000000 in
set_option maxRecDepth 100000 in
theorem Same_any {w : World} {h g : Hd} {m o : Im} (hm : ImIn w h m) (ho : ImIn w g o) (hW : ImWf m) (r : Bool) (hr : m = o ↔ r = true) :
    Calls Tryz.prog 15 #[h.val m, g.val o] w fun e w' => e = .returned (.bool r) ∧ Kp w w' := by
  have P1 := (Ptr.new hm).kp ((Kp.refl _).alloc #[.slice g.aC o.code.length g.cC, .slice g.aF o.funcs.length g.cF, .slice g.aV o.vecs.length g.cV, .int .i64 o.main, .slice g.aI o.init.length g.cI, .slice g.aP o.ports.length g.cP, .int .i64 o.stack, .slice g.aA o.atoms.length g.cA] 29)
  have P2 := ptr_two #[.slice h.aC m.code.length h.cC, .slice h.aF m.funcs.length h.cF, .slice h.aV m.vecs.length h.cV, .int .i64 m.main, .slice h.aI m.init.length h.cI, .slice h.aP m.ports.length h.cP, .int .i64 m.stack, .slice h.aA m.atoms.length h.cA] 29 ho
  have K2 := Lib.hid (((Kp.refl w).alloc #[.slice h.aC m.code.length h.cC, .slice h.aF m.funcs.length h.cF, .slice h.aV m.vecs.length h.cV, .int .i64 m.main, .slice h.aI m.init.length h.cI, .slice h.aP m.ports.length h.cP, .int .i64 m.stack, .slice h.aA m.atoms.length h.cA] 29).alloc #[.slice g.aC o.code.length g.cC, .slice g.aF o.funcs.length g.cF, .slice g.aV o.vecs.length g.cV, .int .i64 o.main, .slice g.aI o.init.length g.cI, .slice g.aP o.ports.length g.cP, .int .i64 o.stack, .slice g.aA o.atoms.length g.cA] 29)
  have HR := Lib.hid hr
  have HW := Lib.hid hW
  clear hm ho hr hW
  unfold Hd.val
  go_enter Tryz.func15, Tryz.ntmps15
  go_upto_region 1 with (fail)
  revert P1 P2 K2
  generalize (w.alloc _).alloc _ = w2
  generalize w.heap.size = p
  intro P1 P2 K2
  have HP1 := Lib.hid P1
  have HP2 := Lib.hid P2
  clear P1 P2
  have NO : Hid (¬ (m.code = o.code ∧ m.funcs = o.funcs ∧ m.vecs = o.vecs ∧ m.main = o.main ∧ m.init = o.init ∧ m.ports = o.ports ∧ m.stack = o.stack ∧ m.atoms = o.atoms) → r = false) := Lib.hid (fun e => by
    have : ¬ r = true := fun x => e ((im_parts m o).1 (HR.out.2 x))
    simpa using this)
  have YES : Hid (m.code = o.code ∧ m.funcs = o.funcs ∧ m.vecs = o.vecs ∧ m.main = o.main ∧ m.init = o.init ∧ m.ports = o.ports ∧ m.stack = o.stack ∧ m.atoms = o.atoms → r = true) := Lib.hid (fun e => HR.out.1 ((im_parts m o).2 e))
  have Q0 : Hid (Qt w2 w2) := Lib.hid (Qt.refl _)
  have c0 := HP1.out.c0
  have d0 := HP2.out.c0
  have c1 := HP1.out.c1
  have d1 := HP2.out.c1
  have c2 := HP1.out.c2
  have d2 := HP2.out.c2
  have c3 := HP1.out.c3
  have d3 := HP2.out.c3
  have c4 := HP1.out.c4
  have d4 := HP2.out.c4
  have c5 := HP1.out.c5
  have d5 := HP2.out.c5
  have c6 := HP1.out.c6
  have d6 := HP2.out.c6
  have c7 := HP1.out.c7
  have d7 := HP2.out.c7
  have zp := HP1.out.size
  have zq := HP2.out.size
  obtain ⟨b0, hb0⟩ : ∃ b : Bool, decide (m.code = o.code) = b := ⟨_, rfl⟩
  have HC0 := Lib.hid (eqIns_any h.aC g.aC h.cC g.cC m.code o.code w2 (HP1.out.kp Q0.out.kp).in'.code (HP2.out.kp Q0.out.kp).in'.code HW.out.nC b0 (by rw [← hb0]; simp))
  cases b0 with
  | false =>
    have E0 : Hid (¬ m.code = o.code) := Lib.hid (of_decide_eq_false hb0)
    clear hb0
    go_wp2_with fail
    refine HC0.out.mono ?_
    rintro e w3 ⟨rfl, q⟩
    go_wp2
    go_ret
    exact ⟨ret_bool (NO.out (fun z => E0.out z.1)).symm, K2.out.trans (Qt.kp (Qt.trans Q0.out q))⟩
  | true =>
    have E0 : Hid (m.code = o.code) := Lib.hid (of_decide_eq_true hb0)
    clear hb0
    go_wp2_with fail
    refine HC0.out.mono ?_
    rintro e w3 ⟨rfl, q⟩
    have Q1 := Lib.hid (Qt.trans Q0.out q)
    clear q HC0 c0 d0 c1 d1 c2 d2 c3 d3 c4 d4 c5 d5 c6 d6 c7 d7 zp zq
    have c0 := (HP1.out.kp Q1.out.kp).c0
    have d0 := (HP2.out.kp Q1.out.kp).c0
    have c1 := (HP1.out.kp Q1.out.kp).c1
    have d1 := (HP2.out.kp Q1.out.kp).c1
    have c2 := (HP1.out.kp Q1.out.kp).c2
    have d2 := (HP2.out.kp Q1.out.kp).c2
    have c3 := (HP1.out.kp Q1.out.kp).c3
    have d3 := (HP2.out.kp Q1.out.kp).c3
    have c4 := (HP1.out.kp Q1.out.kp).c4
    have d4 := (HP2.out.kp Q1.out.kp).c4
    have c5 := (HP1.out.kp Q1.out.kp).c5
    have d5 := (HP2.out.kp Q1.out.kp).c5
    have c6 := (HP1.out.kp Q1.out.kp).c6
    have d6 := (HP2.out.kp Q1.out.kp).c6
    have c7 := (HP1.out.kp Q1.out.kp).c7
    have d7 := (HP2.out.kp Q1.out.kp).c7
    have zp := (HP1.out.kp Q1.out.kp).size
    have zq := (HP2.out.kp Q1.out.kp).size
    obtain ⟨b1, hb1⟩ : ∃ b : Bool, decide (m.funcs = o.funcs) = b := ⟨_, rfl⟩
    have HC1 := Lib.hid (eqFunc_any h.aF g.aF h.cF g.cF m.funcs o.funcs w3 (HP1.out.kp Q1.out.kp).in'.funcs (HP2.out.kp Q1.out.kp).in'.funcs HW.out.nF b1 (by rw [← hb1]; simp))
    cases b1 with
    | false =>
      have E1 : Hid (¬ m.funcs = o.funcs) := Lib.hid (of_decide_eq_false hb1)
      clear hb1
      go_wp2_with fail
      refine HC1.out.mono ?_
      rintro e w4 ⟨rfl, q⟩
      go_wp2
      go_ret
      exact ⟨ret_bool (NO.out (fun z => E1.out z.2.1)).symm, K2.out.trans (Qt.kp (Qt.trans Q1.out q))⟩
    | true =>
      have E1 : Hid (m.funcs = o.funcs) := Lib.hid (of_decide_eq_true hb1)
      clear hb1
      go_wp2_with fail
      refine HC1.out.mono ?_
      rintro e w4 ⟨rfl, q⟩
      have Q2 := Lib.hid (Qt.trans Q1.out q)
      clear q HC1 c0 d0 c1 d1 c2 d2 c3 d3 c4 d4 c5 d5 c6 d6 c7 d7 zp zq
      have c0 := (HP1.out.kp Q2.out.kp).c0
      have d0 := (HP2.out.kp Q2.out.kp).c0
      have c1 := (HP1.out.kp Q2.out.kp).c1
      have d1 := (HP2.out.kp Q2.out.kp).c1
      have c2 := (HP1.out.kp Q2.out.kp).c2
      have d2 := (HP2.out.kp Q2.out.kp).c2
      have c3 := (HP1.out.kp Q2.out.kp).c3
      have d3 := (HP2.out.kp Q2.out.kp).c3
      have c4 := (HP1.out.kp Q2.out.kp).c4
      have d4 := (HP2.out.kp Q2.out.kp).c4
      have c5 := (HP1.out.kp Q2.out.kp).c5
      have d5 := (HP2.out.kp Q2.out.kp).c5
      have c6 := (HP1.out.kp Q2.out.kp).c6
      have d6 := (HP2.out.kp Q2.out.kp).c6
      have c7 := (HP1.out.kp Q2.out.kp).c7
      have d7 := (HP2.out.kp Q2.out.kp).c7
      have zp := (HP1.out.kp Q2.out.kp).size
      have zq := (HP2.out.kp Q2.out.kp).size
      obtain ⟨b2, hb2⟩ : ∃ b : Bool, decide (m.vecs = o.vecs) = b := ⟨_, rfl⟩
      have HC2 := Lib.hid (eqVec_any h.aV g.aV h.cV g.cV m.vecs o.vecs w4 (HP1.out.kp Q2.out.kp).in'.vecs (HP2.out.kp Q2.out.kp).in'.vecs HW.out.nV b2 (by rw [← hb2]; simp))
      cases b2 with
      | false =>
        have E2 : Hid (¬ m.vecs = o.vecs) := Lib.hid (of_decide_eq_false hb2)
        clear hb2
        go_wp2_with fail
        refine HC2.out.mono ?_
        rintro e w5 ⟨rfl, q⟩
        go_wp2
        go_ret
        exact ⟨ret_bool (NO.out (fun z => E2.out z.2.2.1)).symm, K2.out.trans (Qt.kp (Qt.trans Q2.out q))⟩
      | true =>
        have E2 : Hid (m.vecs = o.vecs) := Lib.hid (of_decide_eq_true hb2)
        clear hb2
        go_wp2_with fail
        refine HC2.out.mono ?_
        rintro e w5 ⟨rfl, q⟩
        have Q3 := Lib.hid (Qt.trans Q2.out q)
        clear q HC2 c0 d0 c1 d1 c2 d2 c3 d3 c4 d4 c5 d5 c6 d6 c7 d7 zp zq
        have c0 := (HP1.out.kp Q3.out.kp).c0
        have d0 := (HP2.out.kp Q3.out.kp).c0
        have c1 := (HP1.out.kp Q3.out.kp).c1
        have d1 := (HP2.out.kp Q3.out.kp).c1
        have c2 := (HP1.out.kp Q3.out.kp).c2
        have d2 := (HP2.out.kp Q3.out.kp).c2
        have c3 := (HP1.out.kp Q3.out.kp).c3
        have d3 := (HP2.out.kp Q3.out.kp).c3
        have c4 := (HP1.out.kp Q3.out.kp).c4
        have d4 := (HP2.out.kp Q3.out.kp).c4
        have c5 := (HP1.out.kp Q3.out.kp).c5
        have d5 := (HP2.out.kp Q3.out.kp).c5
        have c6 := (HP1.out.kp Q3.out.kp).c6
        have d6 := (HP2.out.kp Q3.out.kp).c6
        have c7 := (HP1.out.kp Q3.out.kp).c7
        have d7 := (HP2.out.kp Q3.out.kp).c7
        have zp := (HP1.out.kp Q3.out.kp).size
        have zq := (HP2.out.kp Q3.out.kp).size
        obtain ⟨b3, hb3⟩ : ∃ b : Bool, decide (m.main = o.main) = b := ⟨_, rfl⟩
        have hq3 : ((m.main : Int) == (o.main : Int)) = b3 := by rw [← hb3]; rw [Bool.eq_iff_iff]; simp
        cases b3 with
        | false =>
          have E3 : Hid (¬ m.main = o.main) := Lib.hid (of_decide_eq_false hb3)
          clear hb3
          go_wp2
          go_ret
          exact ⟨ret_bool (NO.out (fun z => E3.out z.2.2.2.1)).symm, K2.out.trans (Qt.kp Q3.out)⟩
        | true =>
          have E3 : Hid (m.main = o.main) := Lib.hid (of_decide_eq_true hb3)
          clear hb3
          obtain ⟨b4, hb4⟩ : ∃ b : Bool, decide (m.init = o.init) = b := ⟨_, rfl⟩
          have HC4 := Lib.hid (eqU32_any h.aI g.aI h.cI g.cI m.init o.init w5 (HP1.out.kp Q3.out.kp).in'.init (HP2.out.kp Q3.out.kp).in'.init HW.out.nI b4 (by rw [← hb4]; simp))
          cases b4 with
          | false =>
            have E4 : Hid (¬ m.init = o.init) := Lib.hid (of_decide_eq_false hb4)
            clear hb4
            go_wp2_with fail
            refine HC4.out.mono ?_
            rintro e w6 ⟨rfl, q⟩
            go_wp2
            go_ret
            exact ⟨ret_bool (NO.out (fun z => E4.out z.2.2.2.2.1)).symm, K2.out.trans (Qt.kp (Qt.trans Q3.out q))⟩
          | true =>
            have E4 : Hid (m.init = o.init) := Lib.hid (of_decide_eq_true hb4)
            clear hb4
            go_wp2_with fail
            refine HC4.out.mono ?_
            rintro e w6 ⟨rfl, q⟩
            have Q4 := Lib.hid (Qt.trans Q3.out q)
            clear q HC4 c0 d0 c1 d1 c2 d2 c3 d3 c4 d4 c5 d5 c6 d6 c7 d7 zp zq
            have c0 := (HP1.out.kp Q4.out.kp).c0
            have d0 := (HP2.out.kp Q4.out.kp).c0
            have c1 := (HP1.out.kp Q4.out.kp).c1
            have d1 := (HP2.out.kp Q4.out.kp).c1
            have c2 := (HP1.out.kp Q4.out.kp).c2
            have d2 := (HP2.out.kp Q4.out.kp).c2
            have c3 := (HP1.out.kp Q4.out.kp).c3
            have d3 := (HP2.out.kp Q4.out.kp).c3
            have c4 := (HP1.out.kp Q4.out.kp).c4
            have d4 := (HP2.out.kp Q4.out.kp).c4
            have c5 := (HP1.out.kp Q4.out.kp).c5
            have d5 := (HP2.out.kp Q4.out.kp).c5
            have c6 := (HP1.out.kp Q4.out.kp).c6
            have d6 := (HP2.out.kp Q4.out.kp).c6
            have c7 := (HP1.out.kp Q4.out.kp).c7
            have d7 := (HP2.out.kp Q4.out.kp).c7
            have zp := (HP1.out.kp Q4.out.kp).size
            have zq := (HP2.out.kp Q4.out.kp).size
            obtain ⟨b5, hb5⟩ : ∃ b : Bool, decide (m.ports = o.ports) = b := ⟨_, rfl⟩
            have HC5 := Lib.hid (eqPort_any h.aP g.aP h.cP g.cP m.ports o.ports w6 (HP1.out.kp Q4.out.kp).in'.ports (HP2.out.kp Q4.out.kp).in'.ports HW.out.nP b5 (by rw [← hb5]; simp))
            cases b5 with
            | false =>
              have E5 : Hid (¬ m.ports = o.ports) := Lib.hid (of_decide_eq_false hb5)
              clear hb5
              go_wp2_with fail
              refine HC5.out.mono ?_
              rintro e w7 ⟨rfl, q⟩
              go_wp2
              go_ret
              exact ⟨ret_bool (NO.out (fun z => E5.out z.2.2.2.2.2.1)).symm, K2.out.trans (Qt.kp (Qt.trans Q4.out q))⟩
            | true =>
              have E5 : Hid (m.ports = o.ports) := Lib.hid (of_decide_eq_true hb5)
              clear hb5
              go_wp2_with fail
              refine HC5.out.mono ?_
              rintro e w7 ⟨rfl, q⟩
              have Q5 := Lib.hid (Qt.trans Q4.out q)
              clear q HC5 c0 d0 c1 d1 c2 d2 c3 d3 c4 d4 c5 d5 c6 d6 c7 d7 zp zq
              have c0 := (HP1.out.kp Q5.out.kp).c0
              have d0 := (HP2.out.kp Q5.out.kp).c0
              have c1 := (HP1.out.kp Q5.out.kp).c1
              have d1 := (HP2.out.kp Q5.out.kp).c1
              have c2 := (HP1.out.kp Q5.out.kp).c2
              have d2 := (HP2.out.kp Q5.out.kp).c2
              have c3 := (HP1.out.kp Q5.out.kp).c3
              have d3 := (HP2.out.kp Q5.out.kp).c3
              have c4 := (HP1.out.kp Q5.out.kp).c4
              have d4 := (HP2.out.kp Q5.out.kp).c4
              have c5 := (HP1.out.kp Q5.out.kp).c5
              have d5 := (HP2.out.kp Q5.out.kp).c5
              have c6 := (HP1.out.kp Q5.out.kp).c6
              have d6 := (HP2.out.kp Q5.out.kp).c6
              have c7 := (HP1.out.kp Q5.out.kp).c7
              have d7 := (HP2.out.kp Q5.out.kp).c7
              have zp := (HP1.out.kp Q5.out.kp).size
              have zq := (HP2.out.kp Q5.out.kp).size
              obtain ⟨b6, hb6⟩ : ∃ b : Bool, decide (m.stack = o.stack) = b := ⟨_, rfl⟩
              have hq6 : ((m.stack : Int) == (o.stack : Int)) = b6 := by rw [← hb6]; rw [Bool.eq_iff_iff]; simp
              cases b6 with
              | false =>
                have E6 : Hid (¬ m.stack = o.stack) := Lib.hid (of_decide_eq_false hb6)
                clear hb6
                go_wp2
                go_ret
                exact ⟨ret_bool (NO.out (fun z => E6.out z.2.2.2.2.2.2.1)).symm, K2.out.trans (Qt.kp Q5.out)⟩
              | true =>
                have E6 : Hid (m.stack = o.stack) := Lib.hid (of_decide_eq_true hb6)
                clear hb6
                obtain ⟨b7, hb7⟩ : ∃ b : Bool, decide (m.atoms = o.atoms) = b := ⟨_, rfl⟩
                have HC7 := Lib.hid (eqL_any h.aA g.aA h.cA g.cA m.atoms o.atoms w7 (HP1.out.kp Q5.out.kp).in'.atoms (HP2.out.kp Q5.out.kp).in'.atoms HW.out.nA HW.out.nL b7 (by rw [← hb7]; simp))
                cases b7 with
                | false =>
                  have E7 : Hid (¬ m.atoms = o.atoms) := Lib.hid (of_decide_eq_false hb7)
                  clear hb7
                  go_wp2_with fail
                  refine HC7.out.mono ?_
                  rintro e w8 ⟨rfl, q⟩
                  go_wp2
                  go_ret
                  exact ⟨ret_bool (NO.out (fun z => E7.out z.2.2.2.2.2.2.2)).symm, K2.out.trans (Qt.kp (Qt.trans Q5.out q))⟩
                | true =>
                  have E7 : Hid (m.atoms = o.atoms) := Lib.hid (of_decide_eq_true hb7)
                  clear hb7
                  go_wp2_with fail
                  refine HC7.out.mono ?_
                  rintro e w8 ⟨rfl, q⟩
                  have Q6 := Lib.hid (Qt.trans Q5.out q)
                  clear q HC7 c0 d0 c1 d1 c2 d2 c3 d3 c4 d4 c5 d5 c6 d6 c7 d7 zp zq
                  have c0 := (HP1.out.kp Q6.out.kp).c0
                  have d0 := (HP2.out.kp Q6.out.kp).c0
                  have c1 := (HP1.out.kp Q6.out.kp).c1
                  have d1 := (HP2.out.kp Q6.out.kp).c1
                  have c2 := (HP1.out.kp Q6.out.kp).c2
                  have d2 := (HP2.out.kp Q6.out.kp).c2
                  have c3 := (HP1.out.kp Q6.out.kp).c3
                  have d3 := (HP2.out.kp Q6.out.kp).c3
                  have c4 := (HP1.out.kp Q6.out.kp).c4
                  have d4 := (HP2.out.kp Q6.out.kp).c4
                  have c5 := (HP1.out.kp Q6.out.kp).c5
                  have d5 := (HP2.out.kp Q6.out.kp).c5
                  have c6 := (HP1.out.kp Q6.out.kp).c6
                  have d6 := (HP2.out.kp Q6.out.kp).c6
                  have c7 := (HP1.out.kp Q6.out.kp).c7
                  have d7 := (HP2.out.kp Q6.out.kp).c7
                  have zp := (HP1.out.kp Q6.out.kp).size
                  have zq := (HP2.out.kp Q6.out.kp).size
                  go_wp2
                  go_ret
                  exact ⟨ret_bool (YES.out ⟨E0.out, E1.out, E2.out, E3.out, E4.out, E5.out, E6.out, E7.out⟩).symm, K2.out.trans Q6.out.kp⟩
end Im
end Go.Proofs.YtaeblnlbelebkaaGreatDoor
