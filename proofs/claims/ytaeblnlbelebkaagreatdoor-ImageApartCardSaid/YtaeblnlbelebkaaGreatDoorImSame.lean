/-
  WALKS: the kit's Image: two images are the same. Own work.
-/
import Derived.Test.YtaeblnlbelebkaaGreatDoorImDiff
import Derived.Laws.StructEq
namespace Go.Proofs.YtaeblnlbelebkaaGreatDoor
namespace Im
open Go.RowKit Go
open Co (Kp ret_int ret_bool ret2_int In in0 IIn Ics Wf)
open Ln (VIn Vcs)
set_option linter.unusedVariables false

theorem im_ext {m o : Im} (a : m.code = o.code) (b : m.funcs = o.funcs) (c : m.vecs = o.vecs) (d : m.main = o.main) (e : m.init = o.init) (f : m.ports = o.ports) (g : m.stack = o.stack) (h : m.atoms = o.atoms) : m = o := by
  cases m
  cases o
  simp only at a b c d e f g h
  rw [a, b, c, d, e, f, g, h]
set_option maxHeartbeats 8000000 in
set_option maxRecDepth 100000 in
theorem Image_heads {w : World} {h g : Hd} {m o : Im} (hm : ImIn w h m) (ho : ImIn w g o) (hW : ImWf m) (r : Bool) (hr : m = o ↔ r = true) (hh : m.code.length = o.code.length ∧ m.funcs.length = o.funcs.length ∧ m.vecs.length = o.vecs.length ∧ m.main = o.main ∧ m.init.length = o.init.length ∧ m.ports.length = o.ports.length ∧ m.stack = o.stack ∧ m.atoms = o.atoms) :
    Calls Tryz.prog 12 #[h.val m, g.val o] w fun e w' => e = .returned (.bool r) ∧ Kp w w' := by
  have nC := hW.nC
  have nF := hW.nF
  have nV := hW.nV
  have nI := hW.nI
  have nP := hW.nP
  have P1 := (Ptr.new hm).kp ((Kp.refl _).alloc #[.slice g.aC o.code.length g.cC, .slice g.aF o.funcs.length g.cF, .slice g.aV o.vecs.length g.cV, .int .i64 o.main, .slice g.aI o.init.length g.cI, .slice g.aP o.ports.length g.cP, .int .i64 o.stack, .slice g.aA o.atoms.length g.cA] 29)
  have P2 := ptr_two #[.slice h.aC m.code.length h.cC, .slice h.aF m.funcs.length h.cF, .slice h.aV m.vecs.length h.cV, .int .i64 m.main, .slice h.aI m.init.length h.cI, .slice h.aP m.ports.length h.cP, .int .i64 m.stack, .slice h.aA m.atoms.length h.cA] 29 ho
  have K2 := Lib.hid (((Kp.refl w).alloc #[.slice h.aC m.code.length h.cC, .slice h.aF m.funcs.length h.cF, .slice h.aV m.vecs.length h.cV, .int .i64 m.main, .slice h.aI m.init.length h.cI, .slice h.aP m.ports.length h.cP, .int .i64 m.stack, .slice h.aA m.atoms.length h.cA] 29).alloc #[.slice g.aC o.code.length g.cC, .slice g.aF o.funcs.length g.cF, .slice g.aV o.vecs.length g.cV, .int .i64 o.main, .slice g.aI o.init.length g.cI, .slice g.aP o.ports.length g.cP, .int .i64 o.stack, .slice g.aA o.atoms.length g.cA] 29)
  have HR := Lib.hid hr
  have HW := Lib.hid hW
  have HH := Lib.hid hh
  clear hm ho hr hW hh
  unfold Hd.val
  go_enter Tryz.func12, Tryz.ntmps12
  go_upto_region 1 with (fail)
  revert P1 P2 K2
  generalize (w.alloc _).alloc _ = w2
  generalize w.heap.size = p
  intro P1 P2 K2
  have c0 := P1.c0
  have d0 := P2.c0
  have c1 := P1.c1
  have d1 := P2.c1
  have c2 := P1.c2
  have d2 := P2.c2
  have c3 := P1.c3
  have d3 := P2.c3
  have c4 := P1.c4
  have d4 := P2.c4
  have c5 := P1.c5
  have d5 := P2.c5
  have c6 := P1.c6
  have d6 := P2.c6
  have c7 := P1.c7
  have d7 := P2.c7
  have zp := P1.size
  have zq := P2.size
  have HP1 := Lib.hid P1
  have HP2 := Lib.hid P2
  clear P1 P2
  have NO : Hid (m ≠ o → r = false) := Lib.hid (fun e => by
    have : ¬ r = true := fun x => e (HR.out.2 x)
    simpa using this)
  obtain ⟨q0, q1, q2, q3, q4, q5, q6, qA⟩ := HH.out
  have b0 : ((m.code.length : Int) != (o.code.length : Int)) = false := bne_no (by omega)
  have b1 : ((m.funcs.length : Int) != (o.funcs.length : Int)) = false := bne_no (by omega)
  have b2 : ((m.vecs.length : Int) != (o.vecs.length : Int)) = false := bne_no (by omega)
  have b3 : ((m.main : Int) != (o.main : Int)) = false := bne_no (by omega)
  have b4 : ((m.init.length : Int) != (o.init.length : Int)) = false := bne_no (by omega)
  have b5 : ((m.ports.length : Int) != (o.ports.length : Int)) = false := bne_no (by omega)
  have b6 : ((m.stack : Int) != (o.stack : Int)) = false := bne_no (by omega)
  have HL := Lib.hid (Lists_any h.aA g.aA h.cA g.cA m.atoms o.atoms w2 HP1.out.in'.atoms HP2.out.in'.atoms HW.out.nA HW.out.nL true (by simpa using qA))
  have QA := Lib.hid qA
  have Q0 := Lib.hid q0
  have Q1 := Lib.hid q1
  have Q2 := Lib.hid q2
  have Q3 := Lib.hid q3
  have Q4 := Lib.hid q4
  have Q5 := Lib.hid q5
  have Q6 := Lib.hid q6
  clear qA q0 q1 q2 q3 q4 q5 q6
  go_upto_region 3 with (go_at_call 37; refine HL.out.mono ?_; rintro e w3 ⟨rfl, k3⟩)
  have K3 := Lib.hid (K2.out.trans k3.kp)
  have HP3 := Lib.hid (HP1.out.kp k3.kp)
  have HP4 := Lib.hid (HP2.out.kp k3.kp)
  clear k3 c0 d0 c1 d1 c2 d2 c3 d3 c4 d4 c5 d5 c6 d6 c7 d7 zp zq b0 b1 b2 b3 b4 b5 b6
  go_wp2_with fail
  go_loopw [5] (fun i ws => ∃ (k : Nat), k ≤ m.code.length ∧ i = .int .i64 k ∧ Qt w3 ws ∧ Hid (∀ j, j < k → m.code.getD j in0 = o.code.getD j in0)) (fun i _ => m.code.length - (intOf i).toNat)
  case atStart => exact ⟨0, Nat.zero_le _, rfl, Qt.refl _, fun j h => absurd h (Nat.not_lt_zero j)⟩
  case round =>
    obtain ⟨k, hk, rfl, hkp, HA⟩ := hrel
    have HP5 := Lib.hid (HP3.out.kp hkp.kp)
    have HP6 := Lib.hid (HP4.out.kp hkp.kp)
    have a1 := HP5.out.c0
    have a2 := HP6.out.c0
    have z1 := HP5.out.size
    have z2 := HP6.out.size
    by_cases hlt : k < m.code.length
    case pos =>
      have hlt2 : k < o.code.length := by have := Q0.out; omega
      obtain ⟨b, off, hao, hvc⟩ := CIn.at HP5.out.in'.code hlt
      obtain ⟨b2, off2, hbo, hvc2⟩ := CIn.at HP6.out.in'.code hlt2
      rw [hao] at a1
      rw [hbo] at a2
      clear hao hbo
      have hk0 : (0 : Int) ≤ (k : Int) := Int.natCast_nonneg _
      have hk1 : (k : Int) < (m.code.length : Int) := by omega
      have hk2 : (k : Int) < (o.code.length : Int) := by omega
      have y0 := hvc.size
      have y1 := hvc2.size
      have u0 := hvc.o k hlt
      have v0 := hvc2.o k hlt2
      have u1 := hvc.a k hlt
      have v1 := hvc2.a k hlt2
      have u2 := hvc.b' k hlt
      have v2 := hvc2.b' k hlt2
      have u3 := hvc.c k hlt
      have v3 := hvc2.c k hlt2
      clear hvc hvc2
      by_cases hx : m.code.getD k in0 = o.code.getD k in0
      case pos =>
        have HX : Hid (∀ j, j < k + 1 → m.code.getD j in0 = o.code.getD j in0) := Lib.hid (fun j hj => by
          rcases Nat.lt_succ_iff_lt_or_eq.1 hj with h2 | h2
          · exact HA.out j h2
          · subst h2; exact hx)
        generalize m.code.getD k in0 = x at *
        generalize o.code.getD k in0 = y at *
        subst hx
        obtain ⟨x0, x1, x2, x3⟩ := x
        simp only at u0 v0 u1 v1 u2 v2 u3 v3
        go_wp2
        go_quiet (fail)
        go_wp2
        go_roundw
        case rel => exact ⟨k + 1, by omega, by go_num, hkp.drew _, HX⟩
        case measure => simp [intOf]; omega
      case neg =>
        have FIN : r = false := NO.out (fun e => hx (congrArg (fun z : Im => z.code.getD k in0) e))
        subst FIN
        generalize m.code.getD k in0 = x at *
        generalize o.code.getD k in0 = y at *
        obtain ⟨x0, x1, x2, x3⟩ := x
        obtain ⟨y0_, y1_, y2_, y3_⟩ := y
        simp only at u0 v0 u1 v1 u2 v2 u3 v3
        have hx2 : x0 ≠ y0_ ∨ x0 = y0_ ∧ (x1 ≠ y1_ ∨ x1 = y1_ ∧ (x2 ≠ y2_ ∨ x2 = y2_ ∧ (x3 ≠ y3_))) := by
          by_cases e0 : x0 = y0_
          · refine .inr ⟨e0, ?_⟩
            subst e0
            by_cases e1 : x1 = y1_
            · refine .inr ⟨e1, ?_⟩
              subst e1
              by_cases e2 : x2 = y2_
              · refine .inr ⟨e2, ?_⟩
                subst e2
                intro e3; subst e3; exact hx rfl
              · exact .inl e2
            · exact .inl e1
          · exact .inl e0
        clear hx
        rcases hx2 with e | ⟨rfl, e | ⟨rfl, e | ⟨rfl, e⟩⟩⟩
        · have bb : (x0 == y0_) = false := by simpa using e
          go_wp2
          go_quiet (fail)
          go_wp2
          go_ret
          exact ⟨rfl, K3.out.trans ((hkp.drew _).kp)⟩
        · have bb : (x1 == y1_) = false := by simpa using e
          go_wp2
          go_quiet (fail)
          go_wp2
          go_ret
          exact ⟨rfl, K3.out.trans ((hkp.drew _).kp)⟩
        · have bb : (x2 == y2_) = false := by simpa using e
          go_wp2
          go_quiet (fail)
          go_wp2
          go_ret
          exact ⟨rfl, K3.out.trans ((hkp.drew _).kp)⟩
        · have bb : (x3 == y3_) = false := by simpa using e
          go_wp2
          go_quiet (fail)
          go_wp2
          go_ret
          exact ⟨rfl, K3.out.trans ((hkp.drew _).kp)⟩
    case neg =>
    obtain rfl : k = m.code.length := by omega
    have EC : Hid (m.code = o.code) := Lib.hid (ext_getD (d := in0) Q0.out HA.out)
    have K3 := Lib.hid (K3.out.trans hkp.kp)
    have HP3 := Lib.hid HP5.out
    have HP4 := Lib.hid HP6.out
    clear hkp HA hlt hk
    go_wp2_with fail
    clear a1 a2 z1 z2
    go_loopw [6] (fun i ws => ∃ (k : Nat), k ≤ m.funcs.length ∧ i = .int .i64 k ∧ Qt wr ws ∧ Hid (∀ j, j < k → m.funcs.getD j f0 = o.funcs.getD j f0)) (fun i _ => m.funcs.length - (intOf i).toNat)
    case atStart => exact ⟨0, Nat.zero_le _, rfl, Qt.refl _, fun j h => absurd h (Nat.not_lt_zero j)⟩
    case round =>
      obtain ⟨k, hk, rfl, hkp, HA⟩ := hrel
      have HP5 := Lib.hid (HP3.out.kp hkp.kp)
      have HP6 := Lib.hid (HP4.out.kp hkp.kp)
      have a1 := HP5.out.c1
      have a2 := HP6.out.c1
      have z1 := HP5.out.size
      have z2 := HP6.out.size
      by_cases hlt : k < m.funcs.length
      case pos =>
        have hlt2 : k < o.funcs.length := by have := Q1.out; omega
        obtain ⟨b, off, hao, hvc⟩ := FIn.at HP5.out.in'.funcs hlt
        obtain ⟨b2, off2, hbo, hvc2⟩ := FIn.at HP6.out.in'.funcs hlt2
        rw [hao] at a1
        rw [hbo] at a2
        clear hao hbo
        have hk0 : (0 : Int) ≤ (k : Int) := Int.natCast_nonneg _
        have hk1 : (k : Int) < (m.funcs.length : Int) := by omega
        have hk2 : (k : Int) < (o.funcs.length : Int) := by omega
        have y0 := hvc.size
        have y1 := hvc2.size
        have u0 := hvc.e k hlt
        have v0 := hvc2.e k hlt2
        have u1 := hvc.p k hlt
        have v1 := hvc2.p k hlt2
        have u2 := hvc.l' k hlt
        have v2 := hvc2.l' k hlt2
        clear hvc hvc2
        by_cases hx : m.funcs.getD k f0 = o.funcs.getD k f0
        case pos =>
          have HX : Hid (∀ j, j < k + 1 → m.funcs.getD j f0 = o.funcs.getD j f0) := Lib.hid (fun j hj => by
            rcases Nat.lt_succ_iff_lt_or_eq.1 hj with h2 | h2
            · exact HA.out j h2
            · subst h2; exact hx)
          generalize m.funcs.getD k f0 = x at *
          generalize o.funcs.getD k f0 = y at *
          subst hx
          obtain ⟨x0, x1, x2⟩ := x
          simp only at u0 v0 u1 v1 u2 v2
          go_wp2
          go_quiet (fail)
          go_wp2
          go_roundw
          case rel => exact ⟨k + 1, by omega, by go_num, hkp.drew _, HX⟩
          case measure => simp [intOf]; omega
        case neg =>
          have FIN : r = false := NO.out (fun e => hx (congrArg (fun z : Im => z.funcs.getD k f0) e))
          subst FIN
          generalize m.funcs.getD k f0 = x at *
          generalize o.funcs.getD k f0 = y at *
          obtain ⟨x0, x1, x2⟩ := x
          obtain ⟨y0_, y1_, y2_⟩ := y
          simp only at u0 v0 u1 v1 u2 v2
          have hx2 : x0 ≠ y0_ ∨ x0 = y0_ ∧ (x1 ≠ y1_ ∨ x1 = y1_ ∧ (x2 ≠ y2_)) := by
            by_cases e0 : x0 = y0_
            · refine .inr ⟨e0, ?_⟩
              subst e0
              by_cases e1 : x1 = y1_
              · refine .inr ⟨e1, ?_⟩
                subst e1
                intro e2; subst e2; exact hx rfl
              · exact .inl e1
            · exact .inl e0
          clear hx
          rcases hx2 with e | ⟨rfl, e | ⟨rfl, e⟩⟩
          · have bb : (x0 == y0_) = false := by simpa using e
            go_wp2
            go_quiet (fail)
            go_wp2
            go_ret
            exact ⟨rfl, K3.out.trans ((hkp.drew _).kp)⟩
          · have bb : (x1 == y1_) = false := by simpa using e
            go_wp2
            go_quiet (fail)
            go_wp2
            go_ret
            exact ⟨rfl, K3.out.trans ((hkp.drew _).kp)⟩
          · have bb : (x2 == y2_) = false := by simpa using e
            go_wp2
            go_quiet (fail)
            go_wp2
            go_ret
            exact ⟨rfl, K3.out.trans ((hkp.drew _).kp)⟩
      case neg =>
      obtain rfl : k = m.funcs.length := by omega
      have EF : Hid (m.funcs = o.funcs) := Lib.hid (ext_getD (d := f0) Q1.out HA.out)
      have K3 := Lib.hid (K3.out.trans hkp.kp)
      have HP3 := Lib.hid HP5.out
      have HP4 := Lib.hid HP6.out
      clear hkp HA hlt hk
      go_wp2_with fail
      clear a1 a2 z1 z2
      go_loopw [7] (fun i ws => ∃ (k : Nat), k ≤ m.vecs.length ∧ i = .int .i64 k ∧ Qt wr ws ∧ Hid (∀ j, j < k → m.vecs.getD j Im.v0 = o.vecs.getD j Im.v0)) (fun i _ => m.vecs.length - (intOf i).toNat)
      case atStart => exact ⟨0, Nat.zero_le _, rfl, Qt.refl _, fun j h => absurd h (Nat.not_lt_zero j)⟩
      case round =>
        obtain ⟨k, hk, rfl, hkp, HA⟩ := hrel
        have HP5 := Lib.hid (HP3.out.kp hkp.kp)
        have HP6 := Lib.hid (HP4.out.kp hkp.kp)
        have a1 := HP5.out.c2
        have a2 := HP6.out.c2
        have z1 := HP5.out.size
        have z2 := HP6.out.size
        by_cases hlt : k < m.vecs.length
        case pos =>
          have hlt2 : k < o.vecs.length := by have := Q2.out; omega
          obtain ⟨b, off, hao, hvc⟩ := VIn.at HP5.out.in'.vecs hlt
          obtain ⟨b2, off2, hbo, hvc2⟩ := VIn.at HP6.out.in'.vecs hlt2
          rw [hao] at a1
          rw [hbo] at a2
          clear hao hbo
          have hk0 : (0 : Int) ≤ (k : Int) := Int.natCast_nonneg _
          have hk1 : (k : Int) < (m.vecs.length : Int) := by omega
          have hk2 : (k : Int) < (o.vecs.length : Int) := by omega
          have y0 := hvc.size
          have y1 := hvc2.size
          have u0 := hvc.l k hlt
          have v0 := hvc2.l k hlt2
          have u1 := hvc.p k hlt
          have v1 := hvc2.p k hlt2
          have u2 := hvc.f k hlt
          have v2 := hvc2.f k hlt2
          clear hvc hvc2
          by_cases hx : m.vecs.getD k Im.v0 = o.vecs.getD k Im.v0
          case pos =>
            have HX : Hid (∀ j, j < k + 1 → m.vecs.getD j Im.v0 = o.vecs.getD j Im.v0) := Lib.hid (fun j hj => by
              rcases Nat.lt_succ_iff_lt_or_eq.1 hj with h2 | h2
              · exact HA.out j h2
              · subst h2; exact hx)
            simp only [Im.vec] at u0 u1 u2 v0 v1 v2
            generalize m.vecs.getD k Im.v0 = x at *
            generalize o.vecs.getD k Im.v0 = y at *
            subst hx
            obtain ⟨x0, x1, x2⟩ := x
            simp only at u0 v0 u1 v1 u2 v2
            go_wp2
            go_quiet (fail)
            go_wp2
            go_roundw
            case rel => exact ⟨k + 1, by omega, by go_num, hkp.drew _, HX⟩
            case measure => simp [intOf]; omega
          case neg =>
            have FIN : r = false := NO.out (fun e => hx (congrArg (fun z : Im => z.vecs.getD k Im.v0) e))
            subst FIN
            simp only [Im.vec] at u0 u1 u2 v0 v1 v2
            generalize m.vecs.getD k Im.v0 = x at *
            generalize o.vecs.getD k Im.v0 = y at *
            obtain ⟨x0, x1, x2⟩ := x
            obtain ⟨y0_, y1_, y2_⟩ := y
            simp only at u0 v0 u1 v1 u2 v2
            have hx2 : x0 ≠ y0_ ∨ x0 = y0_ ∧ (x1 ≠ y1_ ∨ x1 = y1_ ∧ (x2 ≠ y2_)) := by
              by_cases e0 : x0 = y0_
              · refine .inr ⟨e0, ?_⟩
                subst e0
                by_cases e1 : x1 = y1_
                · refine .inr ⟨e1, ?_⟩
                  subst e1
                  intro e2; subst e2; exact hx rfl
                · exact .inl e1
              · exact .inl e0
            clear hx
            rcases hx2 with e | ⟨rfl, e | ⟨rfl, e⟩⟩
            · have bb : (x0 == y0_) = false := by simpa using e
              go_wp2
              go_quiet (fail)
              go_wp2
              go_ret
              exact ⟨rfl, K3.out.trans ((hkp.drew _).kp)⟩
            · have bb : (x1 == y1_) = false := by simpa using e
              go_wp2
              go_quiet (fail)
              go_wp2
              go_ret
              exact ⟨rfl, K3.out.trans ((hkp.drew _).kp)⟩
            · have bb : (x2 == y2_) = false := by simpa using e
              go_wp2
              go_quiet (fail)
              go_wp2
              go_ret
              exact ⟨rfl, K3.out.trans ((hkp.drew _).kp)⟩
        case neg =>
        obtain rfl : k = m.vecs.length := by omega
        have EV : Hid (m.vecs = o.vecs) := Lib.hid (ext_getD (d := Im.v0) Q2.out HA.out)
        have K3 := Lib.hid (K3.out.trans hkp.kp)
        have HP3 := Lib.hid HP5.out
        have HP4 := Lib.hid HP6.out
        clear hkp HA hlt hk
        go_wp2_with fail
        clear a1 a2 z1 z2
        go_loopw [8] (fun i ws => ∃ (k : Nat), k ≤ m.init.length ∧ i = .int .i64 k ∧ Qt wr ws ∧ Hid (∀ j, j < k → m.init.getD j 0 = o.init.getD j 0)) (fun i _ => m.init.length - (intOf i).toNat)
        case atStart => exact ⟨0, Nat.zero_le _, rfl, Qt.refl _, fun j h => absurd h (Nat.not_lt_zero j)⟩
        case round =>
          obtain ⟨k, hk, rfl, hkp, HA⟩ := hrel
          have HP5 := Lib.hid (HP3.out.kp hkp.kp)
          have HP6 := Lib.hid (HP4.out.kp hkp.kp)
          have a1 := HP5.out.c4
          have a2 := HP6.out.c4
          have z1 := HP5.out.size
          have z2 := HP6.out.size
          by_cases hlt : k < m.init.length
          case pos =>
            have hlt2 : k < o.init.length := by have := Q4.out; omega
            obtain ⟨b, off, hao, hvc⟩ := UIn.at HP5.out.in'.init hlt
            obtain ⟨b2, off2, hbo, hvc2⟩ := UIn.at HP6.out.in'.init hlt2
            rw [hao] at a1
            rw [hbo] at a2
            clear hao hbo
            have hk0 : (0 : Int) ≤ (k : Int) := Int.natCast_nonneg _
            have hk1 : (k : Int) < (m.init.length : Int) := by omega
            have hk2 : (k : Int) < (o.init.length : Int) := by omega
            have y0 := hvc.size
            have y1 := hvc2.size
            have u0 := hvc.at' k hlt
            have v0 := hvc2.at' k hlt2
            clear hvc hvc2
            by_cases hx : m.init.getD k 0 = o.init.getD k 0
            case pos =>
              have HX : Hid (∀ j, j < k + 1 → m.init.getD j 0 = o.init.getD j 0) := Lib.hid (fun j hj => by
                rcases Nat.lt_succ_iff_lt_or_eq.1 hj with h2 | h2
                · exact HA.out j h2
                · subst h2; exact hx)
              generalize m.init.getD k 0 = x at *
              generalize o.init.getD k 0 = y at *
              subst hx
              go_wp2
              go_quiet (fail)
              go_wp2
              go_roundw
              case rel => exact ⟨k + 1, by omega, by go_num, hkp.drew _, HX⟩
              case measure => simp [intOf]; omega
            case neg =>
              have FIN : r = false := NO.out (fun e => hx (congrArg (fun z : Im => z.init.getD k 0) e))
              subst FIN
              generalize m.init.getD k 0 = x at *
              generalize o.init.getD k 0 = y at *
              · have bb : (x == y) = false := by simpa using hx
                go_wp2
                go_quiet (fail)
                go_wp2
                go_ret
                exact ⟨rfl, K3.out.trans ((hkp.drew _).kp)⟩
          case neg =>
          obtain rfl : k = m.init.length := by omega
          have EI : Hid (m.init = o.init) := Lib.hid (ext_getD (d := 0) Q4.out HA.out)
          have K3 := Lib.hid (K3.out.trans hkp.kp)
          have HP3 := Lib.hid HP5.out
          have HP4 := Lib.hid HP6.out
          clear hkp HA hlt hk
          go_wp2_with fail
          clear a1 a2 z1 z2
          go_loopw [9] (fun i ws => ∃ (k : Nat), k ≤ m.ports.length ∧ i = .int .i64 k ∧ Qt wr ws ∧ Hid (∀ j, j < k → m.ports.getD j p0 = o.ports.getD j p0)) (fun i _ => m.ports.length - (intOf i).toNat)
          case atStart => exact ⟨0, Nat.zero_le _, rfl, Qt.refl _, fun j h => absurd h (Nat.not_lt_zero j)⟩
          case round =>
            obtain ⟨k, hk, rfl, hkp, HA⟩ := hrel
            have HP5 := Lib.hid (HP3.out.kp hkp.kp)
            have HP6 := Lib.hid (HP4.out.kp hkp.kp)
            have a1 := HP5.out.c5
            have a2 := HP6.out.c5
            have z1 := HP5.out.size
            have z2 := HP6.out.size
            by_cases hlt : k < m.ports.length
            case pos =>
              have hlt2 : k < o.ports.length := by have := Q5.out; omega
              obtain ⟨b, off, hao, hvc⟩ := PIn.at HP5.out.in'.ports hlt
              obtain ⟨b2, off2, hbo, hvc2⟩ := PIn.at HP6.out.in'.ports hlt2
              rw [hao] at a1
              rw [hbo] at a2
              clear hao hbo
              have hk0 : (0 : Int) ≤ (k : Int) := Int.natCast_nonneg _
              have hk1 : (k : Int) < (m.ports.length : Int) := by omega
              have hk2 : (k : Int) < (o.ports.length : Int) := by omega
              have y0 := hvc.size
              have y1 := hvc2.size
              have u0 := hvc.r k hlt
              have v0 := hvc2.r k hlt2
              have u1 := hvc.w' k hlt
              have v1 := hvc2.w' k hlt2
              clear hvc hvc2
              by_cases hx : m.ports.getD k p0 = o.ports.getD k p0
              case pos =>
                have HX : Hid (∀ j, j < k + 1 → m.ports.getD j p0 = o.ports.getD j p0) := Lib.hid (fun j hj => by
                  rcases Nat.lt_succ_iff_lt_or_eq.1 hj with h2 | h2
                  · exact HA.out j h2
                  · subst h2; exact hx)
                generalize m.ports.getD k p0 = x at *
                generalize o.ports.getD k p0 = y at *
                subst hx
                obtain ⟨x0, x1⟩ := x
                simp only at u0 v0 u1 v1
                go_wp2
                go_quiet (fail)
                go_wp2
                go_roundw
                case rel => exact ⟨k + 1, by omega, by go_num, hkp.drew _, HX⟩
                case measure => simp [intOf]; omega
              case neg =>
                have FIN : r = false := NO.out (fun e => hx (congrArg (fun z : Im => z.ports.getD k p0) e))
                subst FIN
                generalize m.ports.getD k p0 = x at *
                generalize o.ports.getD k p0 = y at *
                obtain ⟨x0, x1⟩ := x
                obtain ⟨y0_, y1_⟩ := y
                simp only at u0 v0 u1 v1
                have hx2 : x0 ≠ y0_ ∨ x0 = y0_ ∧ (x1 ≠ y1_) := by
                  by_cases e0 : x0 = y0_
                  · refine .inr ⟨e0, ?_⟩
                    subst e0
                    intro e1; subst e1; exact hx rfl
                  · exact .inl e0
                clear hx
                rcases hx2 with e | ⟨rfl, e⟩
                · have bb : (x0 == y0_) = false := by simpa using e
                  go_wp2
                  go_quiet (fail)
                  go_wp2
                  go_ret
                  exact ⟨rfl, K3.out.trans ((hkp.drew _).kp)⟩
                · have bb : (x1 == y1_) = false := by simpa using e
                  go_wp2
                  go_quiet (fail)
                  go_wp2
                  go_ret
                  exact ⟨rfl, K3.out.trans ((hkp.drew _).kp)⟩
            case neg =>
            obtain rfl : k = m.ports.length := by omega
            have EP : Hid (m.ports = o.ports) := Lib.hid (ext_getD (d := p0) Q5.out HA.out)
            have K3 := Lib.hid (K3.out.trans hkp.kp)
            have HP3 := Lib.hid HP5.out
            have HP4 := Lib.hid HP6.out
            clear hkp HA hlt hk
            go_wp2
            go_ret
            exact ⟨ret_bool (HR.out.1 (im_ext EC.out EF.out EV.out Q3.out EI.out EP.out Q6.out QA.out)).symm, K3.out⟩
/-- The kit's Image. -/
theorem Image_any {w : World} {h g : Hd} {m o : Im} (hm : ImIn w h m) (ho : ImIn w g o) (hW : ImWf m) (r : Bool) (hr : m = o ↔ r = true) :
    Calls Tryz.prog 12 #[h.val m, g.val o] w fun e w' => e = .returned (.bool r) ∧ Kp w w' := by
  by_cases hh : m.code.length = o.code.length ∧ m.funcs.length = o.funcs.length ∧ m.vecs.length = o.vecs.length ∧ m.main = o.main ∧ m.init.length = o.init.length ∧ m.ports.length = o.ports.length ∧ m.stack = o.stack ∧ m.atoms = o.atoms
  · exact Image_heads hm ho hW r hr hh
  · exact Image_diff hm ho hW r hr hh
end Im
end Go.Proofs.YtaeblnlbelebkaaGreatDoor
