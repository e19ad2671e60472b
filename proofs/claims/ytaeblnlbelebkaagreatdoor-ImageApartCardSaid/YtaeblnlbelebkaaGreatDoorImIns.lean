/-
  WALKS: package image, the checks of instructions and of the last ones. Own work.
-/
import Derived.Test.YtaeblnlbelebkaaGreatDoorImFinds
import Derived.Test.YtaeblnlbelebkaaGreatDoorImChecks
import Derived.Outline
namespace Go.Proofs.YtaeblnlbelebkaaGreatDoor
namespace Im
open Go.RowKit Go
open Co (Kp ret_int ret_bool ret2_int In in0 IIn Ics Wf)
open Ln (VIn Vcs)
set_option linter.unusedVariables false

/-- Where a function's code begins and ends, as numbers of cells. -/
theorem FnsB.nat {m : Im} (h : FnsB m) {f : Nat} (hf : f < m.funcs.length) : ∃ A B : Nat, m.fr f = A ∧ m.to f = B ∧ A < B ∧ B ≤ m.code.length := by
  have a := h.fr0 hf
  have b := h.step hf
  have c := h.toN hf
  exact ⟨(m.fr f).toNat, (m.to f).toNat, by omega, by omega, by omega, by omega⟩
set_option maxHeartbeats 4000000 in
set_option maxRecDepth 100000 in
theorem instructions_any {w : World} (hE : Co.Env w) {p : Nat} {h : Hd} {m : Im} (hP : Ptr w p h m) (hW : ImWf m) (hF : FnsB m) :
    Calls Tryz.prog 83 #[.agg #[.pointer (some ⟨p, 0, none⟩)]] w fun e w' => e = .returned (.int .i64 (okE (InsB m))) ∧ Kp w w' := by
  have nF := hW.nF
  have nC := hW.nC
  have hsz := hP.size
  have HP := Lib.hid hP
  have HW := Lib.hid hW
  have HF := Lib.hid hF
  have c0 := hP.c0
  have c1 := hP.c1
  obtain ⟨bC, oC, hao, hC⟩ := hP.in'.code.at hF.code_pos
  rw [hao] at c0
  have hbC := hC.size
  have HC := Lib.hid hC
  have hcap := hP.in'.cap
  have hcapm := hP.in'.capm
  clear hP hW hF hC hao
  go_enter Tryz.func83, Tryz.ntmps83
  go_wp2
  go_loopw [14] (fun i wr => ∃ k : Nat, k ≤ m.funcs.length ∧ i = .int .i64 k ∧ Hid (∀ j, j < k → BodyB m j) ∧ Kp (w.alloc (.cells #[.pointer (some ⟨p, 0, none⟩)] 77)) wr) (fun i _ => m.funcs.length - (intOf i).toNat)
  case atStart => exact ⟨0, Nat.zero_le _, rfl, fun j hj => absurd hj (Nat.not_lt_zero _), Kp.refl _⟩
  case round =>
    obtain ⟨k, hk, rfl, hall, kr⟩ := hrel
    obtain ⟨wo, rfl⟩ : ∃ wo : World, wo = wr := ⟨_, rfl⟩
    have krs : w.heap.size < wo.heap.size := by have := kr.size; simp at this; omega
    have hs0 : wo.cell? ⟨w.heap.size, 0, none⟩ = some (.pointer (some ⟨p, 0, none⟩)) := (kr.cells _ _ (by simp)).trans (by simp)
    have kk := ((Kp.refl w).alloc _ _).trans kr
    by_cases hlt : k < m.funcs.length
    · obtain ⟨A, B, hA, hB, hAB, hBn⟩ := HF.out.nat hlt
      have HA := Lib.hid hA
      have HB := Lib.hid hB
      have p0 : wo.cell? ⟨p, 0, none⟩ = some (.slice (some ⟨bC, oC, none⟩) m.code.length h.cC) := (kk.cells _ _ hsz).trans c0
      have hpo : p < wo.heap.size := Nat.lt_of_lt_of_le hsz kk.size
      have a1 : (A : Int) < B := by omega
      have a2 : (B : Int) ≤ m.code.length := by omega
      have a3 : (A : Int) ≤ B := by omega
      have a4 : (B : Int) ≤ h.cC := by omega
      have a5 : (A : Int) < h.cC := by omega
      have KO := Lib.hid kr
      have KK := Lib.hid kk
      clear hA hB kr kk
      go_wp2_with (go_at_call 49; refine (bounds_any (HP.out.kp KK.out) HW.out k hlt (A : Int) (B : Int) HA.out HB.out).mono ?_; rintro e w1 ⟨rfl, rfl⟩)
      have a6 : ((B - A : Nat) : Int) ≤ 9223372036854775807 := by omega
      have EN : Hid ((m.to k - m.fr k).toNat = B - A) := Lib.hid (by rw [HA.out, HB.out]; omega)
      have EA : Hid ((m.fr k).toNat = A) := Lib.hid (by rw [HA.out]; omega)
      clear a1 a2 a3 a4 a5
      go_loopw [33] (fun i wr => ∃ j : Nat, j ≤ B - A ∧ i = .int .i64 j ∧ Hid (∀ q, q < j → InsOk m k (m.ins (A + q))) ∧ Kp wo wr) (fun i _ => B - A - (intOf i).toNat)
      case atStart => exact ⟨0, Nat.zero_le _, rfl, fun j hj => absurd hj (Nat.not_lt_zero _), Kp.refl _⟩
      case round =>
        obtain ⟨j, hj, rfl, hin, jr⟩ := hrel
        have jz : wo.heap.size ≤ wr.heap.size := jr.size
        have js0 : wr.cell? ⟨w.heap.size, 0, none⟩ = some (.pointer (some ⟨p, 0, none⟩)) := (jr.cells _ _ krs).trans hs0
        have jzs : w.heap.size < wr.heap.size := by omega
        have KW := KK.out.trans jr
        by_cases hjt : j < B - A
        · have hlen : A + j < m.code.length := by omega
          have hCr := HC.out.kp KW
          have ad : oC + (A + j) * 4 = oC + A * 4 + j * 4 := by omega
          have x0 := hCr.o (A + j) hlen
          have x1 := hCr.a (A + j) hlen
          have x2 := hCr.b' (A + j) hlen
          have x3 := hCr.c (A + j) hlen
          rw [ad] at x0 x1 x2 x3
          have hbr := hCr.size
          have hwf := HW.out.code (A + j)
          have hins : m.ins (A + j) = m.code.getD (A + j) in0 := rfl
          have hok : ∀ i : In, m.ins (A + j) = i → (InsOk m k (m.ins (A + j)) ↔ InsOk m k i) := fun i e => by rw [e]
          have hik := hok _ hins
          rw [hins] at hwf
          generalize m.code.getD (A + j) in0 = I at *
          obtain ⟨op, x, y, z⟩ := I
          simp only at x0 x1 x2 x3
          have HWF := Lib.hid hwf
          have HIK := Lib.hid hik
          have NOT : Hid (¬ InsOk m k ⟨op, x, y, z⟩ → okE (InsB m) = 2) := fun g => okE_no (fun (G : InsB m) => g (HIK.out.1 (by have := G k hlt j (by rw [EN.out]; exact hjt); rwa [EA.out] at this)))
          have KR := (Lib.hid jr)
          have KB := (KW.alloc #[.int .i64 op, .int .i64 x, .int .i64 y, .int .i64 z] 55)
          have KBo := (jr.alloc #[.int .i64 op, .int .i64 x, .int .i64 y, .int .i64 z] 55)
          have HKW := Lib.hid KB
          have HKO := Lib.hid KBo
          clear hCr ad hwf hik hok hins jr KW KB KBo
          cases hc : Co.chk ⟨op, x, y, z⟩ with
          | false =>
            have HCH := Lib.hid (Co.chkE_no hc)
            have HNO := Lib.hid (NOT.out (fun g => by have := g.chk; rw [hc] at this; cases this))
            clear hc
            go_wp2_with fail
            refine (Co.Check_c hE HKW.out _ _ _ _ 2 HWF.out HCH.out).mono ?_
            rintro e w2 ⟨rfl, k2⟩
            go_wp2
            go_ret
            exact ⟨ret_int HNO.out.symm, k2⟩
          | true =>
            have HCH := Lib.hid (Co.chkE_yes hc)
            have HCT := Lib.hid hc
            clear hc
            cases hf : decide (Finds m k ⟨op, x, y, z⟩) with
            | false =>
              have HFI := Lib.hid hf
              have HNO := Lib.hid (NOT.out (fun g => of_decide_eq_false hf g.finds))
              clear hf
              go_wp2_with fail
              refine (Co.Check_c (hE.kept HKW.out) (Kp.refl _) _ _ _ _ 0 HWF.out HCH.out).mono ?_
              rintro e w2 ⟨rfl, k2⟩
              have hz2 : wr.heap.size < w2.heap.size := Co.size_alloc k2
              have hzs2 : w.heap.size < w2.heap.size := by omega
              have q0 : w2.cell? ⟨w.heap.size, 0, none⟩ = some (.pointer (some ⟨p, 0, none⟩)) := old_alloc k2 js0
              have q1 : ∀ o, o < 4 → w2.cell? ⟨wr.heap.size, o, none⟩ = #[Value.int .i64 op, .int .i64 x, .int .i64 y, .int .i64 z][o]? := fun o ho => new_alloc k2 o
              have q10 := q1 0 (by omega)
              have q11 := q1 1 (by omega)
              have q12 := q1 2 (by omega)
              have q13 := q1 3 (by omega)
              simp at q10 q11 q12 q13
              have K2 := Lib.hid (HKW.out.trans k2)
              clear k2 q1
              go_wp2_with fail
              refine (finds_any (HP.out.kp K2.out) k hlt op x y z HCT.out false HFI.out).mono ?_
              rintro e w3 ⟨rfl, k3⟩
              go_wp2
              go_ret
              exact ⟨ret_int HNO.out.symm, K2.out.trans k3⟩
            | true =>
              have HFI := Lib.hid hf
              have HFT := Lib.hid (of_decide_eq_true hf)
              clear hf
              have HS0 : Hid (∀ a b : Int, m.fr k = a → m.to k = b → (Stays ⟨op, x, y, z⟩ (m.fr k) (m.to k) ↔ Stays ⟨op, x, y, z⟩ a b)) := fun a b ea eb => by rw [ea, eb]
              cases hst : decide (Stays ⟨op, x, y, z⟩ (A : Int) (B : Int))
              all_goals
                have HST := Lib.hid hst
                clear hst
                go_wp2_with fail
                refine (Co.Check_c (hE.kept HKW.out) (Kp.refl _) _ _ _ _ 0 HWF.out HCH.out).mono ?_
                rintro e w2 ⟨rfl, k2⟩
                have hz2 : wr.heap.size < w2.heap.size := Co.size_alloc k2
                have hzs2 : w.heap.size < w2.heap.size := by omega
                have q0 : w2.cell? ⟨w.heap.size, 0, none⟩ = some (.pointer (some ⟨p, 0, none⟩)) := old_alloc k2 js0
                have q1 : ∀ o, o < 4 → w2.cell? ⟨wr.heap.size, o, none⟩ = #[Value.int .i64 op, .int .i64 x, .int .i64 y, .int .i64 z][o]? := fun o ho => new_alloc k2 o
                have q10 := q1 0 (by omega)
                have q11 := q1 1 (by omega)
                have q12 := q1 2 (by omega)
                have q13 := q1 3 (by omega)
                simp at q10 q11 q12 q13
                have K2 := Lib.hid (HKW.out.trans k2)
                have K2o := Lib.hid (HKO.out.trans k2)
                clear k2 q1
                go_wp2_with fail
                refine (finds_any (HP.out.kp K2.out) k hlt op x y z HCT.out true HFI.out).mono ?_
                rintro e w3 ⟨rfl, k3⟩
                have r10 := (k3.cells _ _ hz2).trans q10
                have r11 := (k3.cells _ _ hz2).trans q11
                have r12 := (k3.cells _ _ hz2).trans q12
                have r13 := (k3.cells _ _ hz2).trans q13
                have hz3 : wr.heap.size < w3.heap.size := Nat.lt_of_lt_of_le hz2 k3.size
                have K3 := Lib.hid (K2.out.trans k3)
                have K3o := Lib.hid (K2o.out.trans k3)
                clear k3
                go_wp2_with fail
                refine (stays_any (hE.kept K3.out) op x y z HWF.out (A : Int) (B : Int) _ HST.out).mono ?_
                rintro e w4 ⟨rfl, k4⟩
                go_wp2
                first
                  | (go_ret; exact ⟨ret_int (NOT.out (fun g => of_decide_eq_false HST.out ((HS0.out _ _ HA.out HB.out).1 g.stays))).symm, K3.out.trans k4⟩)
                  | (go_roundw
                     case rel => exact ⟨j + 1, by omega, by go_num, fun q hq => by
                       by_cases e : q = j
                       · subst e; exact HIK.out.2 ⟨HCT.out, HFT.out, (HS0.out _ _ HA.out HB.out).2 (of_decide_eq_true HST.out)⟩
                       · exact hin.out q (by omega), K3o.out.trans k4⟩
                     case measure => simp [intOf]; omega)
        · obtain rfl : j = B - A := by omega
          go_wp2
          go_roundw
          case rel => exact ⟨k + 1, by omega, by go_num, fun q hq => by
            by_cases e : q = k
            · subst e
              intro i hi
              rw [EN.out] at hi
              rw [EA.out]
              exact hin.out i hi
            · exact hall.out q (by omega), KO.out.trans jr⟩
          case measure => simp [intOf]; omega
    · obtain rfl : k = m.funcs.length := by omega
      go_wp2
      go_ret
      exact ⟨ret_int (by rw [okE_yes (show InsB m from hall.out)]), kk⟩
end Im
end Go.Proofs.YtaeblnlbelebkaaGreatDoor
