/-
  WALKS: package image, the check of the last instructions. Own work.
-/
import Derived.Test.YtaeblnlbelebkaaGreatDoorImIns
namespace Go.Proofs.YtaeblnlbelebkaaGreatDoor
namespace Im
open Go.RowKit Go
open Co (Kp ret_int ret_bool ret2_int In in0 IIn Ics Wf)
open Ln (VIn Vcs)
set_option linter.unusedVariables false

set_option maxHeartbeats 4000000 in
set_option maxRecDepth 100000 in
theorem lasts_any {w : World} (hE : Co.Env w) {p : Nat} {h : Hd} {m : Im} (hP : Ptr w p h m) (hW : ImWf m) (hF : FnsB m) :
    Calls Tryz.prog 84 #[.agg #[.pointer (some ⟨p, 0, none⟩)]] w fun e w' => e = .returned (.int .i64 (okE (LastB m))) ∧ Kp w w' := by
  have nF := hW.nF
  have nC := hW.nC
  have hsz := hP.size
  have HP := Lib.hid hP
  have HW := Lib.hid hW
  have HF := Lib.hid hF
  have c0 := hP.c0
  have c1 := hP.c1
  obtain ⟨bC, oC, hao, hC⟩ := hP.in'.code.at hF.code_pos
  rw [hao] at c0
  have hbC := hC.size
  have HC := Lib.hid hC
  clear hP hW hF hC hao
  go_enter Tryz.func84, Tryz.ntmps84
  go_wp2
  go_loopw [15] (fun i wr => ∃ k : Nat, k ≤ m.funcs.length ∧ i = .int .i64 k ∧ Hid (∀ j, j < k → LastOk m j) ∧ Kp (w.alloc (.cells #[.pointer (some ⟨p, 0, none⟩)] 77)) wr) (fun i _ => m.funcs.length - (intOf i).toNat)
  case atStart => exact ⟨0, Nat.zero_le _, rfl, fun j hj => absurd hj (Nat.not_lt_zero _), Kp.refl _⟩
  case round =>
    obtain ⟨k, hk, rfl, hall, kr⟩ := hrel
    have krs : w.heap.size < wr.heap.size := lt_alloc kr
    have hs0 : wr.cell? ⟨w.heap.size, 0, none⟩ = some (.pointer (some ⟨p, 0, none⟩)) := new_alloc kr 0
    have kk := ((Kp.refl w).alloc _ _).trans kr
    by_cases hlt : k < m.funcs.length
    · obtain ⟨A, B, hA, hB, hAB, hBn⟩ := HF.out.nat hlt
      have hB1 : B - 1 < m.code.length := by omega
      have hCr := HC.out.kp kk
      have x0 := hCr.o (B - 1) hB1
      have x1 := hCr.a (B - 1) hB1
      have x2 := hCr.b' (B - 1) hB1
      have x3 := hCr.c (B - 1) hB1
      have hbr := hCr.size
      have hwf := HW.out.code (B - 1)
      have hlo : LastOk m k ↔ jmpO (m.code.getD (B - 1) in0) = false := by
        unfold LastOk
        rw [hB, show ((B : Int) - 1).toNat = B - 1 by omega]
        exact Iff.rfl
      have hins : m.ins (B - 1) = m.code.getD (B - 1) in0 := rfl
      rw [hins] at hwf
      have p0 : wr.cell? ⟨p, 0, none⟩ = some (.slice (some ⟨bC, oC, none⟩) m.code.length h.cC) := (kk.cells _ _ hsz).trans c0
      have hpo : p < wr.heap.size := Nat.lt_of_lt_of_le hsz kk.size
      have a1 : (1 : Int) ≤ B := by omega
      have a2 : (B : Int) - 1 < m.code.length := by omega
      have a5 : (B : Int) ≤ 9223372036854775807 := by omega
      have a3 : ((B : Int) - 1).toNat = B - 1 := by omega
      have a4 : 0 ≤ (B : Int) - 1 := by omega
      generalize m.code.getD (B - 1) in0 = I at *
      obtain ⟨op, x, y, z⟩ := I
      simp only at x0 x1 x2 x3
      generalize ht : Co.jmpT ⟨op, x, y, z⟩ = t
      generalize hj : Co.jmpJ ⟨op, x, y, z⟩ = jj
      have hlo' : LastOk m k ↔ Co.jmpO ⟨op, x, y, z⟩ = false := hlo
      have HWF := Lib.hid hwf
      have HT := Lib.hid ht
      have HJ := Lib.hid hj
      have HLO := Lib.hid hlo'
      have HA := Lib.hid hA
      have HB := Lib.hid hB
      have KO := Lib.hid kr
      have KK := Lib.hid kk
      clear hA hB kr kk hwf hins hCr ht hj hlo hlo'
      cases ho : Co.jmpO ⟨op, x, y, z⟩
      all_goals
        have HO := Lib.hid ho
        clear ho
        go_wp2_with (first
          | (go_at_call 49; refine (bounds_any (HP.out.kp KK.out) HW.out k hlt (A : Int) (B : Int) HA.out HB.out).mono ?_; rintro e w1 ⟨rfl, rfl⟩)
          | (go_at_call 107; refine (Co.Jumps_any (hE.kept KK.out) ⟨op, x, y, z⟩ HWF.out t jj _ HT.out HJ.out HO.out).mono ?_; rintro e w1 ⟨rfl, k1⟩))
        first
          | (go_ret; exact ⟨ret_int (okE_no (fun (g : LastB m) => by have := HLO.out.1 (g k hlt); rw [HO.out] at this; cases this)).symm, KK.out.trans k1⟩)
          | (go_roundw
             case rel => exact ⟨k + 1, by omega, by go_num, fun q hq => by
               by_cases e : q = k
               · subst e; exact HLO.out.2 HO.out
               · exact hall.out q (by omega), KO.out.trans k1⟩
             case measure => simp [intOf]; omega)
    · obtain rfl : k = m.funcs.length := by omega
      go_wp2
      go_ret
      exact ⟨ret_int (by rw [okE_yes (show LastB m from hall.out)]), kk⟩
end Im
end Go.Proofs.YtaeblnlbelebkaaGreatDoor
