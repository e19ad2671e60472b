/-
  WALKS: the kit's LightImage, Own, Pick. Own work.
-/
import Derived.Test.YtaeblnlbelebkaaGreatDoorImKit
namespace Go.Proofs.YtaeblnlbelebkaaGreatDoor
namespace Im
open Go.RowKit Go
open Co (Kp ret_int ret_bool ret2_int In in0 IIn Ics Wf)
open Ln (VIn Vcs)
set_option linter.unusedVariables false

def Heavy (m : Im) : Prop := 300 < m.code.length ∨ 80 < m.funcs.length ∨ 40 < m.vecs.length ∨ 300 < m.init.length ∨ 40 < m.ports.length ∨ 80 < m.atoms.length
/-- What LightImage answers: one of two; true only if the counts are small. -/
def LitP (w : World) (m : Im) (e : Ending) (w' : World) : Prop := ∃ b, e = .returned (.bool b) ∧ (b = true → ¬ Heavy m) ∧ Kp w w'
set_option maxHeartbeats 2000000 in
set_option maxRecDepth 100000 in
theorem Light_any {w : World} {h : Hd} {m : Im} (hin : ImIn w h m) (hW : ImWf m) :
    Calls Tryz.prog 6 #[h.val m, .int .i64 300] w (LitP w m) := by
  obtain ⟨nC, nF, nV, nI, nP, nA, nL, _, _⟩ := hW
  have P1 := Ptr.new hin
  have K1 := Lib.hid ((Kp.refl w).alloc #[.slice h.aC m.code.length h.cC, .slice h.aF m.funcs.length h.cF, .slice h.aV m.vecs.length h.cV, .int .i64 m.main, .slice h.aI m.init.length h.cI, .slice h.aP m.ports.length h.cP, .int .i64 m.stack, .slice h.aA m.atoms.length h.cA] 29)
  clear hin
  unfold Hd.val
  go_enter Tryz.func6, Tryz.ntmps6
  go_upto_region 1 with (fail)
  revert P1 K1
  generalize w.alloc _ = w1
  generalize w.heap.size = p
  intro P1 K1
  have c0 := P1.c0
  have c1 := P1.c1
  have c2 := P1.c2
  have c4 := P1.c4
  have c5 := P1.c5
  have c7 := P1.c7
  have zp := P1.size
  have HP := Lib.hid P1
  clear P1
  by_cases hl : Heavy m
  · unfold Heavy at hl
    go_wp2
    all_goals first
      | (exfalso; omega)
      | (go_ret; exact ⟨false, rfl, (fun h => by cases h), K1.out⟩)
  · have l1 : (m.funcs.length : Int) ≤ 80 := by unfold Heavy at hl; omega
    have l2 : (m.code.length : Int) ≤ 300 := by unfold Heavy at hl; omega
    have l3 : (m.vecs.length : Int) ≤ 40 := by unfold Heavy at hl; omega
    have l4 : (m.init.length : Int) ≤ 300 := by unfold Heavy at hl; omega
    have l5 : (m.ports.length : Int) ≤ 40 := by unfold Heavy at hl; omega
    have l6 : (m.atoms.length : Int) ≤ 80 := by unfold Heavy at hl; omega
    have b1 : decide ((80 : Int) < m.funcs.length) = false := by simp; omega
    have b2 : decide ((300 : Int) < m.code.length) = false := by simp; omega
    have b3 : decide ((40 : Int) < m.vecs.length) = false := by simp; omega
    have b4 : decide ((300 : Int) < m.init.length) = false := by simp; omega
    have b5 : decide ((40 : Int) < m.ports.length) = false := by simp; omega
    have b6 : decide ((80 : Int) < m.atoms.length) = false := by simp; omega
    have HL := Lib.hid hl
    clear hl
    go_upto_region 3 with (fail)
    clear b1 b2 b3 b4 b5 b6 c0 c1 c2 c4 c5 l1 l2 l3 l4 l5
    go_wp2_with fail
    go_loop [5] (fun i => ∃ k : Nat, k ≤ m.atoms.length ∧ i = .int .i64 k) (fun i => m.atoms.length - (intOf i).toNat)
    case atStart => exact ⟨0, Nat.zero_le _, rfl⟩
    case round =>
      obtain ⟨k, hk, rfl⟩ := hrel
      by_cases hlt : k < m.atoms.length
      · obtain ⟨bA, oA, hao, hbs, ao, cap, hc, _⟩ := AIn.cell HP.out.in'.atoms hlt
        rw [hao] at c7
        have hnl := nL k
        have hLe : (m.at' k).length = (m.atoms.getD k []).length := rfl
        have hk0 : (0 : Int) ≤ (k : Int) := Int.natCast_nonneg _
        have hk1 : (k : Int) < (m.atoms.length : Int) := by omega
        clear hao nL
        generalize (m.atoms.getD k []).length = L at *
        rw [hLe] at hnl
        clear hLe
        by_cases hlg : (300 : Int) < L
        · go_wp2
          go_ret
          exact ⟨false, rfl, (fun h => by cases h), K1.out⟩
        · go_wp2
          go_round
          case rel => exact ⟨k + 1, by omega, by go_num⟩
          case measure => simp [intOf]; omega
      · obtain rfl : k = m.atoms.length := by omega
        go_wp2
        go_ret
        exact ⟨true, rfl, (fun _ => HL.out), K1.out⟩
end Im
end Go.Proofs.YtaeblnlbelebkaaGreatDoor
