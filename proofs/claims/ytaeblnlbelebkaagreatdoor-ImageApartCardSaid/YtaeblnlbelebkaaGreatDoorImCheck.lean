/-
  WALKS: package image, recursion; checks; Check. Own work.
-/
import Derived.Test.YtaeblnlbelebkaaGreatDoorImRec
import Derived.Test.YtaeblnlbelebkaaGreatDoorImVecs
import Derived.Test.YtaeblnlbelebkaaGreatDoorImLast
import Derived.Laws.Tables
import Derived.Deep.WholeRow
namespace Go.Proofs.YtaeblnlbelebkaaGreatDoor
namespace Im
open Go.RowKit Go
open Co (Kp ret_int ret_bool ret2_int In in0 IIn Ics Wf)
open Ln (VIn Vcs)
set_option linter.unusedVariables false

def zw (p : Nat) : Array Value := (Value.pointer (some ⟨p, 0, none⟩) :: List.replicate 64 (Value.int .u8 0)).toArray
theorem wlk_new (w : World) (p : Nat) : WlkIn (w.alloc (.cells (zw p) 150)) w.heap.size p (fun _ => 0) where
  size := by simp
  c0 := by rw [new_alloc (Kp.refl _) 0]; rfl
  at' := fun g hg => by
    rw [new_alloc (Kp.refl _) (1 + g)]
    unfold zw
    rw [List.getElem?_toArray, Nat.add_comm, List.getElem?_cons_succ, List.getElem?_replicate, if_pos hg]
    rfl
  fro := fun g => by simp
def recE (m : Im) : Int := if Acyc m then 0 else 13
theorem recE_yes {m : Im} (h : Acyc m) : recE m = 0 := by unfold recE; rw [if_pos h]
theorem recE_no {m : Im} (h : ¬ Acyc m) : recE m = 13 := by unfold recE; rw [if_neg h]
theorem whites_64 (c : Nat → Nat) : whites c < 65 := by
  unfold whites
  have := List.length_filter_le (fun g => decide (c g = 0)) (List.range 64)
  rw [List.length_range] at this
  omega
set_option maxHeartbeats 4000000 in
set_option maxRecDepth 100000 in
theorem recursion_any {w : World} {p : Nat} {h : Hd} {m : Im} (hP : Ptr w p h m) (hW : ImWf m) (hF : FnsB m) (hI : InsB m) (hn : m.funcs.length ≤ 64) :
    Calls Tryz.prog 85 #[.agg #[.pointer (some ⟨p, 0, none⟩)]] w fun e w' => e = .returned (.int .i64 (recE m)) ∧ Kp w w' := by
  have hsz := hP.size
  have c1 := hP.c1
  have HP := Lib.hid hP
  have HW := Lib.hid hW
  have HF := Lib.hid hF
  have HI := Lib.hid hI
  clear hP hW hF hI
  go_enter Tryz.func85, Tryz.ntmps85
  go_upto_region 1 with (fail)
  have KB : Kp w (w.alloc (.cells #[.pointer (some ⟨p, 0, none⟩)] 77)) := (Kp.refl w).alloc _ _
  have s0 : (w.alloc (.cells #[.pointer (some ⟨p, 0, none⟩)] 77)).cell? ⟨w.heap.size, 0, none⟩ = some (.pointer (some ⟨p, 0, none⟩)) := new_alloc (Kp.refl _) 0
  have sz : w.heap.size < (w.alloc (.cells #[.pointer (some ⟨p, 0, none⟩)] 77)).heap.size := by simp
  revert KB s0 sz
  generalize w.alloc (.cells #[.pointer (some ⟨p, 0, none⟩)] 77) = wb
  intro KB s0 sz
  have p1 : wb.cell? ⟨p, 1, none⟩ = some (.slice h.aF m.funcs.length h.cF) := (KB.cells _ _ hsz).trans c1
  have psz : p < wb.heap.size := Nat.lt_of_lt_of_le hsz KB.size
  have K1 : Kp w (wb.alloc (.cells (Tryz.zeroCells150.setIfInBounds 0 (.pointer (some ⟨p, 0, none⟩))) 150)) := KB.alloc _ _
  have W1 : WlkIn (wb.alloc (.cells (Tryz.zeroCells150.setIfInBounds 0 (.pointer (some ⟨p, 0, none⟩))) 150)) wb.heap.size p (fun _ => 0) := by
    have := wlk_new wb p
    have e : zw p = Tryz.zeroCells150.setIfInBounds 0 (.pointer (some ⟨p, 0, none⟩)) := by kernel_rfl
    rwa [e] at this
  clear c1
  go_wp2_with (refine wpList_store_row rfl 150 _ _ rfl wb.heap.size (Tryz.zeroCells150.setIfInBounds 0 (.pointer (some ⟨p, 0, none⟩))) rfl rfl 150 _ (heap_alloc_new _ _) (by kernel_rfl) (by kernel_rfl) (by kernel_rfl) ?_; rw [World.setRow_alloc_new])
  revert K1 W1
  generalize wb.alloc (.cells (Tryz.zeroCells150.setIfInBounds 0 (.pointer (some ⟨p, 0, none⟩))) 150) = w1
  intro K1 W1
  go_loopw [14] (fun i wr => ∃ (k : Nat) (c : Nat → Nat), k ≤ m.funcs.length ∧ i = .int .i64 k ∧ WlkIn wr wb.heap.size p c ∧ Kp w wr ∧ Hid (Cols m c ∧ (∀ g, c g ≠ 1) ∧ ∀ j, j < k → c j = 2)) (fun i _ => m.funcs.length - (intOf i).toNat)
  case atStart => exact ⟨0, fun _ => 0, Nat.zero_le _, rfl, W1, K1, Cols.start m, fun g => Nat.zero_ne_one, fun j hj => absurd hj (Nat.not_lt_zero _)⟩
  case round =>
    obtain ⟨k, c, hk, rfl, hwr, kr, hc⟩ := hrel
    by_cases hlt : k < m.funcs.length
    · have PRE : Hid (∀ g, c g = 1 → Leads m g k) := Lib.hid (fun g hg => absurd hg (hc.out.2.1 g))
      go_wp2_with fail
      refine (returns_n HP.out HW.out HF.out HI.out hn (Nat.le_of_lt (by have := KB.size; omega)) 65 wr c k (whites_64 c) hlt hwr kr hc.out.1 PRE.out).mono ?_
      rintro e w4 ⟨r, d, rfl, hw4, k4, g4, hr1, hr0⟩
      cases r with
      | true =>
        have HL := Lib.hid (hr1 rfl)
        clear hr1 hr0
        go_wp2
        go_ret
        exact ⟨ret_int (recE_no HL.out.no).symm, k4⟩
      | false =>
        have H0 := Lib.hid (hr0 rfl)
        clear hr1 hr0
        go_wp2
        go_roundw
        case rel => exact ⟨k + 1, d, by omega, by go_num, hw4, k4, H0.out.1, fun g hg => hc.out.2.1 g ((H0.out.2.1.grey g).2 hg), fun j hj => by
          by_cases e : j = k
          · subst e; exact H0.out.2.2
          · exact H0.out.2.1.black j (hc.out.2.2 j (by omega))⟩
        case measure => simp [intOf]; omega
    · obtain rfl : k = m.funcs.length := by omega
      go_wp2
      go_ret
      exact ⟨ret_int (recE_yes (hc.out.1.acyc hc.out.2.2)).symm, kr⟩

/-- checks: the nine methods. -/
theorem checks_any (w : World) : Calls Tryz.prog 38 #[] w fun e w' => e = .returned (.slice (some ⟨w.heap.size, 0, none⟩) 9 9) ∧ w' = w.alloc (.cells #[.func (.func 77) #[] #[], .func (.func 78) #[] #[], .func (.func 79) #[] #[], .func (.func 80) #[] #[], .func (.func 81) #[] #[], .func (.func 82) #[] #[], .func (.func 83) #[] #[], .func (.func 84) #[] #[], .func (.func 85) #[] #[]] 80) := by
  go_enter Tryz.func38, Tryz.ntmps38
  go_wp2
  go_ret
  exact ⟨rfl, rfl⟩
end Im
end Go.Proofs.YtaeblnlbelebkaaGreatDoor
