/-
  WALKS: the statements' own image, the kit's Own, Pick. Own work.
-/
import Derived.Test.YtaeblnlbelebkaaGreatDoorImPair
import Derived.Test.YtaeblnlbelebkaaGreatDoorImWrite
namespace Go.Proofs.YtaeblnlbelebkaaGreatDoor
namespace Im
open Go.RowKit Go
open Co (Kp ret_int ret_bool ret2_int In in0 IIn Ics Wf)
open Ln (VIn Vcs)
set_option linter.unusedVariables false

def firstI : Im := ⟨[⟨22, 0, 0, 0⟩, ⟨1, 0, 0, 0⟩], [⟨0, 0, 0⟩], [], 0, [], [], 10, []⟩
theorem three_1 (w : World) (c0 c1 c2 : Array Value) (t0 t1 t2 : TypeId) (o : Nat) : (((w.alloc (.cells c0 t0)).alloc (.cells c1 t1)).alloc (.cells c2 t2)).cell? ⟨w.heap.size + 1, o, none⟩ = c1[o]? := by
  have := new_alloc (w := w.alloc (.cells c0 t0)) (cs := c1) (t := t1) ((Kp.refl _).alloc c2 t2) o
  simpa using this
theorem three_2 (w : World) (c0 c1 c2 : Array Value) (t0 t1 t2 : TypeId) (o : Nat) : (((w.alloc (.cells c0 t0)).alloc (.cells c1 t1)).alloc (.cells c2 t2)).cell? ⟨w.heap.size + 1 + 1, o, none⟩ = c2[o]? := by
  have := new_alloc (w := (w.alloc (.cells c0 t0)).alloc (.cells c1 t1)) (cs := c2) (t := t2) (Kp.refl _) o
  simpa using this
theorem three_f (w : World) (c0 c1 c2 : Array Value) (t0 t1 t2 : TypeId) (o : Nat) : (((w.alloc (.cells c0 t0)).alloc (.cells c1 t1)).alloc (.cells c2 t2)).frozen? ⟨w.heap.size + 1, o, none⟩ = false := by
  have := ((Mine.new (w.alloc (.cells c0 t0)) c1 t1 0 (fun _ => .bool false) (fun i hi => absurd hi (Nat.not_lt_zero i))).kp ((Kp.refl _).alloc c2 t2)).fro o
  simpa using this
def hdF (B : Nat) : Hd := ⟨some ⟨B, 0, none⟩, 2, some ⟨B + 1, 0, none⟩, 1, none, 0, none, 0, none, 0, none, 0⟩
/-- What first answers. -/
def FstP (m : Im) (w : World) (e : Ending) (w' : World) : Prop := ∃ B, w.heap.size ≤ B ∧ e = .returned ((hdF B).val m) ∧ ImIn w' (hdF B) m ∧ (∀ o, w'.frozen? ⟨B, o, none⟩ = false) ∧ Kp w w'
theorem first_ok : chkI firstI = 0 := by decide +kernel
theorem wf0 : Wf in0 := ⟨by decide, by decide, by decide, by decide⟩
theorem first_wf : ImWf firstI := by
  refine ⟨by decide, by decide, by decide, by decide, by decide, by decide, fun k => ?_, fun i => ?_, fun i => ?_⟩
  · unfold Im.at' firstI
    simp
  · refine getD_all (P := Wf) (l := [⟨22, 0, 0, 0⟩, ⟨1, 0, 0, 0⟩]) (fun x hx => ?_) wf0 i
    simp only [List.mem_cons, List.not_mem_nil, or_false] at hx
    rcases hx with rfl | rfl
    · constructor <;> decide
    · constructor <;> decide
  · unfold firstI
    simp
def firstB : List UInt8 := [1, 0, 0, 0, 0, 0, 0, 0, 10, 0, 2, 22, 0, 0, 0, 1, 0, 0, 0]
theorem first_byts : byts firstI = firstB := by decide +kernel
theorem first_byA : byA firstI = firstB := by unfold byA; rw [if_pos first_ok, first_byts]
theorem first_read : rdM firstB = firstI ∧ rdE firstB = 0 := by
  have h := read_byts first_ok first_wf.init
  rw [first_byts] at h
  unfold rdM rdE
  rw [h]
  exact ⟨rfl, rfl⟩
set_option maxHeartbeats 1000000 in
set_option maxRecDepth 100000 in
theorem first_any (w : World) : Calls Tryz.prog 31 #[] w (FstP firstI w) := by
  go_enter Tryz.func31, Tryz.ntmps31
  go_wp2
  refine bodyPost_ret (v := (hdF (w.heap.size + 1)).val firstI) ?_ rfl ⟨w.heap.size + 1, by omega, rfl, ⟨.inr ⟨w.heap.size + 1, 0, rfl, ?_⟩, .inr ⟨w.heap.size + 1 + 1, 0, rfl, ?_⟩, .inl rfl, .inl rfl, .inl rfl, .inl rfl, Nat.le_refl 2, (by decide : (2 : Nat) ≤ 9223372036854775807)⟩, ?_, (((Kp.refl w).alloc _ _).alloc _ _).alloc _ _⟩
  · simp [results, Tryz.results31, go_sem, *]
    rfl
  · have h01 : ∀ i, i < firstI.code.length → i = 0 ∨ i = 1 := fun i hi => by
      have : firstI.code.length = 2 := rfl
      omega
    refine ⟨by simp, ?_, ?_, ?_, ?_⟩
    all_goals
      intro i hi
      rcases h01 i hi with rfl | rfl
      all_goals exact three_1 w _ _ _ _ _ _ _
  · have h0 : ∀ i, i < firstI.funcs.length → i = 0 := fun i hi => by
      have : firstI.funcs.length = 1 := rfl
      omega
    refine ⟨by simp, ?_, ?_, ?_⟩
    all_goals
      intro i hi
      obtain rfl := h0 i hi
      exact three_2 w _ _ _ _ _ _ _
  · exact fun o => three_f w _ _ _ _ _ _ o
end Im
end Go.Proofs.YtaeblnlbelebkaaGreatDoor
