/-
  WALKS: package image, Check. Own work.
-/
import Derived.Test.YtaeblnlbelebkaaGreatDoorImCheck
import Derived.Outline
namespace Go.Proofs.YtaeblnlbelebkaaGreatDoor
namespace Im
open Go.RowKit Go
open Co (Kp ret_int ret_bool ret2_int In in0 IIn Ics Wf)
open Ln (VIn Vcs)
set_option linter.unusedVariables false

/-- The first k checks have found nothing. -/
structure Ok9 (m : Im) (k : Nat) : Prop where
  long : 0 < k → ¬ Long m
  fns : 1 < k → FnsB m
  main : 2 < k → MainB m
  vecs : 3 < k → VecsB m
  stack : 4 < k → StackB m
  secs : 5 < k → SecsB m
  ins : 6 < k → InsB m
  last : 7 < k → LastB m
  acyc : 8 < k → Acyc m
theorem Ok9.zero (m : Im) : Ok9 m 0 := ⟨fun h => absurd h (by omega), fun h => absurd h (by omega), fun h => absurd h (by omega), fun h => absurd h (by omega), fun h => absurd h (by omega), fun h => absurd h (by omega), fun h => absurd h (by omega), fun h => absurd h (by omega), fun h => absurd h (by omega)⟩
theorem Ok9.s0 {m : Im} (h : Ok9 m 0) (g : ¬ Long m) : Ok9 m 1 := ⟨fun _ => g, fun h => absurd h (by omega), fun h => absurd h (by omega), fun h => absurd h (by omega), fun h => absurd h (by omega), fun h => absurd h (by omega), fun h => absurd h (by omega), fun h => absurd h (by omega), fun h => absurd h (by omega)⟩
theorem Ok9.s1 {m : Im} (h : Ok9 m 1) (g : FnsB m) : Ok9 m 2 := ⟨fun _ => h.long (by omega), fun _ => g, fun h => absurd h (by omega), fun h => absurd h (by omega), fun h => absurd h (by omega), fun h => absurd h (by omega), fun h => absurd h (by omega), fun h => absurd h (by omega), fun h => absurd h (by omega)⟩
theorem Ok9.s2 {m : Im} (h : Ok9 m 2) (g : MainB m) : Ok9 m 3 := ⟨fun _ => h.long (by omega), fun _ => h.fns (by omega), fun _ => g, fun h => absurd h (by omega), fun h => absurd h (by omega), fun h => absurd h (by omega), fun h => absurd h (by omega), fun h => absurd h (by omega), fun h => absurd h (by omega)⟩
theorem Ok9.s3 {m : Im} (h : Ok9 m 3) (g : VecsB m) : Ok9 m 4 := ⟨fun _ => h.long (by omega), fun _ => h.fns (by omega), fun _ => h.main (by omega), fun _ => g, fun h => absurd h (by omega), fun h => absurd h (by omega), fun h => absurd h (by omega), fun h => absurd h (by omega), fun h => absurd h (by omega)⟩
theorem Ok9.s4 {m : Im} (h : Ok9 m 4) (g : StackB m) : Ok9 m 5 := ⟨fun _ => h.long (by omega), fun _ => h.fns (by omega), fun _ => h.main (by omega), fun _ => h.vecs (by omega), fun _ => g, fun h => absurd h (by omega), fun h => absurd h (by omega), fun h => absurd h (by omega), fun h => absurd h (by omega)⟩
theorem Ok9.s5 {m : Im} (h : Ok9 m 5) (g : SecsB m) : Ok9 m 6 := ⟨fun _ => h.long (by omega), fun _ => h.fns (by omega), fun _ => h.main (by omega), fun _ => h.vecs (by omega), fun _ => h.stack (by omega), fun _ => g, fun h => absurd h (by omega), fun h => absurd h (by omega), fun h => absurd h (by omega)⟩
theorem Ok9.s6 {m : Im} (h : Ok9 m 6) (g : InsB m) : Ok9 m 7 := ⟨fun _ => h.long (by omega), fun _ => h.fns (by omega), fun _ => h.main (by omega), fun _ => h.vecs (by omega), fun _ => h.stack (by omega), fun _ => h.secs (by omega), fun _ => g, fun h => absurd h (by omega), fun h => absurd h (by omega)⟩
theorem Ok9.s7 {m : Im} (h : Ok9 m 7) (g : LastB m) : Ok9 m 8 := ⟨fun _ => h.long (by omega), fun _ => h.fns (by omega), fun _ => h.main (by omega), fun _ => h.vecs (by omega), fun _ => h.stack (by omega), fun _ => h.secs (by omega), fun _ => h.ins (by omega), fun _ => g, fun h => absurd h (by omega)⟩
theorem Ok9.s8 {m : Im} (h : Ok9 m 8) (g : Acyc m) : Ok9 m 9 := ⟨fun _ => h.long (by omega), fun _ => h.fns (by omega), fun _ => h.main (by omega), fun _ => h.vecs (by omega), fun _ => h.stack (by omega), fun _ => h.secs (by omega), fun _ => h.ins (by omega), fun _ => h.last (by omega), fun _ => g⟩
theorem Ok9.funcs {m : Im} {k : Nat} (h : Ok9 m k) (hk : 0 < k) : m.funcs.length ≤ 64 := by
  have := h.long hk
  unfold Long Large at this
  omega
theorem Ok9.done {m : Im} (h : Ok9 m 9) : chkI m = 0 := chkI_ok (h.long (by omega)) ⟨h.fns (by omega), h.main (by omega), h.vecs (by omega), h.stack (by omega), h.secs (by omega), h.ins (by omega), h.last (by omega)⟩ (h.acyc (by omega))
theorem Ok9.f0 {m : Im} (h : Ok9 m 0) (g : ¬ ¬ Long m) : chkI m = 3 := chkI_long (Decidable.not_not.1 g)
theorem Ok9.f1 {m : Im} (h : Ok9 m 1) (g : ¬ FnsB m) : chkI m = 2 := chkI_may (h.long (by omega)) (fun k => g k.fns)
theorem Ok9.f2 {m : Im} (h : Ok9 m 2) (g : ¬ MainB m) : chkI m = 2 := chkI_may (h.long (by omega)) (fun k => g k.main)
theorem Ok9.f3 {m : Im} (h : Ok9 m 3) (g : ¬ VecsB m) : chkI m = 2 := chkI_may (h.long (by omega)) (fun k => g k.vecs)
theorem Ok9.f4 {m : Im} (h : Ok9 m 4) (g : ¬ StackB m) : chkI m = 2 := chkI_may (h.long (by omega)) (fun k => g k.stack)
theorem Ok9.f5 {m : Im} (h : Ok9 m 5) (g : ¬ SecsB m) : chkI m = 2 := chkI_may (h.long (by omega)) (fun k => g k.secs)
theorem Ok9.f6 {m : Im} (h : Ok9 m 6) (g : ¬ InsB m) : chkI m = 2 := chkI_may (h.long (by omega)) (fun k => g k.ins)
theorem Ok9.f7 {m : Im} (h : Ok9 m 7) (g : ¬ LastB m) : chkI m = 2 := chkI_may (h.long (by omega)) (fun k => g k.last)
theorem Ok9.f8 {m : Im} (h : Ok9 m 8) (g : ¬ Acyc m) : chkI m = 13 := chkI_loop (h.long (by omega)) ⟨h.fns (by omega), h.main (by omega), h.vecs (by omega), h.stack (by omega), h.secs (by omega), h.ins (by omega), h.last (by omega)⟩ g

set_option maxHeartbeats 8000000 in
set_option maxRecDepth 100000 in
/-- Check: the error that the document tells. -/
theorem Check_any {w : World} (hE : Co.Env w) {h : Hd} {m : Im} (hin : ImIn w h m) (hW : ImWf m) :
    Calls Tryz.prog 13 #[.agg #[.slice h.aC m.code.length h.cC, .slice h.aF m.funcs.length h.cF, .slice h.aV m.vecs.length h.cV, .int .i64 m.main, .slice h.aI m.init.length h.cI, .slice h.aP m.ports.length h.cP, .int .i64 m.stack, .slice h.aA m.atoms.length h.cA]] w fun e w' => e = .returned (.int .i64 (chkI m)) ∧ Kp w w' := by
  have PN := Ptr.new hin
  have EN := hE.kept ((Kp.refl w).alloc #[.slice h.aC m.code.length h.cC, .slice h.aF m.funcs.length h.cF, .slice h.aV m.vecs.length h.cV, .int .i64 m.main, .slice h.aI m.init.length h.cI, .slice h.aP m.ports.length h.cP, .int .i64 m.stack, .slice h.aA m.atoms.length h.cA] 29)
  have K1 := (Kp.refl w).alloc #[.slice h.aC m.code.length h.cC, .slice h.aF m.funcs.length h.cF, .slice h.aV m.vecs.length h.cV, .int .i64 m.main, .slice h.aI m.init.length h.cI, .slice h.aP m.ports.length h.cP, .int .i64 m.stack, .slice h.aA m.atoms.length h.cA] 29
  have HW := Lib.hid hW
  have Z1 : w.heap.size < (w.alloc (.cells #[.slice h.aC m.code.length h.cC, .slice h.aF m.funcs.length h.cF, .slice h.aV m.vecs.length h.cV, .int .i64 m.main, .slice h.aI m.init.length h.cI, .slice h.aP m.ports.length h.cP, .int .i64 m.stack, .slice h.aA m.atoms.length h.cA] 29)).heap.size := by simp
  clear hin hW hE
  go_enter Tryz.func13, Tryz.ntmps13
  go_upto_region 1 with (fail)
  revert PN EN K1 Z1
  generalize w.heap.size = p
  generalize w.alloc _ = w1
  intro PN EN K1 Z1
  have HPN := Lib.hid PN
  have HEN := Lib.hid EN
  clear PN EN
  go_wp2_with fail
  refine (checks_any _).mono ?_
  rintro e w3 ⟨rfl, rfl⟩
  have q0 : w1.cell? ⟨w1.heap.size, 0, none⟩ = none → True := fun _ => trivial
  clear q0
  have k3 : Kp w1 ((w1.alloc (.cells #[.pointer (some ⟨p, 0, none⟩)] 77)).alloc (.cells #[.func (.func 77) #[] #[], .func (.func 78) #[] #[], .func (.func 79) #[] #[], .func (.func 80) #[] #[], .func (.func 81) #[] #[], .func (.func 82) #[] #[], .func (.func 83) #[] #[], .func (.func 84) #[] #[], .func (.func 85) #[] #[]] 80)) := ((Kp.refl w1).alloc _ _).alloc _ _
  have hs0 : ((w1.alloc (.cells #[.pointer (some ⟨p, 0, none⟩)] 77)).alloc (.cells #[.func (.func 77) #[] #[], .func (.func 78) #[] #[], .func (.func 79) #[] #[], .func (.func 80) #[] #[], .func (.func 81) #[] #[], .func (.func 82) #[] #[], .func (.func 83) #[] #[], .func (.func 84) #[] #[], .func (.func 85) #[] #[]] 80)).cell? ⟨w1.heap.size, 0, none⟩ = some (.pointer (some ⟨p, 0, none⟩)) := by simp
  have hfs : ∀ k : Nat, ((w1.alloc (.cells #[.pointer (some ⟨p, 0, none⟩)] 77)).alloc (.cells #[.func (.func 77) #[] #[], .func (.func 78) #[] #[], .func (.func 79) #[] #[], .func (.func 80) #[] #[], .func (.func 81) #[] #[], .func (.func 82) #[] #[], .func (.func 83) #[] #[], .func (.func 84) #[] #[], .func (.func 85) #[] #[]] 80)).cell? ⟨w1.heap.size + 1, k, none⟩ = (#[.func (.func 77) #[] #[], .func (.func 78) #[] #[], .func (.func 79) #[] #[], .func (.func 80) #[] #[], .func (.func 81) #[] #[], .func (.func 82) #[] #[], .func (.func 83) #[] #[], .func (.func 84) #[] #[], .func (.func 85) #[] #[]] : Array Value)[k]? := fun k => by
    simp
  have hz : w1.heap.size + 1 < ((w1.alloc (.cells #[.pointer (some ⟨p, 0, none⟩)] 77)).alloc (.cells #[.func (.func 77) #[] #[], .func (.func 78) #[] #[], .func (.func 79) #[] #[], .func (.func 80) #[] #[], .func (.func 81) #[] #[], .func (.func 82) #[] #[], .func (.func 83) #[] #[], .func (.func 84) #[] #[], .func (.func 85) #[] #[]] 80)).heap.size := by simp
  go_wp2
  revert k3 hs0 hfs hz
  generalize (w1.alloc (.cells #[.pointer (some ⟨p, 0, none⟩)] 77)).alloc _ = w3
  intro k3 hs0 hfs hz
  have HFS := Lib.hid hfs
  have HK3 := Lib.hid k3
  have hz0 : w1.heap.size < w3.heap.size := by omega
  clear hfs k3
  go_loopw [10] (fun i wr => ∃ k : Nat, k ≤ 9 ∧ i = .int .i64 k ∧ Hid (Ok9 m k) ∧ Kp w3 wr) (fun i _ => 9 - (intOf i).toNat)
  case atStart => exact ⟨0, Nat.zero_le _, rfl, Ok9.zero m, Kp.refl _⟩
  case round =>
    obtain ⟨k, hk, rfl, hok, kr⟩ := hrel
    have s0 : wr.cell? ⟨w1.heap.size, 0, none⟩ = some (.pointer (some ⟨p, 0, none⟩)) := (kr.cells _ _ hz0).trans hs0
    have HPR := Lib.hid (HPN.out.kp (HK3.out.trans kr))
    have HER := Lib.hid (HEN.out.kept (HK3.out.trans kr))
    have HKR := Lib.hid kr
    have HF : Hid (∀ q : Nat, wr.cell? ⟨w1.heap.size + 1, q, none⟩ = (#[.func (.func 77) #[] #[], .func (.func 78) #[] #[], .func (.func 79) #[] #[], .func (.func 80) #[] #[], .func (.func 81) #[] #[], .func (.func 82) #[] #[], .func (.func 83) #[] #[], .func (.func 84) #[] #[], .func (.func 85) #[] #[]] : Array Value)[q]?) := Lib.hid (fun q => (kr.cells _ _ hz).trans (HFS.out q))
    have zr0 : w1.heap.size < wr.heap.size := Nat.lt_of_lt_of_le hz0 kr.size
    have zr1 : w1.heap.size + 1 < wr.heap.size := Nat.lt_of_lt_of_le hz kr.size
    have KF : Hid (∀ w' : World, Kp wr w' → Kp w w') := Lib.hid (fun w' k' => K1.trans (HK3.out.trans (HKR.out.trans k')))
    clear kr
    have hk9 : k = 0 ∨ k = 1 ∨ k = 2 ∨ k = 3 ∨ k = 4 ∨ k = 5 ∨ k = 6 ∨ k = 7 ∨ k = 8 ∨ k = 9 := by omega
    rcases hk9 with rfl | rfl | rfl | rfl | rfl | rfl | rfl | rfl | rfl | rfl
    · have f0 : wr.cell? ⟨w1.heap.size + 1, 0, none⟩ = some (.func (.func 77) #[] #[]) := HF.out 0
      cases Decidable.em (¬ Long m) with
      | inl hp =>
        have HY := Lib.hid (cntE_no hp)
        have HOK := Lib.hid (hok.out.s0 hp)
        clear hp
        go_wp2_with fail
        refine (counts_any HPR.out HW.out).mono ?_
        rw [HY.out]
        rintro e w4 ⟨rfl, k4⟩
        go_wp2
        go_roundw
        case rel => exact ⟨1, by omega, by go_num, HOK.out, HKR.out.trans k4⟩
        case measure => simp [intOf]
      | inr hp =>
        have HN := Lib.hid (cntE_yes (Decidable.not_not.1 hp))
        have HOK := Lib.hid (hok.out.f0 hp)
        clear hp
        go_wp2_with fail
        refine (counts_any HPR.out HW.out).mono ?_
        rw [HN.out]
        rintro e w4 ⟨rfl, k4⟩
        go_wp2
        go_ret
        exact ⟨ret_int HOK.out.symm, KF.out _ k4⟩
    · have f0 : wr.cell? ⟨w1.heap.size + 1, 1, none⟩ = some (.func (.func 78) #[] #[]) := HF.out 1
      cases Decidable.em (FnsB m) with
      | inl hp =>
        have HY := Lib.hid (okE_yes hp)
        have HOK := Lib.hid (hok.out.s1 hp)
        clear hp
        go_wp2_with fail
        refine (functions_any HPR.out HW.out).mono ?_
        rw [HY.out]
        rintro e w4 ⟨rfl, k4⟩
        go_wp2
        go_roundw
        case rel => exact ⟨2, by omega, by go_num, HOK.out, HKR.out.trans k4⟩
        case measure => simp [intOf]
      | inr hp =>
        have HN := Lib.hid (okE_no hp)
        have HOK := Lib.hid (hok.out.f1 hp)
        clear hp
        go_wp2_with fail
        refine (functions_any HPR.out HW.out).mono ?_
        rw [HN.out]
        rintro e w4 ⟨rfl, k4⟩
        go_wp2
        go_ret
        exact ⟨ret_int HOK.out.symm, KF.out _ k4⟩
    · have f0 : wr.cell? ⟨w1.heap.size + 1, 2, none⟩ = some (.func (.func 79) #[] #[]) := HF.out 2
      cases Decidable.em (MainB m) with
      | inl hp =>
        have HY := Lib.hid (okE_yes hp)
        have HOK := Lib.hid (hok.out.s2 hp)
        clear hp
        go_wp2_with fail
        refine (main_any HPR.out HW.out).mono ?_
        rw [HY.out]
        rintro e w4 ⟨rfl, k4⟩
        go_wp2
        go_roundw
        case rel => exact ⟨3, by omega, by go_num, HOK.out, HKR.out.trans k4⟩
        case measure => simp [intOf]
      | inr hp =>
        have HN := Lib.hid (okE_no hp)
        have HOK := Lib.hid (hok.out.f2 hp)
        clear hp
        go_wp2_with fail
        refine (main_any HPR.out HW.out).mono ?_
        rw [HN.out]
        rintro e w4 ⟨rfl, k4⟩
        go_wp2
        go_ret
        exact ⟨ret_int HOK.out.symm, KF.out _ k4⟩
    · have f0 : wr.cell? ⟨w1.heap.size + 1, 3, none⟩ = some (.func (.func 80) #[] #[]) := HF.out 3
      cases Decidable.em (VecsB m) with
      | inl hp =>
        have HY := Lib.hid (okE_yes hp)
        have HOK := Lib.hid (hok.out.s3 hp)
        clear hp
        go_wp2_with fail
        refine (vectors_any HPR.out HW.out).mono ?_
        rw [HY.out]
        rintro e w4 ⟨rfl, k4⟩
        go_wp2
        go_roundw
        case rel => exact ⟨4, by omega, by go_num, HOK.out, HKR.out.trans k4⟩
        case measure => simp [intOf]
      | inr hp =>
        have HN := Lib.hid (okE_no hp)
        have HOK := Lib.hid (hok.out.f3 hp)
        clear hp
        go_wp2_with fail
        refine (vectors_any HPR.out HW.out).mono ?_
        rw [HN.out]
        rintro e w4 ⟨rfl, k4⟩
        go_wp2
        go_ret
        exact ⟨ret_int HOK.out.symm, KF.out _ k4⟩
    · have f0 : wr.cell? ⟨w1.heap.size + 1, 4, none⟩ = some (.func (.func 81) #[] #[]) := HF.out 4
      cases Decidable.em (StackB m) with
      | inl hp =>
        have HY := Lib.hid (okE_yes hp)
        have HOK := Lib.hid (hok.out.s4 hp)
        clear hp
        go_wp2_with fail
        refine (stack_any HPR.out).mono ?_
        rw [HY.out]
        rintro e w4 ⟨rfl, k4⟩
        go_wp2
        go_roundw
        case rel => exact ⟨5, by omega, by go_num, HOK.out, HKR.out.trans k4⟩
        case measure => simp [intOf]
      | inr hp =>
        have HN := Lib.hid (okE_no hp)
        have HOK := Lib.hid (hok.out.f4 hp)
        clear hp
        go_wp2_with fail
        refine (stack_any HPR.out).mono ?_
        rw [HN.out]
        rintro e w4 ⟨rfl, k4⟩
        go_wp2
        go_ret
        exact ⟨ret_int HOK.out.symm, KF.out _ k4⟩
    · have f0 : wr.cell? ⟨w1.heap.size + 1, 5, none⟩ = some (.func (.func 82) #[] #[]) := HF.out 5
      cases Decidable.em (SecsB m) with
      | inl hp =>
        have HY := Lib.hid (okE_yes hp)
        have HOK := Lib.hid (hok.out.s5 hp)
        clear hp
        go_wp2_with fail
        refine (sections_any HPR.out HW.out).mono ?_
        rw [HY.out]
        rintro e w4 ⟨rfl, k4⟩
        go_wp2
        go_roundw
        case rel => exact ⟨6, by omega, by go_num, HOK.out, HKR.out.trans k4⟩
        case measure => simp [intOf]
      | inr hp =>
        have HN := Lib.hid (okE_no hp)
        have HOK := Lib.hid (hok.out.f5 hp)
        clear hp
        go_wp2_with fail
        refine (sections_any HPR.out HW.out).mono ?_
        rw [HN.out]
        rintro e w4 ⟨rfl, k4⟩
        go_wp2
        go_ret
        exact ⟨ret_int HOK.out.symm, KF.out _ k4⟩
    · have f0 : wr.cell? ⟨w1.heap.size + 1, 6, none⟩ = some (.func (.func 83) #[] #[]) := HF.out 6
      cases Decidable.em (InsB m) with
      | inl hp =>
        have HY := Lib.hid (okE_yes hp)
        have HOK := Lib.hid (hok.out.s6 hp)
        clear hp
        go_wp2_with fail
        refine (instructions_any HER.out HPR.out HW.out (hok.out.fns (by omega))).mono ?_
        rw [HY.out]
        rintro e w4 ⟨rfl, k4⟩
        go_wp2
        go_roundw
        case rel => exact ⟨7, by omega, by go_num, HOK.out, HKR.out.trans k4⟩
        case measure => simp [intOf]
      | inr hp =>
        have HN := Lib.hid (okE_no hp)
        have HOK := Lib.hid (hok.out.f6 hp)
        clear hp
        go_wp2_with fail
        refine (instructions_any HER.out HPR.out HW.out (hok.out.fns (by omega))).mono ?_
        rw [HN.out]
        rintro e w4 ⟨rfl, k4⟩
        go_wp2
        go_ret
        exact ⟨ret_int HOK.out.symm, KF.out _ k4⟩
    · have f0 : wr.cell? ⟨w1.heap.size + 1, 7, none⟩ = some (.func (.func 84) #[] #[]) := HF.out 7
      cases Decidable.em (LastB m) with
      | inl hp =>
        have HY := Lib.hid (okE_yes hp)
        have HOK := Lib.hid (hok.out.s7 hp)
        clear hp
        go_wp2_with fail
        refine (lasts_any HER.out HPR.out HW.out (hok.out.fns (by omega))).mono ?_
        rw [HY.out]
        rintro e w4 ⟨rfl, k4⟩
        go_wp2
        go_roundw
        case rel => exact ⟨8, by omega, by go_num, HOK.out, HKR.out.trans k4⟩
        case measure => simp [intOf]
      | inr hp =>
        have HN := Lib.hid (okE_no hp)
        have HOK := Lib.hid (hok.out.f7 hp)
        clear hp
        go_wp2_with fail
        refine (lasts_any HER.out HPR.out HW.out (hok.out.fns (by omega))).mono ?_
        rw [HN.out]
        rintro e w4 ⟨rfl, k4⟩
        go_wp2
        go_ret
        exact ⟨ret_int HOK.out.symm, KF.out _ k4⟩
    · have f0 : wr.cell? ⟨w1.heap.size + 1, 8, none⟩ = some (.func (.func 85) #[] #[]) := HF.out 8
      cases Decidable.em (Acyc m) with
      | inl hp =>
        have HY := Lib.hid (recE_yes hp)
        have HOK := Lib.hid (hok.out.s8 hp)
        clear hp
        go_wp2_with fail
        refine (recursion_any HPR.out HW.out (hok.out.fns (by omega)) (hok.out.ins (by omega)) (hok.out.funcs (by omega))).mono ?_
        rw [HY.out]
        rintro e w4 ⟨rfl, k4⟩
        go_wp2
        go_roundw
        case rel => exact ⟨9, by omega, by go_num, HOK.out, HKR.out.trans k4⟩
        case measure => simp [intOf]
      | inr hp =>
        have HN := Lib.hid (recE_no hp)
        have HOK := Lib.hid (hok.out.f8 hp)
        clear hp
        go_wp2_with fail
        refine (recursion_any HPR.out HW.out (hok.out.fns (by omega)) (hok.out.ins (by omega)) (hok.out.funcs (by omega))).mono ?_
        rw [HN.out]
        rintro e w4 ⟨rfl, k4⟩
        go_wp2
        go_ret
        exact ⟨ret_int HOK.out.symm, KF.out _ k4⟩
    · go_wp2
      go_ret
      exact ⟨ret_int hok.out.done.symm, KF.out _ (Kp.refl _)⟩
end Im
end Go.Proofs.YtaeblnlbelebkaaGreatDoor
