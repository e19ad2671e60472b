/-
  WALKS: package image, the checks one by one: counts, functions, bare, main, stack. Own work.
-/
import Derived.Test.YtaeblnlbelebkaaGreatDoorImMem
import Derived.Deep.RegionHeld3
namespace Go.Proofs.YtaeblnlbelebkaaGreatDoor
namespace Im
open Go.RowKit Go
open Co (Kp ret_int ret_bool ret2_int In in0 IIn Ics Wf)
open Ln (VIn Vcs)
set_option linter.unusedVariables false

def cntE (m : Im) : Int := if Long m then 3 else 0
theorem cntE_yes {m : Im} (h : Long m) : cntE m = 3 := by unfold cntE; rw [if_pos h]
theorem cntE_no {m : Im} (h : ¬ Long m) : cntE m = 0 := by unfold cntE; rw [if_neg h]

set_option maxHeartbeats 1000000 in
set_option maxRecDepth 100000 in
theorem counts_any {w : World} {p : Nat} {h : Hd} {m : Im} (hP : Ptr w p h m) (hW : ImWf m) :
    Calls Tryz.prog 77 #[.agg #[.pointer (some ⟨p, 0, none⟩)]] w fun e w' => e = .returned (.int .i64 (cntE m)) ∧ Kp w w' := by
  obtain ⟨nC, nF, nV, nI, nP, nA, nL, _, _⟩ := hW
  obtain ⟨aC, cC, aF, cF, aV, cV, aI, cI, aP, cP, aA, cA⟩ := h
  obtain ⟨hsz, c0, c1, c2, _, c4, c5, _, c7, hin⟩ := hP
  simp only at c0 c1 c2 c4 c5 c7
  have hA := hin.atoms
  by_cases hl : Large m
  · rw [cntE_yes (.inl hl)]
    unfold Large at hl
    clear hin hA
    go_enter Tryz.func77, Tryz.ntmps77
    go_wp2
    all_goals first
      | (exfalso; omega)
      | (go_ret; exact ⟨rfl, (Kp.refl w).alloc _ _⟩)
  · have l1 : (m.funcs.length : Int) ≤ 64 := by unfold Large at hl; omega
    have l2 : (m.code.length : Int) ≤ 16384 := by unfold Large at hl; omega
    have l3 : (m.vecs.length : Int) ≤ 32 := by unfold Large at hl; omega
    have l4 : (m.init.length : Int) ≤ 4096 := by unfold Large at hl; omega
    have l5 : (m.ports.length : Int) ≤ 32 := by unfold Large at hl; omega
    have l6 : (m.atoms.length : Int) ≤ 64 := by unfold Large at hl; omega
    have b1 : decide ((64 : Int) < m.funcs.length) = false := by simp; omega
    have b2 : decide ((16384 : Int) < m.code.length) = false := by simp; omega
    have b3 : decide ((32 : Int) < m.vecs.length) = false := by simp; omega
    have b4 : decide ((4096 : Int) < m.init.length) = false := by simp; omega
    have b5 : decide ((32 : Int) < m.ports.length) = false := by simp; omega
    have b6 : decide ((64 : Int) < m.atoms.length) = false := by simp; omega
    have HL := Lib.hid hl
    clear hl hin
    go_enter Tryz.func77, Tryz.ntmps77
    go_wp2
    go_loop [59] (fun i => ∃ k : Nat, k ≤ m.atoms.length ∧ i = .int .i64 k ∧ Hid (∀ j, j < k → (m.at' j).length ≤ 4096)) (fun i => m.atoms.length - (intOf i).toNat)
    case atStart => exact ⟨0, Nat.zero_le _, rfl, fun j hj => absurd hj (Nat.not_lt_zero _)⟩
    case round =>
      obtain ⟨k, hk, rfl, hall⟩ := hrel
      by_cases hlt : k < m.atoms.length
      · obtain ⟨bA, oA, hao, hAc⟩ := hA.at hlt
        subst hao
        obtain ⟨ao, cap, hc, _⟩ := hAc.at' k hlt
        have hnl := nL k
        have hbs := hAc.size
        have hLe : (m.at' k).length = (m.atoms.getD k []).length := rfl
        clear hA hAc nL
        generalize (m.atoms.getD k []).length = L at *
        rw [hLe] at hnl
        have HE := Lib.hid hLe
        clear hLe
        by_cases hlg : (4096 : Int) < L
        · go_wp2
          go_ret
          exact ⟨ret_int (by rw [cntE_yes (.inr ⟨k, hlt, by have := HE.out; omega⟩)]), (Kp.refl w).alloc _ _⟩
        · go_wp2
          go_round
          case rel => exact ⟨k + 1, by omega, by go_num, fun j hj => by
            by_cases e : j = k
            · subst e; have := HE.out; omega
            · exact hall.out j (by omega)⟩
          case measure => simp [intOf]; omega
      · obtain rfl : k = m.atoms.length := by omega
        go_wp2
        go_ret
        refine ⟨ret_int ?_, (Kp.refl w).alloc _ _⟩
        rw [cntE_no]
        rintro (h | ⟨k, h1, h2⟩)
        · exact HL.out h
        · have := hall.out k h1
          omega

set_option maxHeartbeats 1000000 in
set_option maxRecDepth 100000 in
theorem functions_any {w : World} {p : Nat} {h : Hd} {m : Im} (hP : Ptr w p h m) (hW : ImWf m) :
    Calls Tryz.prog 78 #[.agg #[.pointer (some ⟨p, 0, none⟩)]] w fun e w' => e = .returned (.int .i64 (okE (FnsB m))) ∧ Kp w w' := by
  have nF := hW.nF
  have hsz := hP.size
  have c1 := hP.c1
  by_cases h0 : m.funcs.length = 0
  · rw [okE_no (fun g => g.1 h0)]
    have hb : ((m.funcs.length : Int) == 0) = true := by simp [h0]
    clear h0 hP
    go_enter Tryz.func78, Tryz.ntmps78
    go_wp2
    go_ret
    exact ⟨rfl, (Kp.refl w).alloc _ _⟩
  obtain ⟨bF, oF, hao, hF⟩ := hP.in'.funcs.at (show 0 < m.funcs.length by omega)
  have hbs := hF.size
  have hb : ((m.funcs.length : Int) == 0) = false := by rw [beq_eq_false_iff_ne]; omega
  have hpos : (0 : Int) < m.funcs.length := by omega
  have ce0 : w.cell? ⟨bF, oF, none⟩ = some (.int .i64 (m.fr 0)) := by have := hF.e 0 (by omega); rw [Nat.zero_mul, Nat.add_zero] at this; exact this
  have c1' : w.cell? ⟨p, 1, none⟩ = some (.slice (some ⟨bF, oF, none⟩) m.funcs.length h.cF) := by rw [c1, hao]
  clear c1
  cases Decidable.em (m.fr 0 = 0) with
  | inr h1 =>
    rw [okE_no (fun g => h1 g.2.1)]
    have hb1 : (m.fr 0 != 0) = true := by simpa using h1
    clear h1 hP hF hao
    go_enter Tryz.func78, Tryz.ntmps78
    go_wp2
    go_ret
    exact ⟨rfl, (Kp.refl w).alloc _ _⟩
  | inl h1 =>
  rw [h1] at ce0
  have H0 := Lib.hid h0
  have H1 := Lib.hid h1
  have HP := Lib.hid hP
  have HW := Lib.hid hW
  have HF := Lib.hid hF
  clear h0 h1 hP hW hF hao
  go_enter Tryz.func78, Tryz.ntmps78
  go_wp2
  go_loopw [31] (fun i wr => ∃ k : Nat, k ≤ m.funcs.length ∧ i = .int .i64 k ∧ Hid (∀ j, j < k → FnOk m j) ∧ Kp (w.alloc (.cells #[.pointer (some ⟨p, 0, none⟩)] 77)) wr) (fun i _ => m.funcs.length - (intOf i).toNat)
  case atStart => exact ⟨0, Nat.zero_le _, rfl, fun j hj => absurd hj (Nat.not_lt_zero _), Kp.refl _⟩
  case round =>
    obtain ⟨k, hk, rfl, hall, kr⟩ := hrel
    have krs : w.heap.size < wr.heap.size := by have := kr.size; simp at this; omega
    have hs0 : wr.cell? ⟨w.heap.size, 0, none⟩ = some (.pointer (some ⟨p, 0, none⟩)) := (kr.cells _ _ (by simp)).trans (by simp)
    have kk := ((Kp.refl w).alloc _ _).trans kr
    by_cases hlt : k < m.funcs.length
    · have hE := (HF.out.kp kk).e k hlt
      have hPp := (HF.out.kp kk).p k hlt
      have hLl := (HF.out.kp kk).l' k hlt
      have hbr := (HF.out.kp kk).size
      have HK := Lib.hid kk
      have HR := Lib.hid kr
      clear kr kk
      generalize (m.funcs.getD k f0).e = z at *
      generalize hgp : (m.funcs.getD k f0).p = q at *
      generalize hgl : (m.funcs.getD k f0).l = r at *
      have hgp' : (m.fn k).p = q := hgp
      have hgl' : (m.fn k).l = r := hgl
      by_cases hok : FnOk m k
      · have o1 := hok.lt
        have o2 := hok.p0
        have o3 := hok.pl
        have o4 := hok.l64
        rw [hgp'] at o2 o3
        rw [hgl'] at o3 o4
        have HO := Lib.hid hok
        clear hgp hgl hgp' hgl' hok
        generalize hfr : m.fr k = a at *
        generalize hto : m.to k = b at *
        have HFR := Lib.hid hfr
        have HTO := Lib.hid hto
        clear hfr hto
        go_wp2_with (go_at_call 49; refine (bounds_any (HP.out.kp ((HK.out).alloc _ _)) HW.out k hlt a b HFR.out HTO.out).mono ?_; rintro e w1 ⟨rfl, rfl⟩)
        go_roundw
        case rel => exact ⟨k + 1, by omega, by go_num, fun j hj => by
          by_cases e : j = k
          · subst e; exact HO.out
          · exact hall.out j (by omega), HR.out.alloc _ _⟩
        case measure => simp [intOf]; omega
      · have hno : ¬ (m.fr k < m.to k ∧ 0 ≤ q ∧ q ≤ r ∧ r ≤ 64) := fun ⟨x1, x2, x3, x4⟩ => hok ⟨x1, by rw [hgp']; exact x2, by rw [hgp', hgl']; exact x3, by rw [hgl']; exact x4⟩
        have hbad : ¬ FnsB m := fun g => hok (g.2.2 k hlt)
        have HO := Lib.hid hbad
        clear hgp hgl hgp' hgl' hok hbad
        generalize hfr : m.fr k = a at *
        generalize hto : m.to k = b at *
        have HFR := Lib.hid hfr
        have HTO := Lib.hid hto
        have HN := Lib.hid hno
        clear hfr hto hno
        go_wp2_with (go_at_call 49; refine (bounds_any (HP.out.kp ((HK.out).alloc _ _)) HW.out k hlt a b HFR.out HTO.out).mono ?_; rintro e w1 ⟨rfl, rfl⟩)
        all_goals first
          | (exfalso; have := HN.out; omega)
          | (go_ret; exact ⟨ret_int (by rw [okE_no HO.out]), HK.out.alloc _ _⟩)
    · obtain rfl : k = m.funcs.length := by omega
      go_wp2
      go_ret
      exact ⟨ret_int (by rw [okE_yes ⟨H0.out, H1.out, hall.out⟩]), kk⟩

/-- bare: such a function is there, and it has no Params. -/
theorem bare_any {w : World} {p : Nat} {h : Hd} {m : Im} (hP : Ptr w p h m) (hW : ImWf m) (f : Int) (b : Bool) (hb : decide (Bare m f) = b) :
    Calls Tryz.prog 102 #[.agg #[.pointer (some ⟨p, 0, none⟩)], .int .i64 f] w fun e w' => e = .returned (.bool b) ∧ Kp w w' := by
  have nF := hW.nF
  have hsz := hP.size
  have c1 := hP.c1
  by_cases hf : 0 ≤ f ∧ f < m.funcs.length
  · obtain ⟨q0, q1⟩ := hf
    obtain ⟨bF, oF, hao, hF⟩ := hP.in'.funcs.at (show f.toNat < m.funcs.length by omega)
    have hpp := hF.p f.toNat (by omega)
    have hbs := hF.size
    have c1' : w.cell? ⟨p, 1, none⟩ = some (.slice (some ⟨bF, oF, none⟩) m.funcs.length h.cF) := by rw [c1, hao]
    have hbe : ((m.funcs.getD f.toNat f0).p == 0) = b := by
      rw [← hb]
      rw [Bool.eq_iff_iff, beq_iff_eq]
      exact ⟨fun g => decide_eq_true ⟨q0, q1, g⟩, fun g => (of_decide_eq_true g).2.2⟩
    generalize (m.funcs.getD f.toNat f0).p = q at *
    have HH : Hid (decide (0 ≤ f ∧ f < (m.funcs.length : Int)) = true) := Lib.hid (by simp; omega)
    have HE := Lib.hid hbe
    clear c1 hP hF hao hb hbe
    go_enter Tryz.func102, Tryz.ntmps102
    go_wp2_with (go_at_call 51; refine (has_F _ _ _ _ _ true HH.out).mono ?_; rintro e w1 ⟨rfl, rfl⟩)
    go_ret
    exact ⟨ret_bool (by rw [← HE.out]), (Kp.refl w).alloc _ _⟩
  · have e : b = false := by rw [← hb, decide_eq_false_iff_not]; rintro ⟨g1, g2, _⟩; exact hf ⟨g1, g2⟩
    subst e
    have HH : Hid (decide (0 ≤ f ∧ f < (m.funcs.length : Int)) = false) := Lib.hid (by simpa using hf)
    clear hb hf hP
    go_enter Tryz.func102, Tryz.ntmps102
    go_wp2_with (go_at_call 51; refine (has_F _ _ _ _ _ false HH.out).mono ?_; rintro e w1 ⟨rfl, rfl⟩)
    go_ret
    exact ⟨rfl, (Kp.refl w).alloc _ _⟩

/-- bare, where a subject's box and Main's cell stand by. -/
theorem bare_s {w w1 : World} {p B : Nat} {h : Hd} {m : Im} (hP : Ptr w p h m) (hW : ImWf m) (f : Int) (b : Bool) (hb : decide (Bare m f) = b)
    (hS : Kp w w1 ∧ B < w1.heap.size ∧ w1.cell? ⟨B, 0, none⟩ = some (.pointer (some ⟨p, 0, none⟩)) ∧ w1.cell? ⟨p, 3, none⟩ = some (.int .i64 m.main)) :
    Calls Tryz.prog 102 #[.agg #[.pointer (some ⟨p, 0, none⟩)], .int .i64 f] w1 fun e w' => e = .returned (.bool b) ∧ (Kp w w' ∧ B < w'.heap.size ∧ w'.cell? ⟨B, 0, none⟩ = some (.pointer (some ⟨p, 0, none⟩)) ∧ w'.cell? ⟨p, 3, none⟩ = some (.int .i64 m.main)) :=
  (bare_any (hP.kp hS.1) hW f b hb).mono fun e w' ⟨he, k⟩ => ⟨he, hS.1.trans k, Nat.lt_of_lt_of_le hS.2.1 k.size, (k.cells _ _ hS.2.1).trans hS.2.2.1, ((hS.1.trans k).cells _ _ hP.size).trans hP.c3⟩
set_option maxHeartbeats 1000000 in
theorem main_any {w : World} {p : Nat} {h : Hd} {m : Im} (hP : Ptr w p h m) (hW : ImWf m) :
    Calls Tryz.prog 79 #[.agg #[.pointer (some ⟨p, 0, none⟩)]] w fun e w' => e = .returned (.int .i64 (okE (MainB m))) ∧ Kp w w' := by
  have hsz := hP.size
  have c3 := hP.c3
  have K1 := ((Kp.refl w).alloc #[.pointer (some ⟨p, 0, none⟩)] 77).drew
  have HP := Lib.hid hP
  have HW := Lib.hid hW
  cases hb : decide (Bare m m.main) with
  | true =>
    rw [okE_yes (show MainB m from of_decide_eq_true hb)]
    have HB := Lib.hid hb
    clear hP hW hb
    go_enter Tryz.func79, Tryz.ntmps79
    go_wp2_with fail
    go_region_held3 (fun w' => Kp w w' ∧ w.heap.size < w'.heap.size ∧ w'.cell? ⟨w.heap.size, 0, none⟩ = some (.pointer (some ⟨p, 0, none⟩)) ∧ w'.cell? ⟨p, 3, none⟩ = some (.int .i64 m.main)) (first | assumption | go_keep)
      ((go_at_call 102; (with_reducible refine (bare_s HP.out HW.out _ _ HB.out (by assumption)).mono ?_); rintro r w4 ⟨rfl, hS4⟩))
    all_goals go_wp2
    all_goals (go_ret; exact ⟨rfl, hS4.1⟩)
  | false =>
    rw [okE_no (show ¬ MainB m from of_decide_eq_false hb)]
    have HB := Lib.hid hb
    clear hP hW hb
    go_enter Tryz.func79, Tryz.ntmps79
    go_wp2_with fail
    go_region_held3 (fun w' => Kp w w' ∧ w.heap.size < w'.heap.size ∧ w'.cell? ⟨w.heap.size, 0, none⟩ = some (.pointer (some ⟨p, 0, none⟩)) ∧ w'.cell? ⟨p, 3, none⟩ = some (.int .i64 m.main)) (first | assumption | go_keep)
      ((go_at_call 102; (with_reducible refine (bare_s HP.out HW.out _ _ HB.out (by assumption)).mono ?_); rintro r w4 ⟨rfl, hS4⟩))
    all_goals go_wp2
    all_goals (go_ret; exact ⟨rfl, hS4.1⟩)
theorem stack_any {w : World} {p : Nat} {h : Hd} {m : Im} (hP : Ptr w p h m) :
    Calls Tryz.prog 81 #[.agg #[.pointer (some ⟨p, 0, none⟩)]] w fun e w' => e = .returned (.int .i64 (okE (StackB m))) ∧ Kp w w' := by
  have hsz := hP.size
  have c6 := hP.c6
  clear hP
  have H : Hid (okE (StackB m) = okE (StackB m)) := rfl
  have HY : Hid (1 ≤ m.stack → m.stack ≤ 65536 → okE (StackB m) = 0) := fun a b => okE_yes ⟨a, b⟩
  have HN : Hid (¬ (1 ≤ m.stack ∧ m.stack ≤ 65536) → okE (StackB m) = 2) := fun a => okE_no a
  go_enter Tryz.func81, Tryz.ntmps81
  go_wp2
  all_goals first
    | (go_ret; exact ⟨ret_int (HY.out (by omega) (by omega)).symm, (Kp.refl w).alloc _ _⟩)
    | (go_ret; exact ⟨ret_int (HN.out (by omega)).symm, (Kp.refl w).alloc _ _⟩)
end Im
end Go.Proofs.YtaeblnlbelebkaaGreatDoor
