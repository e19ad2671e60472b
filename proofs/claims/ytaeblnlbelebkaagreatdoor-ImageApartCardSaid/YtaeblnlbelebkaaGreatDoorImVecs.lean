/-
  WALKS: package image, the checks of the vectors and of the sections. Own work.
-/
import Derived.Test.YtaeblnlbelebkaaGreatDoorImChecks
import Derived.Deep.RegionWith
namespace Go.Proofs.YtaeblnlbelebkaaGreatDoor
namespace Im
open Go.RowKit Go
open Co (Kp ret_int ret_bool ret2_int In in0 IIn Ics Wf)
open Ln (VIn Vcs)
set_option linter.unusedVariables false

theorem bare_v {w w1 : World} {p B C : Nat} {f : Int} {h : Hd} {m : Im} (hP : Ptr w p h m) (hW : ImWf m) (b : Bool) (hb : decide (Bare m f) = b)
    (hS : Kp w w1 ∧ B < w1.heap.size ∧ w1.cell? ⟨B, 0, none⟩ = some (.pointer (some ⟨p, 0, none⟩)) ∧ w1.cell? ⟨p, 3, none⟩ = some (.int .i64 m.main) ∧ C < w1.heap.size ∧ w1.cell? ⟨C, 2, none⟩ = some (.int .i64 f)) :
    Calls Tryz.prog 102 #[.agg #[.pointer (some ⟨p, 0, none⟩)], .int .i64 f] w1 fun e w' => e = .returned (.bool b) ∧ (Kp w w' ∧ B < w'.heap.size ∧ w'.cell? ⟨B, 0, none⟩ = some (.pointer (some ⟨p, 0, none⟩)) ∧ w'.cell? ⟨p, 3, none⟩ = some (.int .i64 m.main) ∧ C < w'.heap.size ∧ w'.cell? ⟨C, 2, none⟩ = some (.int .i64 f)) :=
  (bare_any (hP.kp hS.1) hW f b hb).mono fun e w' ⟨he, k⟩ => ⟨he, hS.1.trans k, Nat.lt_of_lt_of_le hS.2.1 k.size, (k.cells _ _ hS.2.1).trans hS.2.2.1, ((hS.1.trans k).cells _ _ hP.size).trans hP.c3, Nat.lt_of_lt_of_le hS.2.2.2.2.1 k.size, (k.cells _ _ hS.2.2.2.2.1).trans hS.2.2.2.2.2⟩
def VecOk (m : Im) (k : Nat) : Prop := Bare m (m.vec k).f ∧ (m.vec k).f ≠ m.main
set_option maxHeartbeats 2000000 in
set_option maxRecDepth 100000 in
theorem vectors_any {w : World} {p : Nat} {h : Hd} {m : Im} (hP : Ptr w p h m) (hW : ImWf m) :
    Calls Tryz.prog 80 #[.agg #[.pointer (some ⟨p, 0, none⟩)]] w fun e w' => e = .returned (.int .i64 (okE (VecsB m))) ∧ Kp w w' := by
  have nV := hW.nV
  have hsz := hP.size
  have c2 := hP.c2
  have HP := Lib.hid hP
  have HW := Lib.hid hW
  have hvi := hP.in'.vecs
  have nV' : m.vecs.length ≤ maxLen := by unfold maxLen; exact nV
  have HV : Hid (VIn w h.aV m.vec m.vecs.length) := hvi
  generalize h.aV = aV at *
  clear hP hW hvi
  by_cases hc : Ln.chk m.vec m.vecs.length = 0
  case neg =>
    rw [okE_no (fun g => hc g.1)]
    have hb : (Ln.chk m.vec m.vecs.length != 0) = true := by simpa using hc
    generalize hq : Ln.chk m.vec m.vecs.length = q at *
    have HQ := Lib.hid hq
    clear hq hc
    go_enter Tryz.func80, Tryz.ntmps80
    go_wp2_with fail
    refine (Ln.check_any aV m.vecs.length h.cV m.vec _ (HV.out.kp ((Kp.refl w).alloc _ _)) nV').mono ?_
    rw [HQ.out]
    rintro e w1 ⟨rfl, k1⟩
    go_wp2
    go_ret
    exact ⟨rfl, ((Kp.refl w).alloc _ _).trans k1⟩
  case pos =>
    have HC := Lib.hid hc
    clear hc
    go_enter Tryz.func80, Tryz.ntmps80
    go_wp2_with fail
    refine (Ln.check_any aV m.vecs.length h.cV m.vec _ (HV.out.kp ((Kp.refl w).alloc _ _)) nV').mono ?_
    rw [HC.out]
    rintro e w1 ⟨rfl, k1⟩
    have hz1 : w.heap.size < w1.heap.size := Co.size_alloc k1
    have K1 := ((Kp.refl w).alloc _ _).trans k1
    have hs1 : w1.cell? ⟨w.heap.size, 0, none⟩ = some (.pointer (some ⟨p, 0, none⟩)) := (k1.cells _ _ (by simp)).trans (by simp)
    have d2 : w1.cell? ⟨p, 2, none⟩ = some (.slice aV m.vecs.length h.cV) := (K1.cells _ _ hsz).trans c2
    clear c2 k1
    have hp1 : p < w1.heap.size := by omega
    go_wp2
    go_loopw [18] (fun i wr => ∃ k : Nat, k ≤ m.vecs.length ∧ i = .int .i64 k ∧ Hid (∀ j, j < k → VecOk m j) ∧ Kp w1 wr) (fun i _ => m.vecs.length - (intOf i).toNat)
    case atStart => exact ⟨0, Nat.zero_le _, rfl, fun j hj => absurd hj (Nat.not_lt_zero _), Kp.refl _⟩
    case round =>
      obtain ⟨k, hk, rfl, hall, kr⟩ := hrel
      have KK := K1.trans kr
      by_cases hlt : k < m.vecs.length
      · obtain ⟨bV, oV, hao, hVc⟩ := HV.out.at hlt
        subst hao
        have hVr := hVc.kp KK
        have x0 := hVr.l k hlt
        have x1 := hVr.p k hlt
        have x2 := hVr.f k hlt
        have hbs := hVr.size
        have z0 : w.heap.size < wr.heap.size := Nat.lt_of_lt_of_le hz1 kr.size
        have s0 : wr.cell? ⟨w.heap.size, 0, none⟩ = some (.pointer (some ⟨p, 0, none⟩)) := (kr.cells _ _ hz1).trans hs1
        have z1 : p < wr.heap.size := Nat.lt_of_lt_of_le hp1 kr.size
        have e3 : wr.cell? ⟨p, 3, none⟩ = some (.int .i64 m.main) := (KK.cells _ _ hsz).trans HP.out.c3
        have hl0 : (0 : Int) ≤ (k : Int) := by omega
        have hl1 : (k : Int) < m.vecs.length := by omega
        have hvv : VecOk m k ↔ Bare m (m.vec k).f ∧ (m.vec k).f ≠ m.main := Iff.rfl
        generalize (m.vec k).l = l at *
        generalize (m.vec k).p = pr at *
        generalize (m.vec k).f = f at *
        have HK := Lib.hid kr
        have KD := (KK.alloc #[.int .i64 l, .int .i64 pr, .int .i64 f] 71).drew
        have KD1 := (kr.alloc #[.int .i64 l, .int .i64 pr, .int .i64 f] 71).drew
        have HVV := Lib.hid hvv
        clear hvv kr hVr hVc KK hs1 d2
        have z0' : w.heap.size < wr.heap.size + 1 := by omega
        cases hbr : decide (Bare m f) with
        | false =>
          have HB := Lib.hid hbr
          clear hbr
          go_wp2_with fail
          first
            | (go_region_with (go_at_call 102; refine (bare_any (HP.out.kp KD) HW.out f false HB.out).mono ?_; rintro e w4 ⟨rfl, k4⟩))
            | fail "no region"
          all_goals go_wp2
          all_goals (go_ret; exact ⟨ret_int (by rw [okE_no (fun g => of_decide_eq_false HB.out (HVV.out.1 (g.2 k hlt)).1)]), KD.trans k4⟩)
        | true =>
          have HB := Lib.hid hbr
          clear hbr
          cases hfm : (f == m.main) with
          | true =>
            have HFM := Lib.hid hfm
            go_wp2_with fail
            go_region_held3 (fun w' => Kp w w' ∧ w.heap.size < w'.heap.size ∧ w'.cell? ⟨w.heap.size, 0, none⟩ = some (.pointer (some ⟨p, 0, none⟩)) ∧ w'.cell? ⟨p, 3, none⟩ = some (.int .i64 m.main) ∧ wr.heap.size < w'.heap.size ∧ w'.cell? ⟨wr.heap.size, 2, none⟩ = some (.int .i64 f)) (first | assumption | go_keep)
              ((go_at_call 102; (with_reducible refine (bare_v (B := w.heap.size) (C := wr.heap.size) HP.out HW.out _ HB.out (by assumption)).mono ?_); rintro r w4 ⟨rfl, hS4⟩))
            all_goals go_wp2
            all_goals (go_ret; exact ⟨ret_int (by rw [okE_no (fun g => (HVV.out.1 (g.2 k hlt)).2 (by simpa using HFM.out))]), hS4.1⟩)
          | false =>
            have HFM := Lib.hid hfm
            go_wp2_with fail
            go_region_held3 (fun w' => Kp w1 w' ∧ w.heap.size < w'.heap.size ∧ w'.cell? ⟨w.heap.size, 0, none⟩ = some (.pointer (some ⟨p, 0, none⟩)) ∧ w'.cell? ⟨p, 3, none⟩ = some (.int .i64 m.main) ∧ wr.heap.size < w'.heap.size ∧ w'.cell? ⟨wr.heap.size, 2, none⟩ = some (.int .i64 f)) (first | assumption | go_keep)
              ((go_at_call 102; (with_reducible refine (bare_v (B := w.heap.size) (C := wr.heap.size) (HP.out.kp K1) HW.out _ HB.out (by assumption)).mono ?_); rintro r w4 ⟨rfl, hS4⟩))
            all_goals go_wp2
            all_goals
              go_roundw
              case rel => exact ⟨k + 1, by omega, by go_num, fun j hj => by
                by_cases e : j = k
                · subst e; exact HVV.out.2 ⟨of_decide_eq_true HB.out, by simpa using HFM.out⟩
                · exact hall.out j (by omega), hS4.1⟩
              case measure => simp [intOf]; omega
      · obtain rfl : k = m.vecs.length := by omega
        go_wp2
        go_ret
        exact ⟨ret_int (by rw [okE_yes ⟨HC.out, hall.out⟩]), KK⟩

set_option maxHeartbeats 2000000 in
set_option maxRecDepth 100000 in
theorem sections_any {w : World} {p : Nat} {h : Hd} {m : Im} (hP : Ptr w p h m) (hW : ImWf m) :
    Calls Tryz.prog 82 #[.agg #[.pointer (some ⟨p, 0, none⟩)]] w fun e w' => e = .returned (.int .i64 (okE (SecsB m))) ∧ Kp w w' := by
  have nA := hW.nA
  have nI := hW.nI
  have nL := Lib.hid hW.nL
  have hsz := hP.size
  have c4 := hP.c4
  have c7 := hP.c7
  have HA : Hid (AIn w h.aA m.atoms) := hP.in'.atoms
  generalize h.aA = aA at *
  clear hP hW
  go_enter Tryz.func82, Tryz.ntmps82
  go_wp2
  go_loop [13] (fun i => ∃ k : Nat, k ≤ m.atoms.length ∧ i = .int .i64 k ∧ Hid (∀ j, j < k → ∀ q, q < (m.at' j).length → CellOk m j q)) (fun i => m.atoms.length - (intOf i).toNat)
  case atStart => exact ⟨0, Nat.zero_le _, rfl, fun j hj => absurd hj (Nat.not_lt_zero _)⟩
  case round =>
    obtain ⟨k, hk, rfl, hall⟩ := hrel
    by_cases hlt : k < m.atoms.length
    · obtain ⟨bA, oA, hao, hAc⟩ := HA.out.at hlt
      subst hao
      obtain ⟨ao, cap, hc, hI⟩ := hAc.at' k hlt
      have hnl := nL.out k
      have hbs := hAc.size
      have HQ : Hid (∀ q, CellOk m k q ↔ 0 ≤ (m.atoms.getD k []).getD q 0 ∧ (m.atoms.getD k []).getD q 0 < m.init.length ∧ (0 < q → (m.atoms.getD k []).getD (q - 1) 0 < (m.atoms.getD k []).getD q 0)) := fun q => Iff.rfl
      have HLE : Hid ((m.at' k).length = (m.atoms.getD k []).length) := rfl
      have hnl' : (m.atoms.getD k []).length ≤ 9223372036854775807 := hnl
      clear hAc hnl
      generalize m.atoms.getD k [] = L at *
      go_wp2
      go_loop [19] (fun i => ∃ q : Nat, q ≤ L.length ∧ i = .int .i64 q ∧ Hid (∀ j, j < q → CellOk m k j)) (fun i => L.length - (intOf i).toNat)
      case atStart => exact ⟨0, Nat.zero_le _, rfl, fun j hj => absurd hj (Nat.not_lt_zero _)⟩
      case round =>
        obtain ⟨q, hq, rfl, hin⟩ := hrel
        by_cases hqt : q < L.length
        · obtain ⟨bI, oI, hbo, hIc⟩ := IIn.at hI hqt
          subst hbo
          have x0 := hIc.at' q hqt
          have hbi := hIc.size
          have HQ1 := HQ.out q
          by_cases hq0 : q = 0
          · subst hq0
            rw [Nat.add_zero] at x0
            generalize L.getD 0 0 = x at *
            have HC : Hid (CellOk m k 0 ↔ 0 ≤ x ∧ x < m.init.length) := Lib.hid (by rw [HQ1]; simp)
            clear HQ1 hI hIc
            cases hx : decide (0 ≤ x ∧ x < (m.init.length : Int)) with
            | true =>
              have HX := Lib.hid hx
              clear hx
              go_wp2_with (go_at_call 104; refine (has_U _ _ _ _ _ true HX.out).mono ?_; rintro e w1 ⟨rfl, rfl⟩)
              go_round
              case rel => exact ⟨1, by omega, by go_num, fun j hj => by
                obtain rfl : j = 0 := by omega
                exact HC.out.2 (of_decide_eq_true HX.out)⟩
              case measure => simp [intOf]; omega
            | false =>
              have HX := Lib.hid hx
              clear hx
              go_wp2_with (go_at_call 104; refine (has_U _ _ _ _ _ false HX.out).mono ?_; rintro e w1 ⟨rfl, rfl⟩)
              go_ret
              exact ⟨ret_int (by rw [okE_no (fun (g : SecsB m) => of_decide_eq_false HX.out (HC.out.1 (g k hlt 0 (by have := HLE.out; omega))))]), (Kp.refl w).alloc _ _⟩
          · have x1 := hIc.at' (q - 1) (by omega)
            generalize L.getD q 0 = x at *
            generalize L.getD (q - 1) 0 = y at *
            have hw1 : ((q : Int) - 1) = ((q - 1 : Nat) : Int) := by omega
            have hw2 : ((q : Int) - 1).toNat = q - 1 := by omega
            have HC : Hid (CellOk m k q ↔ 0 ≤ x ∧ x < m.init.length ∧ y < x) := Lib.hid (by rw [HQ1]; exact ⟨fun ⟨a, b, c⟩ => ⟨a, b, c (by omega)⟩, fun ⟨a, b, c⟩ => ⟨a, b, fun _ => c⟩⟩)
            have hq1 : (0 : Int) < q := by omega
            clear HQ1 hI hIc hw1
            cases hx : decide (0 ≤ x ∧ x < (m.init.length : Int)) with
            | true =>
              have HX := Lib.hid hx
              clear hx
              by_cases hyx : y < x
              · go_wp2_with (go_at_call 104; refine (has_U _ _ _ _ _ true HX.out).mono ?_; rintro e w1 ⟨rfl, rfl⟩)
                go_round
                case rel => exact ⟨q + 1, by omega, by go_num, fun j hj => by
                  by_cases e : j = q
                  · subst e; have := of_decide_eq_true HX.out; exact HC.out.2 ⟨this.1, this.2, hyx⟩
                  · exact hin.out j (by omega)⟩
                case measure => simp [intOf]; omega
              · go_wp2_with (go_at_call 104; refine (has_U _ _ _ _ _ true HX.out).mono ?_; rintro e w1 ⟨rfl, rfl⟩)
                go_ret
                exact ⟨ret_int (by rw [okE_no (fun (g : SecsB m) => by have := (HC.out.1 (g k hlt q (by have := HLE.out; omega))).2.2; omega)]), (Kp.refl w).alloc _ _⟩
            | false =>
              have HX := Lib.hid hx
              clear hx
              go_wp2_with (go_at_call 104; refine (has_U _ _ _ _ _ false HX.out).mono ?_; rintro e w1 ⟨rfl, rfl⟩)
              go_ret
              exact ⟨ret_int (by rw [okE_no (fun (g : SecsB m) => of_decide_eq_false HX.out (by have := HC.out.1 (g k hlt q (by have := HLE.out; omega)); exact ⟨this.1, this.2.1⟩))]), (Kp.refl w).alloc _ _⟩
        · obtain rfl : q = L.length := by omega
          go_wp2
          go_round
          case rel => exact ⟨k + 1, by omega, by go_num, fun j hj => by
            by_cases e : j = k
            · subst e; exact fun i hi => hin.out i (by have := HLE.out; omega)
            · exact hall.out j (by omega)⟩
          case measure => simp [intOf]; omega
    · obtain rfl : k = m.atoms.length := by omega
      go_wp2
      go_ret
      exact ⟨ret_int (by rw [okE_yes (show SecsB m from hall.out)]), (Kp.refl w).alloc _ _⟩
end Im
end Go.Proofs.YtaeblnlbelebkaaGreatDoor
