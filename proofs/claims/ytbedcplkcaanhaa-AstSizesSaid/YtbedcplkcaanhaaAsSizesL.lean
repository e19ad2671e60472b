/-
  WALKS: the law AstSizes. Own work.
-/
import Derived.Test.YtbedcplkcaanhaaAsSizesP
namespace Go.Proofs.Ytbedcplkcaanhaa
namespace As
open Go.RowKit Go Rg Go.Shelf
set_option linter.unusedVariables false

set_option maxHeartbeats 4000000 in
set_option maxRecDepth 100000 in
theorem sizes_walk {u : Nat → ByteArray} (W : World) (hu : UnT u W) (e f : Nd) (s : St)
    (hke : Nds W W.heap.size e.ao e.kids) (hce : e.kids.length ≤ e.cap ∧ e.cap ≤ 9223372036854775807) (hne : NmAll [e])
    (hkf : Nds W W.heap.size f.ao f.kids) (hcf : f.kids.length ≤ f.cap ∧ f.cap ≤ 9223372036854775807) (hnf : NmAll [f]) (hks : InS W W.heap.size s) (hns : SmAll [s]) :
    Calls Try.prog 6 #[e.val, f.val, s.val] W fun r w' => r = .returned (.bool true) ∧ Below W.heap.size W w' := by
  have HU := Lib.hid (fun (w : World) (k : Tri W e f s w) => un_keep hu k.below)
  have HE := Lib.hid (fun (w : World) (k : Tri W e f s w) => hke.keep (V := fun _ => False) (Keep.of k.below) (fun _ h => h.elim))
  have HF := Lib.hid (fun (w : World) (k : Tri W e f s w) => hkf.keep (V := fun _ => False) (Keep.of k.below) (fun _ h => h.elim))
  have HS := Lib.hid (fun (w : World) (k : Tri W e f s w) => hks.keep k.below)
  have HNE := Lib.hid hne
  have HNF := Lib.hid hnf
  have HNS := Lib.hid hns
  have HCE := Lib.hid hce
  have HCF := Lib.hid hcf
  have T0 := Lib.hid (tri_0 W e f s)
  clear hu hke hkf hks hne hnf hns hce hcf
  unfold Nd.val St.val
  go_enter Try.func6, Try.ntmps6
  go_wp2_with (refine (lives_any (u := u) _ (HU.out _ T0.out)).mono ?_)
  rintro r w1 ⟨rfl, b1⟩
  have T1 := Lib.hid (T0.out.keep (b1.mono T0.out.le))
  clear b1 T0
  obtain ⟨x0, x1, x2, x3, x4, x5⟩ := cells_ofE T1.out.e
  have HL1 := Lib.hid (fun (w : World) (k : Tri W e f s w) => LightExpr_any e w (N := W.heap.size) k.below.size (HE.out w k) HCE.out (fun d p hp => Nat.le_trans (HNE.out d p hp) (by decide)) _ rfl)
  have HL2 := Lib.hid (fun (w : World) (k : Tri W e f s w) => LightExpr_any f w (N := W.heap.size) k.below.size (HF.out w k) HCF.out (fun d p hp => Nat.le_trans (HNF.out d p hp) (by decide)) _ rfl)
  go_wp2_with (refine (HL1.out _ T1.out).mono ?_)
  rintro r w2 ⟨rfl, b2⟩
  have T2 := Lib.hid (T1.out.keep (b2.mono T1.out.le))
  clear b2 T1 x0 x1 x2 x3 x4 x5 HL1 HNE
  by_cases l1 : 0 ≤ liF [e] 300
  rotate_left
  · rw [decide_eq_false l1]
    go_wp2
    go_ret
    exact ⟨rfl, T2.out.below⟩
  rw [decide_eq_true l1]
  have S1 := Lib.hid (fun (w : World) (k : Tri W e f s w) => small_of (HE.out w k) HCE.out l1)
  clear l1
  obtain ⟨x0, x1, x2, x3, x4, x5⟩ := cells_ofE T2.out.f
  go_wp2_with (refine (HL2.out _ T2.out).mono ?_)
  rintro r w3 ⟨rfl, b3⟩
  have T3 := Lib.hid (T2.out.keep (b3.mono T2.out.le))
  clear b3 T2 x0 x1 x2 x3 x4 x5 HL2 HNF
  by_cases l2 : 0 ≤ liF [f] 300
  rotate_left
  · rw [decide_eq_false l2]
    go_wp2
    go_ret
    exact ⟨rfl, T3.out.below⟩
  rw [decide_eq_true l2]
  have S2 := Lib.hid (fun (w : World) (k : Tri W e f s w) => small_of (HF.out w k) HCF.out l2)
  clear l2 HE HF HCE HCF
  obtain ⟨x0, x1, x2, x3, x4, x5, x6, x7, x8, x9⟩ := cells_ofS T3.out.s
  have TA := Lib.hid (T3.out.kp ((Below.refl _ w3).alloc (Nat.le_refl _) (oS s)))
  have HC := Lib.hid (LightStmts_any [s] (some ⟨w3.heap.size, 0, none⟩) 1 (w3.alloc (oS s)) (row_S (N := W.heap.size) (HS.out _ TA.out) (Nat.le_trans T3.out.below.size (Nat.le_succ _)) (Nat.lt_succ_self _) (World.alloc_heap_new w3 _)) (by simp) HNS.out _ rfl 1 rfl)
  go_wp2_with (refine (show Calls _ _ #[.slice (some ⟨w3.heap.size, 0, none⟩) 1 1, .int .i64 300] _ _ from HC.out).mono ?_)
  rintro r w4 ⟨rfl, b4⟩
  have T4 := Lib.hid (TA.out.keep (b4.mono TA.out.le))
  clear b4 T3 TA HC x0 x1 x2 x3 x4 x5 x6 x7 x8 x9
  by_cases l3 : 0 ≤ lsF [s] 300
  rotate_left
  · rw [decide_eq_false l3]
    go_wp2
    go_ret
    exact ⟨rfl, T4.out.below⟩
  rw [decide_eq_true l3]
  have HLT := Lib.hid (lit_of (HS.out _ T4.out) HNS.out l3)
  clear l3 HNS
  obtain ⟨x0, x1, x2, x3, x4, x5⟩ := cells_ofE T4.out.e
  have HC1 := Lib.hid (fun (w : World) (k : Tri W e f s w) => CheckExpr_any (u := u) e w k.below.size (S1.out w k).kids (S1.out w k).cap (S1.out w k).tree.deep (S1.out w k).tree.fits (HU.out w k))
  have HC2 := Lib.hid (fun (w : World) (k : Tri W e f s w) => CheckExpr_any (u := u) f w k.below.size (S2.out w k).kids (S2.out w k).cap (S2.out w k).tree.deep (S2.out w k).tree.fits (HU.out w k))
  have HC3 := Lib.hid (fun (w : World) (k : Tri W e f s w) => CheckStmt_any (u := u) s w k.below.size (HS.out w k) (HLT.out.deep (by decide)) (HLT.out.fit (by decide)) (HU.out w k))
  go_wp2_with (refine (HC1.out _ T4.out).mono ?_)
  rintro r w5 ⟨rfl, b5⟩
  have T5 := Lib.hid (T4.out.keep (b5.mono T4.out.le))
  clear b5 T4 x0 x1 x2 x3 x4 x5 HC1
  by_cases c1 : chk u (flatF 1 [e]) = 0
  rotate_left
  · have HX := Lib.hid c1
    generalize chk u (flatF 1 [e]) = c at *
    go_wp2
    go_ret
    exact ⟨rfl, T5.out.below⟩
  rw [c1]
  have C1 := Lib.hid c1
  clear c1
  obtain ⟨x0, x1, x2, x3, x4, x5⟩ := cells_ofE T5.out.f
  go_wp2_with (refine (HC2.out _ T5.out).mono ?_)
  rintro r w6 ⟨rfl, b6⟩
  have T6 := Lib.hid (T5.out.keep (b6.mono T5.out.le))
  clear b6 T5 x0 x1 x2 x3 x4 x5 HC2
  by_cases c2 : chk u (flatF 1 [f]) = 0
  rotate_left
  · have HX := Lib.hid c2
    generalize chk u (flatF 1 [f]) = c at *
    go_wp2
    go_ret
    exact ⟨rfl, T6.out.below⟩
  rw [c2]
  have C2 := Lib.hid c2
  clear c2
  obtain ⟨x0, x1, x2, x3, x4, x5, x6, x7, x8, x9⟩ := cells_ofS T6.out.s
  go_wp2_with (refine (HC3.out _ T6.out).mono ?_)
  rintro r w7 ⟨rfl, b7⟩
  have T7 := Lib.hid (T6.out.keep (b7.mono T6.out.le))
  clear b7 T6 x0 x1 x2 x3 x4 x5 x6 x7 x8 x9 HC3
  by_cases c3 : chkP u (partsL (flatS 1 [s])) = 0
  rotate_left
  · have HX := Lib.hid c3
    generalize chkP u (partsL (flatS 1 [s])) = c at *
    go_wp2
    go_ret
    exact ⟨rfl, T7.out.below⟩
  rw [c3]
  clear c3
  obtain ⟨x0, x1, x2, x3, x4, x5⟩ := cells_ofE T7.out.e
  obtain ⟨y0, y1, y2, y3, y4, y5⟩ := cells_ofE T7.out.f
  go_wp2
  rename_i K8 hK8
  generalize hww : World.alloc _ _ = w8
  have HK8 := Lib.hid hK8
  clear hK8
  have B8 : Below w7.heap.size w7 w8 := by rw [← hww]; exact ((Below.refl _ w7).alloc (Nat.le_refl _) _).alloc (by simp) _
  have T8 := Lib.hid (T7.out.kp B8)
  have hrow : w8.heap[w7.heap.size]? = some (oE2 e f) := by rw [← hww]; exact rowT_0 w7 _ _
  have hsum : w8.heap[w7.heap.size + 1]? = some (oE (nS w7.heap.size e f)) := by rw [← hww]; exact row2_1 w7 _ _
  have SM8 : Hid (Sum e f w7.heap.size (w7.heap.size + 1) w8) := Lib.hid ⟨hsum, hrow⟩
  clear hww B8 hrow hsum T7 x0 x1 x2 x3 x4 x5 y0 y1 y2 y3 y4 y5
  generalize w7.heap.size = r at *
  refine Opx.starts (P := Try.prog) [some 52, some 53, some 54, some 55, some 56, some 57, some 58, some 59, some 60, some 61, some 62, some 63, some 64, some 65, some 66, some 67, some 68, some 69, some 10, some 11, some 12, none, none, none]
    (fun x w => (Tri W e f s w ∧ Sum e f r (r + 1) w) ∧ Ap x w) (q8 (W.heap.size + 1 + 1 + 1) e f (nS r e f)) 24 (by kernel_rfl) (by kernel_rfl) (by kernel_rfl) (by kernel_rfl) (by kernel_rfl)
    ⟨⟨T8.out.kp (Below.refl _ w8).drew, SM8.out.keep (Below.refl _ w8).drew⟩, Ap.none (fun i h1 h2 => ?_)⟩ ?_ ?_
  · rcases (by omega : i = 18 ∨ i = 19 ∨ i = 20) with rfl | rfl | rfl <;> kernel_rfl
  · intro i hi x w hS hx ops' Q' a K hO hA hK
    have hB : ∀ v w', i < 18 → Below w.heap.size w w' → p8 (W.heap.size + 1 + 1 + 1) e f (nS r e f) i v w' → K _ w' := fun v w' hi hb hv => hK v w' ⟨⟨hS.1.1.kp hb, hS.1.2.keep hb⟩, hS.2.other hb.size (.inl hi) v⟩ (by rw [q8.low (by omega), Opx.upd_same]; exact hv) (fun j hji hd hq => q8.keep hji (fun _ => by omega) (fun _ => by omega) (fun _ => by omega) hb hq)
    have hx' := fun j (hj : j ≤ 20) hd => Eq.mp (q8.low hj) (hx j hd)
    clear hx
    match i, hi with
    | 0, _ => exact Opg.value hO (hB _ _ (by decide) (Below.refl _ w) rfl) (fun o ho => Ops.run_move (y := .tmp 9) ho (Opg.ev0 hA (by kernel_rfl))) (by kernel_rfl)
    | 1, _ => exact Opg.value hO (hB _ _ (by decide) (Below.refl _ w) rfl) (fun o ho => Ops.run_move (y := .tmp 8) ho (Opg.ev0 hA (by kernel_rfl))) (by kernel_rfl)
    | 2, _ => exact Opg.value hO (hB _ _ (by decide) (Below.refl _ w) rfl) (fun o ho => Ops.run_load_expr (y := .tmp 3) ho (Opg.ev0 hA (by kernel_rfl)) hS.1.1.e) (by kernel_rfl)
    | 3, _ =>
      obtain h1 : x 1 = fRet := hx' 1 (by decide) (by kernel_rfl)
      obtain h2 : x 2 = (e).val := hx' 2 (by decide) (by kernel_rfl)
      exact Opg.called (c := .value (.tmp 53)) (ys := #[.tmp 54]) hO (fun o ts ho => Ops.run_callc (y := .tmp 53) (vs := #[(e).val]) (caps := #[]) ho (Opg.ev hA (by kernel_rfl) h1) (Opg.ev1 hA (by kernel_rfl) h2) (by kernel_rfl)) ((ret_any (e) w).mono fun rr w' ⟨hr, hb, hh⟩ => ⟨_, hr, hB _ w' (by decide) hb ⟨_, rfl, hh⟩⟩) (by kernel_rfl)
    | 4, _ =>
      obtain ⟨R3, e3, hh⟩ : IsR (e) (x 3) w := hx' 3 (by decide) (by kernel_rfl)
      have hb := (Below.refl w.heap.size w).alloc (Nat.le_refl _) (oS (sR R3 (e)))
      exact Opg.value hO (hB _ _ (by decide) hb ⟨_, R3, rfl, World.alloc_heap_new w _, (hb.block R3 (Array.getElem?_eq_some_iff.1 hh).1).trans hh⟩) (fun o ho => Opi.run_rowS (y := .tmp 55) ho (Opg.ev hA (by kernel_rfl) e3)) (by kernel_rfl)
    | 5, _ =>
      obtain ⟨R2, R3, e4, g2, g3⟩ : IsRow (e) (x 4) w := hx' 4 (by decide) (by kernel_rfl)
      obtain h0 : x 0 = fPrg := hx' 0 (by decide) (by kernel_rfl)
      exact Opg.called (c := .value (.tmp 52)) (ys := #[.tmp 56]) hO (fun o ts ho => Ops.run_callc (y := .tmp 52) (vs := #[.slice (some ⟨R2, 0, none⟩) 1 1]) (caps := #[]) ho (Opg.ev hA (by kernel_rfl) h0) (Opg.ev1 hA (by kernel_rfl) e4) (by kernel_rfl)) ((prog_any (some ⟨R2, 0, none⟩) 1 1 w).mono fun rr w' ⟨hr, hb, hh⟩ => ⟨_, hr, hB _ w' (by decide) hb ⟨_, rfl, R2, R3, hh, (hb.block R2 (Array.getElem?_eq_some_iff.1 g2).1).trans g2, (hb.block R3 (Array.getElem?_eq_some_iff.1 g3).1).trans g3⟩⟩) (by kernel_rfl)
    | 6, _ => exact Opg.value hO (hB _ _ (by decide) (Below.refl _ w) rfl) (fun o ho => Ops.run_move (y := .tmp 9) ho (Opg.ev0 hA (by kernel_rfl))) (by kernel_rfl)
    | 7, _ => exact Opg.value hO (hB _ _ (by decide) (Below.refl _ w) rfl) (fun o ho => Ops.run_move (y := .tmp 8) ho (Opg.ev0 hA (by kernel_rfl))) (by kernel_rfl)
    | 8, _ => exact Opg.value hO (hB _ _ (by decide) (Below.refl _ w) rfl) (fun o ho => Ops.run_load_expr (y := .tmp 4) ho (Opg.ev0 hA (by kernel_rfl)) hS.1.1.f) (by kernel_rfl)
    | 9, _ =>
      obtain h1 : x 7 = fRet := hx' 7 (by decide) (by kernel_rfl)
      obtain h2 : x 8 = (f).val := hx' 8 (by decide) (by kernel_rfl)
      exact Opg.called (c := .value (.tmp 59)) (ys := #[.tmp 60]) hO (fun o ts ho => Ops.run_callc (y := .tmp 59) (vs := #[(f).val]) (caps := #[]) ho (Opg.ev hA (by kernel_rfl) h1) (Opg.ev1 hA (by kernel_rfl) h2) (by kernel_rfl)) ((ret_any (f) w).mono fun rr w' ⟨hr, hb, hh⟩ => ⟨_, hr, hB _ w' (by decide) hb ⟨_, rfl, hh⟩⟩) (by kernel_rfl)
    | 10, _ =>
      obtain ⟨R3, e3, hh⟩ : IsR (f) (x 9) w := hx' 9 (by decide) (by kernel_rfl)
      have hb := (Below.refl w.heap.size w).alloc (Nat.le_refl _) (oS (sR R3 (f)))
      exact Opg.value hO (hB _ _ (by decide) hb ⟨_, R3, rfl, World.alloc_heap_new w _, (hb.block R3 (Array.getElem?_eq_some_iff.1 hh).1).trans hh⟩) (fun o ho => Opi.run_rowS (y := .tmp 61) ho (Opg.ev hA (by kernel_rfl) e3)) (by kernel_rfl)
    | 11, _ =>
      obtain ⟨R2, R3, e4, g2, g3⟩ : IsRow (f) (x 10) w := hx' 10 (by decide) (by kernel_rfl)
      obtain h0 : x 6 = fPrg := hx' 6 (by decide) (by kernel_rfl)
      exact Opg.called (c := .value (.tmp 58)) (ys := #[.tmp 62]) hO (fun o ts ho => Ops.run_callc (y := .tmp 58) (vs := #[.slice (some ⟨R2, 0, none⟩) 1 1]) (caps := #[]) ho (Opg.ev hA (by kernel_rfl) h0) (Opg.ev1 hA (by kernel_rfl) e4) (by kernel_rfl)) ((prog_any (some ⟨R2, 0, none⟩) 1 1 w).mono fun rr w' ⟨hr, hb, hh⟩ => ⟨_, hr, hB _ w' (by decide) hb ⟨_, rfl, R2, R3, hh, (hb.block R2 (Array.getElem?_eq_some_iff.1 g2).1).trans g2, (hb.block R3 (Array.getElem?_eq_some_iff.1 g3).1).trans g3⟩⟩) (by kernel_rfl)
    | 12, _ => exact Opg.value hO (hB _ _ (by decide) (Below.refl _ w) rfl) (fun o ho => Ops.run_move (y := .tmp 9) ho (Opg.ev0 hA (by kernel_rfl))) (by kernel_rfl)
    | 13, _ => exact Opg.value hO (hB _ _ (by decide) (Below.refl _ w) rfl) (fun o ho => Ops.run_move (y := .tmp 8) ho (Opg.ev0 hA (by kernel_rfl))) (by kernel_rfl)
    | 14, _ => exact Opg.value hO (hB _ _ (by decide) (Below.refl _ w) rfl) (fun o ho => Ops.run_load_expr (y := .tmp 7) ho (Opg.ev0 hA (by kernel_rfl)) hS.1.2.1) (by kernel_rfl)
    | 15, _ =>
      obtain h1 : x 13 = fRet := hx' 13 (by decide) (by kernel_rfl)
      obtain h2 : x 14 = (nS r e f).val := hx' 14 (by decide) (by kernel_rfl)
      exact Opg.called (c := .value (.tmp 65)) (ys := #[.tmp 66]) hO (fun o ts ho => Ops.run_callc (y := .tmp 65) (vs := #[(nS r e f).val]) (caps := #[]) ho (Opg.ev hA (by kernel_rfl) h1) (Opg.ev1 hA (by kernel_rfl) h2) (by kernel_rfl)) ((ret_any (nS r e f) w).mono fun rr w' ⟨hr, hb, hh⟩ => ⟨_, hr, hB _ w' (by decide) hb ⟨_, rfl, hh⟩⟩) (by kernel_rfl)
    | 16, _ =>
      obtain ⟨R3, e3, hh⟩ : IsR (nS r e f) (x 15) w := hx' 15 (by decide) (by kernel_rfl)
      have hb := (Below.refl w.heap.size w).alloc (Nat.le_refl _) (oS (sR R3 (nS r e f)))
      exact Opg.value hO (hB _ _ (by decide) hb ⟨_, R3, rfl, World.alloc_heap_new w _, (hb.block R3 (Array.getElem?_eq_some_iff.1 hh).1).trans hh⟩) (fun o ho => Opi.run_rowS (y := .tmp 67) ho (Opg.ev hA (by kernel_rfl) e3)) (by kernel_rfl)
    | 17, _ =>
      obtain ⟨R2, R3, e4, g2, g3⟩ : IsRow (nS r e f) (x 16) w := hx' 16 (by decide) (by kernel_rfl)
      obtain h0 : x 12 = fPrg := hx' 12 (by decide) (by kernel_rfl)
      exact Opg.called (c := .value (.tmp 64)) (ys := #[.tmp 68]) hO (fun o ts ho => Ops.run_callc (y := .tmp 64) (vs := #[.slice (some ⟨R2, 0, none⟩) 1 1]) (caps := #[]) ho (Opg.ev hA (by kernel_rfl) h0) (Opg.ev1 hA (by kernel_rfl) e4) (by kernel_rfl)) ((prog_any (some ⟨R2, 0, none⟩) 1 1 w).mono fun rr w' ⟨hr, hb, hh⟩ => ⟨_, hr, hB _ w' (by decide) hb ⟨_, rfl, R2, R3, hh, (hb.block R2 (Array.getElem?_eq_some_iff.1 g2).1).trans g2, (hb.block R3 (Array.getElem?_eq_some_iff.1 g3).1).trans g3⟩⟩) (by kernel_rfl)
    | 18, _ =>
      have hb := (Below.refl w.heap.size w).alloc (Nat.le_refl _) (.cells Opi.zP 38)
      exact Opg.value hO (hK _ _ ⟨⟨hS.1.1.kp hb, hS.1.2.keep hb⟩, hS.2.new (by simp) (by decide) (by decide)⟩ (by rw [q8.low (by decide), Opx.upd_same]; exact ⟨_, _, _, _, _, rfl, hS.1.1.le, World.alloc_heap_new w _⟩) (fun j hji hd hq => q8.keep hji (fun hj => by subst hj; exact absurd hd (by rw [show Op.dep _ 21 18 = true by kernel_rfl]; simp)) (fun _ => by decide) (fun _ => by decide) hb hq)) (fun o ho => Opi.run_allocP ho) (by kernel_rfl)
    | 19, _ =>
      have hb := (Below.refl w.heap.size w).alloc (Nat.le_refl _) (.cells Opi.zP 38)
      exact Opg.value hO (hK _ _ ⟨⟨hS.1.1.kp hb, hS.1.2.keep hb⟩, hS.2.new (by simp) (by decide) (by decide)⟩ (by rw [q8.low (by decide), Opx.upd_same]; exact ⟨_, _, _, _, _, rfl, hS.1.1.le, World.alloc_heap_new w _⟩) (fun j hji hd hq => q8.keep hji (fun _ => by decide) (fun hj => by subst hj; exact absurd hd (by rw [show Op.dep _ 22 19 = true by kernel_rfl]; simp)) (fun _ => by decide) hb hq)) (fun o ho => Opi.run_allocP ho) (by kernel_rfl)
    | 20, _ =>
      have hb := (Below.refl w.heap.size w).alloc (Nat.le_refl _) (.cells Opi.zP 38)
      exact Opg.value hO (hK _ _ ⟨⟨hS.1.1.kp hb, hS.1.2.keep hb⟩, hS.2.new (by simp) (by decide) (by decide)⟩ (by rw [q8.low (by decide), Opx.upd_same]; exact ⟨_, _, _, _, _, rfl, hS.1.1.le, World.alloc_heap_new w _⟩) (fun j hji hd hq => q8.keep hji (fun _ => by decide) (fun _ => by decide) (fun hj => by subst hj; exact absurd hd (by rw [show Op.dep _ 23 20 = true by kernel_rfl]; simp)) hb hq)) (fun o ho => Opi.run_allocP ho) (by kernel_rfl)
    | 21, _ =>
      obtain ⟨b, c0, c1, c2, c3, eb, hZ, hrow⟩ : IsB (W.heap.size + 1 + 1 + 1) (x 18) w := hx' 18 (by decide) (by kernel_rfl)
      obtain ⟨R1, ev, hch⟩ : IsPe (e) (x 5) w := hx' 5 (by decide) (by kernel_rfl)
      have hs := sto_of (R := R1) hrow
      exact Opx.stored hO (hK undef _ ⟨⟨hS.1.1.sto hZ hs, hS.1.2.sto hs⟩, hS.2.other (by rw [hs.size]; exact Nat.le_refl _) (.inr (by decide)) _⟩ (by unfold q8; rw [if_pos rfl, Opx.upd_ne (by decide)]; exact ⟨b, R1, eb, hZ, hs.new, hch.sto hs⟩) (fun j hji hd hq => q8.sto hji (by decide) (by decide) hS.2 eb hs hq)) (fun o ho => Opi.run_storeP (y := .tmp 10) (z := .tmp 57) ho (Opg.ev hA (by kernel_rfl) eb) (Opg.ev hA (by kernel_rfl) ev) hrow) (by kernel_rfl)
    | 22, _ =>
      obtain ⟨b, c0, c1, c2, c3, eb, hZ, hrow⟩ : IsB (W.heap.size + 1 + 1 + 1) (x 19) w := hx' 19 (by decide) (by kernel_rfl)
      obtain ⟨R1, ev, hch⟩ : IsPe (f) (x 11) w := hx' 11 (by decide) (by kernel_rfl)
      have hs := sto_of (R := R1) hrow
      exact Opx.stored hO (hK undef _ ⟨⟨hS.1.1.sto hZ hs, hS.1.2.sto hs⟩, hS.2.other (by rw [hs.size]; exact Nat.le_refl _) (.inr (by decide)) _⟩ (by unfold q8; rw [if_neg (by decide), if_pos rfl, Opx.upd_ne (by decide)]; exact ⟨b, R1, eb, hZ, hs.new, hch.sto hs⟩) (fun j hji hd hq => q8.sto hji (by decide) (by decide) hS.2 eb hs hq)) (fun o ho => Opi.run_storeP (y := .tmp 11) (z := .tmp 63) ho (Opg.ev hA (by kernel_rfl) eb) (Opg.ev hA (by kernel_rfl) ev) hrow) (by kernel_rfl)
    | 23, _ =>
      obtain ⟨b, c0, c1, c2, c3, eb, hZ, hrow⟩ : IsB (W.heap.size + 1 + 1 + 1) (x 20) w := hx' 20 (by decide) (by kernel_rfl)
      obtain ⟨R1, ev, hch⟩ : IsPe (nS r e f) (x 17) w := hx' 17 (by decide) (by kernel_rfl)
      have hs := sto_of (R := R1) hrow
      exact Opx.stored hO (hK undef _ ⟨⟨hS.1.1.sto hZ hs, hS.1.2.sto hs⟩, hS.2.other (by rw [hs.size]; exact Nat.le_refl _) (.inr (by decide)) _⟩ (by unfold q8; rw [if_neg (by decide), if_neg (by decide), if_pos rfl, Opx.upd_ne (by decide)]; exact ⟨b, R1, eb, hZ, hs.new, hch.sto hs⟩) (fun j hji hd hq => q8.sto hji (by decide) (by decide) hS.2 eb hs hq)) (fun o ho => Opi.run_storeP (y := .tmp 12) (z := .tmp 69) ho (Opg.ev hA (by kernel_rfl) eb) (Opg.ev hA (by kernel_rfl) ev) hrow) (by kernel_rfl)
    | n + 24, h => exact absurd h (by omega)
  intro x w9 hS hx
  have h21 : PrE (W.heap.size + 1 + 1 + 1) e (x 18) w9 := by have h := hx 21 (by decide); unfold q8 at h; rw [if_pos rfl] at h; exact h
  have h22 : PrE (W.heap.size + 1 + 1 + 1) f (x 19) w9 := by have h := hx 22 (by decide); unfold q8 at h; rw [if_neg (by decide), if_pos rfl] at h; exact h
  have h23 : PrE (W.heap.size + 1 + 1 + 1) (nS r e f) (x 20) w9 := by have h := hx 23 (by decide); unfold q8 at h; rw [if_neg (by decide), if_neg (by decide), if_pos rfl] at h; exact h
  clear hx T8 SM8
  have T9 := Lib.hid hS.1.1
  have SM9 := Lib.hid hS.1.2
  clear hS
  obtain ⟨ba, Ra, ea, pa⟩ := prl_of (S1.out w9 T9.out).kids (S1.out w9 T9.out).cap T9.out.below.size h21
  obtain ⟨bb, Rb, eb, pb⟩ := prl_of (S2.out w9 T9.out).kids (S2.out w9 T9.out).cap T9.out.below.size h22
  obtain ⟨bc, Rc, ec, pc⟩ := prl_of (nS_kids (S1.out w9 T9.out) (S2.out w9 T9.out) T9.out.below.size SM9.out.2) ⟨by simp [nS, Nd.kids, Nd.cap], by simp [nS, Nd.cap]⟩ (Nat.le_refl _) h23
  clear h21 h22 h23
  simp only [Op.fillD, Act.put, List.setIfInBounds_toArray, List.set_cons_zero, List.set_cons_succ, show x (0 + 1 + 1 + 1 + 1 + 1 + 1 + 1 + 1 + 1 + 1 + 1 + 1 + 1 + 1 + 1 + 1 + 1 + 1) = _ from ea, show x (0 + 1 + 1 + 1 + 1 + 1 + 1 + 1 + 1 + 1 + 1 + 1 + 1 + 1 + 1 + 1 + 1 + 1 + 1 + 1) = _ from eb, show x (0 + 1 + 1 + 1 + 1 + 1 + 1 + 1 + 1 + 1 + 1 + 1 + 1 + 1 + 1 + 1 + 1 + 1 + 1 + 1 + 1) = _ from ec]
  clear ea eb ec
  have PR9 : Hid (Prs [(ba, [sR Ra e]), (bb, [sR Rb f]), (bc, [sR Rc (nS r e f)])] w9) := Lib.hid (by
    intro p hp
    simp only [List.mem_cons, List.not_mem_nil, or_false] at hp
    rcases hp with rfl | rfl | rfl
    · exact pa
    · exact pb
    · exact pc)
  clear pa pb pc
  refine HK8.out _ _ ?_
  clear HK8
  refine wp_seq_k fun K9 hK9 => ?_
  have HK9 := Lib.hid hK9
  clear hK9
  have k1 := S1.out w9 T9.out
  have k2 := S2.out w9 T9.out
  have k3 := nS_small (r := r) k1 k2
  have hE1 := deep_one e
  have hF1 := deep_one f
  have hE2 : maxD (flatF 1 [e]) ≤ 301 := maxD_le (by decide) (fun p hp => by have := depth_in (htF [e]) [e] 1 (Nat.le_refl _) p hp; have := k1.ht; omega)
  have hF2 : maxD (flatF 1 [f]) ≤ 301 := maxD_le (by decide) (fun p hp => by have := depth_in (htF [f]) [f] 1 (Nat.le_refl _) p hp; have := k2.ht; omega)
  have hn1 := k1.few 1
  have hn2 := k2.few 1
  have hnl := nS_len r e f
  have hck := nS_chk u r C1.out C2.out (by omega)
  have LA := Lib.hid (sR_lit (c := 300) k1.few (by have := k1.ht; omega) (part_e k1) Ra)
  have LB := Lib.hid (sR_lit (c := 300) k2.few (by have := k2.ht; omega) (part_e k2) Rb)
  have LC := Lib.hid (sR_lit (c := 601) k3.2.1 (by have := nS_ht r e f; have := k1.ht; have := k2.ht; omega) k3.2.2 Rc)
  have a1 := sR_dp Ra e
  have a2 := sR_dp Rb f
  have a3 := sR_dp Rc (nS r e f)
  have z1 := sR_sz Ra e
  have z2 := sR_sz Rb f
  have z3 := sR_sz Rc (nS r e f)
  rw [nS_deep] at a3 hck
  clear k1 k2 k3 C1 C2
  generalize [sR Ra e] = la at *
  generalize [sR Rb f] = lb at *
  generalize [sR Rc (nS r e f)] = lc at *
  obtain ⟨E, hE⟩ : ∃ z, maxD (flatF 1 [e]) = z := ⟨_, rfl⟩
  obtain ⟨F, hF⟩ : ∃ z, maxD (flatF 1 [f]) = z := ⟨_, rfl⟩
  obtain ⟨ck, hck0⟩ : ∃ z, chk u (flatF 1 [nS r e f]) = z := ⟨_, rfl⟩
  obtain ⟨da, hda⟩ : ∃ z, dp la = z := ⟨_, rfl⟩
  obtain ⟨db, hdb⟩ : ∃ z, dp lb = z := ⟨_, rfl⟩
  obtain ⟨dc, hdc⟩ : ∃ z, dp lc = z := ⟨_, rfl⟩
  obtain ⟨za, hza⟩ : ∃ z, sz la = z := ⟨_, rfl⟩
  obtain ⟨zb, hzb⟩ : ∃ z, sz lb = z := ⟨_, rfl⟩
  obtain ⟨zc, hzc⟩ : ∃ z, sz lc = z := ⟨_, rfl⟩
  obtain ⟨m, hm⟩ : ∃ z, max da db = z := ⟨_, rfl⟩
  obtain ⟨dd, hdd⟩ : ∃ z, m + 1 = z := ⟨_, rfl⟩
  obtain ⟨zs, hzs⟩ : ∃ z, za + zb = z := ⟨_, rfl⟩
  obtain ⟨bk, hbk⟩ : ∃ b, decide (m ≤ 60) = b := ⟨_, rfl⟩
  rw [hE] at hE1 hE2 a1 a3 hck
  rw [hF] at hF1 hF2 a2 a3 hck
  rw [hck0] at hck
  rw [hda] at a1
  rw [hdb] at a2
  rw [hdc] at a3
  rw [hza] at z1
  rw [hzb] at z2
  rw [hzc] at z3
  have Hda := Lib.hid hda
  have Hdb := Lib.hid hdb
  have Hdc := Lib.hid hdc
  have Hza := Lib.hid hza
  have Hzb := Lib.hid hzb
  have Hzc := Lib.hid hzc
  have HCK := Lib.hid hck0
  have HM := Lib.hid hm
  have HD1 : Hid (m + 1 = dd ∧ -9223372036854775808 ≤ dd ∧ dd ≤ 9223372036854775807) := Lib.hid ⟨hdd, by omega, by omega⟩
  have HD2 : Hid (dd - 1 = m ∧ -9223372036854775808 ≤ m ∧ m ≤ 9223372036854775807) := Lib.hid ⟨by omega, by omega, by omega⟩
  have HZS : Hid (za + zb = zs ∧ -9223372036854775808 ≤ zs ∧ zs ≤ 9223372036854775807) := Lib.hid ⟨hzs, by omega, by omega⟩
  have HZE : Hid ((!decide (zc = zs)) = false) := Lib.hid (by rw [decide_eq_true (by omega)]; rfl)
  have HDE : Hid ((!decide (dc = dd)) = false) := Lib.hid (by rw [decide_eq_true (by omega)]; rfl)
  have HBK : Hid (decide (ck = 0) = bk ∧ decide (m ≤ 60) = bk) := Lib.hid ⟨by
    rw [← hbk, hck]
    by_cases h60 : 1 + max E F ≤ 60
    · rw [if_pos h60, decide_eq_true (show m ≤ 60 by omega)]; rfl
    · rw [if_neg h60, decide_eq_false (show ¬ m ≤ 60 by omega)]; rfl, hbk⟩
  have HFA : Hid (da = E + 1 ∧ 1 ≤ E ∧ E ≤ 301 ∧ za = 1 + ((flatF 1 [e]).length : Int) ∧ (flatF 1 [e]).length ≤ 300) := Lib.hid ⟨a1, hE1, hE2, z1, hn1⟩
  have HE := Lib.hid hE
  clear hda hdb hdc hza hzb hzc hck0 hck hm hdd hzs hbk hE1 hE2 hF1 hF2 hn1 hn2 hnl a1 a2 a3 z1 z2 z3 hE hF
  refine Opg.starts (P := Try.prog) [some 70, some 71, some 72, some 73, some 74, some 75, some 13]
    (fun w => Tri W e f s w ∧ Sum e f r (r + 1) w ∧ Prs [(ba, la), (bb, lb), (bc, lc)] w) (P9 la lb da db m dd) (fun _ _ => false) 7 (by kernel_rfl) (by kernel_rfl) (by kernel_rfl) (by kernel_rfl) (by kernel_rfl) (by kernel_rfl)
    ⟨T9.out.kp (Below.refl _ w9).drew, SM9.out.keep (Below.refl _ w9).drew, PR9.out.keep (Below.refl _ w9).drew⟩ ?_ ?_
  · intro i hi x w hS hx ops' Q' a K hO hA hK
    have hK' : ∀ v w', Below w.heap.size w w' → P9 la lb da db m dd i v w' → K _ w' := fun v w' hb hv => hK v w' ⟨hS.1.kp hb, hS.2.1.keep hb, hS.2.2.keep hb⟩ hv (fun j u _ _ _ h => P9.keep hb h)
    match i, hi with
        | 0, _ => 
          obtain ⟨R, h0, h1⟩ := hS.2.2 (ba, la) (by simp)
          exact Opg.value hO (hK' (pV R) w (Below.refl _ w) h1) (fun o ho => Opi.run_load_prog (y := .tmp 10) ho (Opg.ev0 hA (by kernel_rfl)) h0) (by kernel_rfl)
        | 1, _ => exact Opg.called (c := .value (.func 12)) (ys := #[.tmp 70]) hO (fun o ts ho => Ops.run_call (vs := #[x 0]) ho (Opg.ev1 hA (by kernel_rfl) rfl) (by kernel_rfl)) ((deep_v (hx 0 (by kernel_rfl)) LA.out (by decide) (by decide) da Hda.out).mono fun r w' ⟨hr, hb⟩ => ⟨_, hr, hK' _ w' hb rfl⟩) (by kernel_rfl)
        | 2, _ => 
          obtain ⟨R, h0, h1⟩ := hS.2.2 (bb, lb) (by simp)
          exact Opg.value hO (hK' (pV R) w (Below.refl _ w) h1) (fun o ho => Opi.run_load_prog (y := .tmp 11) ho (Opg.ev0 hA (by kernel_rfl)) h0) (by kernel_rfl)
        | 3, _ => exact Opg.called (c := .value (.func 12)) (ys := #[.tmp 72]) hO (fun o ts ho => Ops.run_call (vs := #[x 2]) ho (Opg.ev1 hA (by kernel_rfl) rfl) (by kernel_rfl)) ((deep_v (hx 2 (by kernel_rfl)) LB.out (by decide) (by decide) db Hdb.out).mono fun r w' ⟨hr, hb⟩ => ⟨_, hr, hK' _ w' hb rfl⟩) (by kernel_rfl)
        | 4, _ => exact Opg.value hO (hK' _ _ (Below.refl _ w) rfl) (fun o ho => Opi.run_max (y := .tmp 71) (z := .tmp 73) ho (Opg.ev hA (by kernel_rfl) (hx 1 (by kernel_rfl))) (Opg.ev hA (by kernel_rfl) (hx 3 (by kernel_rfl))) HM.out) (by kernel_rfl)
        | 5, _ => exact Opg.value hO (hK' _ _ (Below.refl _ w) rfl) (fun o ho => Opi.run_add3 (y := .tmp 74) (z := .const (.int .i64 1)) ho (Opg.ev hA (by kernel_rfl) (hx 4 (by kernel_rfl))) (Opg.ev0 hA (by kernel_rfl)) HD1.out) (by kernel_rfl)
        | 6, _ => exact Opg.value hO (hK' _ _ (Below.refl _ w) rfl) (fun o ho => Ops.run_assign (y := .tmp 75) ho (Opg.ev hA (by kernel_rfl) (hx 5 (by kernel_rfl)))) (by kernel_rfl)
        | n + 7, h => exact absurd h (by omega)
  intro x w10 hS hx
  have e6 : x 6 = .int .i64 dd := hx 6 (by decide) (fun _ _ => rfl)
  simp only [Op.fillD, Act.put, List.setIfInBounds_toArray, List.set_cons_zero, List.set_cons_succ, show x (0 + 1 + 1 + 1 + 1 + 1 + 1) = _ from e6]
  clear e6 hx
  have T10 := Lib.hid hS.1
  have SM10 := Lib.hid hS.2.1
  have PR10 := Lib.hid hS.2.2
  clear hS T9 SM9 PR9
  refine HK9.out _ _ ?_
  clear HK9
  refine wp_seq_k fun K11 hK11 => ?_
  have HK11 := Lib.hid hK11
  clear hK11
  refine wp_seq_k fun K12 hK12 => ?_
  have HK12 := Lib.hid hK12
  clear hK12
  refine Opg.starts (P := Try.prog) [some 76, some 77, some 78, some 79, some 80, some 81, some 82, some 83, some 84, some 85, some 86, some 87, some 88, some 89, some 90, some 91, some 92, some 93, some 94, some 95, some 96, some 97, some 98]
    (fun w => Tri W e f s w ∧ Sum e f r (r + 1) w ∧ Prs [(ba, la), (bb, lb), (bc, lc)] w) (P10 la lb lc (nS r e f).val za zb zc zs dc dd m ck bk) (fun _ _ => false) 23 (by kernel_rfl) (by kernel_rfl) (by kernel_rfl) (by kernel_rfl) (by kernel_rfl) (by kernel_rfl)
    ⟨T10.out.kp (Below.refl _ w10).drew, SM10.out.keep (Below.refl _ w10).drew, PR10.out.keep (Below.refl _ w10).drew⟩ ?_ ?_
  · intro i hi x w hS hx ops' Q' a K hO hA hK
    have hK' : ∀ v w', Below w.heap.size w w' → P10 la lb lc (nS r e f).val za zb zc zs dc dd m ck bk i v w' → K _ w' := fun v w' hb hv => hK v w' ⟨hS.1.kp hb, hS.2.1.keep hb, hS.2.2.keep hb⟩ hv (fun j u _ _ _ h => P10.keep hb h)
    match i, hi with
        | 0, _ => 
          obtain ⟨R, h0, h1⟩ := hS.2.2 (bc, lc) (by simp)
          exact Opg.value hO (hK' (pV R) w (Below.refl _ w) h1) (fun o ho => Opi.run_load_prog (y := .tmp 12) ho (Opg.ev0 hA (by kernel_rfl)) h0) (by kernel_rfl)
        | 1, _ => exact Opg.called (c := .value (.func 11)) (ys := #[.tmp 76]) hO (fun o ts ho => Ops.run_call (vs := #[x 0]) ho (Opg.ev1 hA (by kernel_rfl) rfl) (by kernel_rfl)) ((size_v (hx 0 (by kernel_rfl)) LC.out (by decide) (by decide) zc Hzc.out).mono fun r w' ⟨hr, hb⟩ => ⟨_, hr, hK' _ w' hb rfl⟩) (by kernel_rfl)
        | 2, _ => 
          obtain ⟨R, h0, h1⟩ := hS.2.2 (ba, la) (by simp)
          exact Opg.value hO (hK' (pV R) w (Below.refl _ w) h1) (fun o ho => Opi.run_load_prog (y := .tmp 10) ho (Opg.ev0 hA (by kernel_rfl)) h0) (by kernel_rfl)
        | 3, _ => exact Opg.called (c := .value (.func 11)) (ys := #[.tmp 78]) hO (fun o ts ho => Ops.run_call (vs := #[x 2]) ho (Opg.ev1 hA (by kernel_rfl) rfl) (by kernel_rfl)) ((size_v (hx 2 (by kernel_rfl)) LA.out (by decide) (by decide) za Hza.out).mono fun r w' ⟨hr, hb⟩ => ⟨_, hr, hK' _ w' hb rfl⟩) (by kernel_rfl)
        | 4, _ => 
          obtain ⟨R, h0, h1⟩ := hS.2.2 (bb, lb) (by simp)
          exact Opg.value hO (hK' (pV R) w (Below.refl _ w) h1) (fun o ho => Opi.run_load_prog (y := .tmp 11) ho (Opg.ev0 hA (by kernel_rfl)) h0) (by kernel_rfl)
        | 5, _ => exact Opg.called (c := .value (.func 11)) (ys := #[.tmp 80]) hO (fun o ts ho => Ops.run_call (vs := #[x 4]) ho (Opg.ev1 hA (by kernel_rfl) rfl) (by kernel_rfl)) ((size_v (hx 4 (by kernel_rfl)) LB.out (by decide) (by decide) zb Hzb.out).mono fun r w' ⟨hr, hb⟩ => ⟨_, hr, hK' _ w' hb rfl⟩) (by kernel_rfl)
        | 6, _ => exact Opg.value hO (hK' _ _ (Below.refl _ w) rfl) (fun o ho => Opi.run_add3 (y := .tmp 79) (z := .tmp 81) ho (Opg.ev hA (by kernel_rfl) (hx 3 (by kernel_rfl))) (Opg.ev hA (by kernel_rfl) (hx 5 (by kernel_rfl))) HZS.out) (by kernel_rfl)
        | 7, _ => exact Opg.value hO (hK' _ _ (Below.refl _ w) rfl) (fun o ho => Opi.run_neq3 (y := .tmp 77) (z := .tmp 82) ho (Opg.ev hA (by kernel_rfl) (hx 1 (by kernel_rfl))) (Opg.ev hA (by kernel_rfl) (hx 6 (by kernel_rfl))) HZE.out) (by kernel_rfl)
        | 8, _ => exact Opg.value hO (hK' _ _ (Below.refl _ w) rfl) (fun o ho => Ops.run_move (y := .tmp 83) ho (Opg.ev hA (by kernel_rfl) (hx 7 (by kernel_rfl)))) (by kernel_rfl)
        | 9, _ => 
          obtain ⟨R, h0, h1⟩ := hS.2.2 (bc, lc) (by simp)
          exact Opg.valueG hO (g := 8) (t := 84) (b := false) (Opg.ev hA (by kernel_rfl) (hx 8 (by kernel_rfl))) (hK' (pV R) w (Below.refl _ w) h1) (fun o ho => Opi.run_load_prog (y := .tmp 12) ho (Opg.ev0 hA (by kernel_rfl)) h0) (by kernel_rfl) (by kernel_rfl)
        | 10, _ => exact Opg.calledG (c := .value (.func 12)) (ys := #[.tmp 85]) hO (g := 8) (t := 84) (b := false) (Opg.ev hA (by kernel_rfl) (hx 8 (by kernel_rfl))) (fun o ts ho => Ops.run_call (vs := #[x 9]) ho (Opg.ev1 hA (by kernel_rfl) rfl) (by kernel_rfl)) ((deep_v (hx 9 (by kernel_rfl)) LC.out (by decide) (by decide) dc Hdc.out).mono fun r w' ⟨hr, hb⟩ => ⟨_, hr, hK' _ w' hb rfl⟩) (by kernel_rfl) (by kernel_rfl)
        | 11, _ => exact Opg.valueG hO (g := 8) (t := 84) (b := false) (Opg.ev hA (by kernel_rfl) (hx 8 (by kernel_rfl))) (hK' _ _ (Below.refl _ w) rfl) (fun o ho => Ops.run_move (y := .tmp 13) ho (Opg.ev0 hA (by kernel_rfl))) (by kernel_rfl) (by kernel_rfl)
        | 12, _ => exact Opg.valueG hO (g := 8) (t := 84) (b := false) (Opg.ev hA (by kernel_rfl) (hx 8 (by kernel_rfl))) (hK' _ _ (Below.refl _ w) rfl) (fun o ho => Opi.run_neq3 (y := .tmp 86) (z := .tmp 87) ho (Opg.ev hA (by kernel_rfl) (hx 10 (by kernel_rfl))) (Opg.ev hA (by kernel_rfl) (hx 11 (by kernel_rfl))) HDE.out) (by kernel_rfl) (by kernel_rfl)
        | 13, _ => exact Opg.value hO (hK' _ _ (Below.refl _ w) rfl) (fun o ho => Opg.run_pickF (c := .tmp 84) (y := .const (.bool true)) (z := .tmp 88) ho (Opg.ev hA (by kernel_rfl) (hx 8 (by kernel_rfl))) (Opg.ev hA (by kernel_rfl) (hx 12 (by kernel_rfl)))) (by kernel_rfl)
        | 14, _ => exact Opg.value hO (hK' _ _ (Below.refl _ w) rfl) (fun o ho => Ops.run_move (y := .tmp 89) ho (Opg.ev hA (by kernel_rfl) (hx 13 (by kernel_rfl)))) (by kernel_rfl)
        | 15, _ => exact Opg.valueG hO (g := 14) (t := 90) (b := false) (Opg.ev hA (by kernel_rfl) (hx 14 (by kernel_rfl))) (hK' _ _ (Below.refl _ w) rfl) (fun o ho => Ops.run_load_expr (y := .tmp 7) ho (Opg.ev0 hA (by kernel_rfl)) hS.2.1.1) (by kernel_rfl) (by kernel_rfl)
        | 16, _ => exact Opg.calledG (c := .value (.func 26)) (ys := #[.tmp 91]) hO (g := 14) (t := 90) (b := false) (Opg.ev hA (by kernel_rfl) (hx 14 (by kernel_rfl))) (fun o ts ho => Ops.run_call (vs := #[(nS r e f).val]) ho (Opg.ev1 hA (by kernel_rfl) (hx 15 (by kernel_rfl))) (by kernel_rfl)) ((check_nS (HU.out w hS.1) (S1.out w hS.1) (S2.out w hS.1) hS.1.below.size hS.2.1.2 ck HCK.out).mono fun r w' ⟨hr, hb⟩ => ⟨_, hr, hK' _ w' hb rfl⟩) (by kernel_rfl) (by kernel_rfl)
        | 17, _ => exact Opg.valueG hO (g := 14) (t := 90) (b := false) (Opg.ev hA (by kernel_rfl) (hx 14 (by kernel_rfl))) (hK' _ _ (Below.refl _ w) rfl) (fun o ho => Opi.run_eqlE (y := .tmp 92) (z := .const (.int .i64 0)) ho (Opg.ev hA (by kernel_rfl) (hx 16 (by kernel_rfl))) (Opg.ev0 hA (by kernel_rfl)) HBK.out.1) (by kernel_rfl) (by kernel_rfl)
        | 18, _ => exact Opg.valueG hO (g := 14) (t := 90) (b := false) (Opg.ev hA (by kernel_rfl) (hx 14 (by kernel_rfl))) (hK' _ _ (Below.refl _ w) rfl) (fun o ho => Ops.run_move (y := .tmp 13) ho (Opg.ev0 hA (by kernel_rfl))) (by kernel_rfl) (by kernel_rfl)
        | 19, _ => exact Opg.valueG hO (g := 14) (t := 90) (b := false) (Opg.ev hA (by kernel_rfl) (hx 14 (by kernel_rfl))) (hK' _ _ (Below.refl _ w) rfl) (fun o ho => Opi.run_sub3 (y := .tmp 94) (z := .const (.int .i64 1)) ho (Opg.ev hA (by kernel_rfl) (hx 18 (by kernel_rfl))) (Opg.ev0 hA (by kernel_rfl)) HD2.out) (by kernel_rfl) (by kernel_rfl)
        | 20, _ => exact Opg.valueG hO (g := 14) (t := 90) (b := false) (Opg.ev hA (by kernel_rfl) (hx 14 (by kernel_rfl))) (hK' _ _ (Below.refl _ w) rfl) (fun o ho => Opi.run_leq3 (y := .tmp 95) (z := .const (.int .i64 60)) ho (Opg.ev hA (by kernel_rfl) (hx 19 (by kernel_rfl))) (Opg.ev0 hA (by kernel_rfl)) HBK.out.2) (by kernel_rfl) (by kernel_rfl)
        | 21, _ => exact Opg.valueG hO (g := 14) (t := 90) (b := false) (Opg.ev hA (by kernel_rfl) (hx 14 (by kernel_rfl))) (hK' _ _ (Below.refl _ w) rfl) (fun o ho => Opi.run_neq4 (y := .tmp 93) (z := .tmp 96) ho (Opg.ev hA (by kernel_rfl) (hx 17 (by kernel_rfl))) (Opg.ev hA (by kernel_rfl) (hx 20 (by kernel_rfl))) (by simp)) (by kernel_rfl) (by kernel_rfl)
        | 22, _ => exact Opg.value hO (hK' _ _ (Below.refl _ w) rfl) (fun o ho => Opg.run_pickF (c := .tmp 90) (y := .const (.bool true)) (z := .tmp 97) ho (Opg.ev hA (by kernel_rfl) (hx 14 (by kernel_rfl))) (Opg.ev hA (by kernel_rfl) (hx 21 (by kernel_rfl)))) (by kernel_rfl)
        | n + 23, h => exact absurd h (by omega)
  intro x w11 hS hx
  have e22 : x 22 = .bool false := hx 22 (by decide) (fun _ _ => rfl)
  simp only [Op.fillD, Act.put, List.setIfInBounds_toArray, List.set_cons_zero, List.set_cons_succ, show x (0 + 1 + 1 + 1 + 1 + 1 + 1 + 1 + 1 + 1 + 1 + 1 + 1 + 1 + 1 + 1 + 1 + 1 + 1 + 1 + 1 + 1 + 1) = _ from e22]
  clear e22 hx
  have T11 := Lib.hid hS.1
  have PR11 := Lib.hid hS.2.2
  clear hS T10 SM10 PR10 LB LC
  refine HK12.out _ _ ?_
  clear HK12
  go_wp2
  refine HK11.out _ _ ?_
  clear HK11
  obtain ⟨x0, x1, x2, x3, x4, x5, x6, x7, x8, x9⟩ := cells_ofS T11.out.s
  have BA := (Below.refl w11.heap.size w11).alloc (Nat.le_refl _) (oS s)
  have TA := Lib.hid (T11.out.kp BA)
  have PA := Lib.hid (PR11.out.keep BA)
  have GA := Lib.hid (World.alloc_heap_new w11 (oS s))
  go_wp2_with (refine (show Calls _ _ #[.slice (some ⟨w11.heap.size, 0, none⟩) 1 1] _ _ from prog_any (some ⟨w11.heap.size, 0, none⟩) 1 1 (w11.alloc (oS s))).mono ?_)
  rintro rr w12 ⟨rfl, b12, g12⟩
  have T12 := Lib.hid (TA.out.kp b12)
  have PX : Hid (PrV [s] (pV ((w11.alloc (oS s)).heap.size + 1)) w12) := Lib.hid ⟨_, _, _, rfl, g12, ⟨Nat.le_refl _, show (1 : Nat) ≤ 9223372036854775807 by decide⟩, row_S (N := W.heap.size) (HS.out _ T12.out) T12.out.below.size (Nat.lt_of_lt_of_le (by simp) b12.size) ((b12.block w11.heap.size (by simp)).trans GA.out)⟩
  have P12 := Lib.hid (PA.out.keep b12)
  clear b12 g12 TA PA GA BA T11 PR11 x0 x1 x2 x3 x4 x5 x6 x7 x8 x9
  generalize (w11.alloc (oS s)).heap.size + 1 = R1 at *
  obtain ⟨x0, x1, x2, x3, x4, x5, x6, x7, x8, x9⟩ := cells_ofS T12.out.s
  obtain ⟨y0, y1, y2, y3, y4, y5⟩ := cells_ofE T12.out.e
  have q00 : W.heap.size < w12.heap.size := by have := T12.out.le; omega
  have q10 : W.heap.size + 1 < w12.heap.size := by have := T12.out.le; omega
  have q20 : W.heap.size + 1 + 1 < w12.heap.size := by have := T12.out.le; omega
  have q01 : W.heap.size < w12.heap.size + 1 := by have := T12.out.le; omega
  have q02 : W.heap.size < w12.heap.size + 1 + 1 := by have := T12.out.le; omega
  have q03 : W.heap.size < w12.heap.size + 1 + 1 + 1 := by have := T12.out.le; omega
  have q04 : W.heap.size < w12.heap.size + 1 + 1 + 1 + 1 := by have := T12.out.le; omega
  unfold pV
  have B1 := (Below.refl w12.heap.size w12).alloc (Nat.le_refl _) (oP R1)
  have B2 := B1.alloc (by simp) (oE e)
  have B3 := B2.alloc (by simp; omega) (oS s)
  have B4 := B3.alloc (by simp; omega) (oS2 s s)
  have B5 := B4.alloc (by simp; omega) (oS (sF (w12.heap.size + 1) (w12.heap.size + 1 + 1) (w12.heap.size + 1 + 1 + 1) e s))
  have TA := Lib.hid (T12.out.kp B5)
  have PA := Lib.hid (P12.out.keep B5)
  have XA := Lib.hid (PX.out.keep B5)
  have GA := Lib.hid (rows5 w12 (oP R1) (oE e) (oS s) (oS2 s s) (oS (sF (w12.heap.size + 1) (w12.heap.size + 1 + 1) (w12.heap.size + 1 + 1 + 1) e s)))
  go_wp2_with (refine (show Calls _ _ #[.slice (some ⟨w12.heap.size + 1 + 1 + 1 + 1, 0, none⟩) 1 1] _ _ from prog_any (some ⟨w12.heap.size + 1 + 1 + 1 + 1, 0, none⟩) 1 1 (((((w12.alloc (oP R1)).alloc (oE e)).alloc (oS s)).alloc (oS2 s s)).alloc (oS (sF (w12.heap.size + 1) (w12.heap.size + 1 + 1) (w12.heap.size + 1 + 1 + 1) e s)))).mono ?_)
  rintro rr w13 ⟨rfl, b13, g13⟩
  have T13 := Lib.hid (TA.out.kp b13)
  have hsz : w12.heap.size + 1 + 1 + 1 + 1 + 1 ≤ w13.heap.size := by have := b13.size; simpa using this
  have row : ∀ j o, w12.heap.size + j < w12.heap.size + 5 → (((((w12.alloc (oP R1)).alloc (oE e)).alloc (oS s)).alloc (oS2 s s)).alloc (oS (sF (w12.heap.size + 1) (w12.heap.size + 1 + 1) (w12.heap.size + 1 + 1 + 1) e s))).heap[w12.heap.size + j]? = some o → w13.heap[w12.heap.size + j]? = some o := fun j o hj h => (b13.block _ (by simp; omega)).trans h
  have g0 := row 0 _ (by omega) GA.out.1
  have g1 := row 1 _ (by omega) GA.out.2.1
  have g2 := row 2 _ (by omega) GA.out.2.2.1
  have g3 := row 3 _ (by omega) GA.out.2.2.2.1
  have g4 := row 4 _ (by omega) GA.out.2.2.2.2
  have hd1 : Nds w13 w13.heap.size (some ⟨w12.heap.size + 1, 0, none⟩) [e] := row_1 (S1.out w13 T13.out).kids (S1.out w13 T13.out).cap T13.out.below.size (by omega) g1
  have hd2 := row_S (N := W.heap.size) (N' := w13.heap.size) (HS.out _ T13.out) T13.out.below.size (by omega) g2
  have hd3 := row_SS (N := W.heap.size) (N' := w13.heap.size) (HS.out _ T13.out) T13.out.below.size (by omega) g3
  have PY : Hid (PrV [sF (w12.heap.size + 1) (w12.heap.size + 1 + 1) (w12.heap.size + 1 + 1 + 1) e s] (pV ((((((w12.alloc (oP R1)).alloc (oE e)).alloc (oS s)).alloc (oS2 s s)).alloc (oS (sF (w12.heap.size + 1) (w12.heap.size + 1 + 1) (w12.heap.size + 1 + 1 + 1) e s))).heap.size + 1)) w13) := Lib.hid ⟨_, _, _, rfl, g13, ⟨Nat.le_refl _, show (1 : Nat) ≤ 9223372036854775807 by decide⟩, row_S (N := w13.heap.size) (inS_sF hd1 hd2 hd3) (Nat.le_refl _) (by omega) g4⟩
  have P13 := Lib.hid (PA.out.keep b13)
  have X13 : Hid (PrL [s] w12.heap.size w13) := Lib.hid ⟨R1, g0, XA.out.keep b13⟩
  clear b13 g13 TA PA XA GA B1 B2 B3 B4 B5 T12 P12 PX row g0 g1 g2 g3 g4 hd1 hd2 hd3 x0 x1 x2 x3 x4 x5 x6 x7 x8 x9 y0 y1 y2 y3 y4 y5 q00 q10 q20 q01 q02 q03 q04 hsz
  generalize (((((w12.alloc (oP R1)).alloc (oE e)).alloc (oS s)).alloc (oS2 s s)).alloc (oS (sF (w12.heap.size + 1) (w12.heap.size + 1 + 1) (w12.heap.size + 1 + 1 + 1) e s))).heap.size + 1 = R2 at *
  have LY := Lib.hid (sF_lit (S1.out w13 T13.out) HLT.out (w12.heap.size + 1) (w12.heap.size + 1 + 1) (w12.heap.size + 1 + 1 + 1))
  have sy := sF_sz (w12.heap.size + 1) (w12.heap.size + 1 + 1) (w12.heap.size + 1 + 1 + 1) e s
  have uy := sF_dp (w12.heap.size + 1) (w12.heap.size + 1 + 1) (w12.heap.size + 1 + 1 + 1) e s
  generalize [sF (w12.heap.size + 1) (w12.heap.size + 1 + 1) (w12.heap.size + 1 + 1 + 1) e s] = ly at *
  generalize w12.heap.size = bX at *
  have SY := Lib.hid sy
  have UY := Lib.hid uy
  clear sy uy
  obtain ⟨x0, x1, x2, x3, x4, x5, x6, x7, x8, x9⟩ := cells_ofS T13.out.s
  have q00 : W.heap.size < w13.heap.size := by have := T13.out.le; omega
  have q10 : W.heap.size + 1 < w13.heap.size := by have := T13.out.le; omega
  have q20 : W.heap.size + 1 + 1 < w13.heap.size := by have := T13.out.le; omega
  have q01 : W.heap.size < w13.heap.size + 1 := by have := T13.out.le; omega
  have q02 : W.heap.size < w13.heap.size + 1 + 1 := by have := T13.out.le; omega
  have q03 : W.heap.size < w13.heap.size + 1 + 1 + 1 := by have := T13.out.le; omega
  have q04 : W.heap.size < w13.heap.size + 1 + 1 + 1 + 1 := by have := T13.out.le; omega
  have B1 := (Below.refl w13.heap.size w13).alloc (Nat.le_refl _) (oP R2)
  have B2 := B1.alloc (by simp) (oS2 s s)
  have TA := Lib.hid (T13.out.kp B2)
  have PA := Lib.hid (P13.out.keep B2)
  have XA := Lib.hid (X13.out.keep B2)
  have YA := Lib.hid (PY.out.keep B2)
  have GA := Lib.hid (And.intro (rowT_0 w13 (oP R2) (oS2 s s)) (row2_1 w13 (oP R2) (oS2 s s)))
  unfold pV
  go_wp2_with (refine (show Calls _ _ #[.slice (some ⟨w13.heap.size + 1, 0, none⟩) 2 2] _ _ from prog_any (some ⟨w13.heap.size + 1, 0, none⟩) 2 2 ((w13.alloc (oP R2)).alloc (oS2 s s))).mono ?_)
  rintro rr w14 ⟨rfl, b14, g14⟩
  have T14 := Lib.hid (TA.out.kp b14)
  have g0 := (b14.block w13.heap.size (by simp; omega)).trans GA.out.1
  have g1 := (b14.block (w13.heap.size + 1) (by simp)).trans GA.out.2
  have PZ : Hid (PrV [s, s] (pV (((w13.alloc (oP R2)).alloc (oS2 s s)).heap.size + 1)) w14) := Lib.hid ⟨_, _, _, rfl, g14, ⟨Nat.le_refl _, show (2 : Nat) ≤ 9223372036854775807 by decide⟩, row_SS (N := W.heap.size) (HS.out _ T14.out) T14.out.below.size (Nat.lt_of_lt_of_le (by simp) b14.size) g1⟩
  have P14 := Lib.hid (PA.out.keep b14)
  have X14 := Lib.hid (XA.out.keep b14)
  have Y14 : Hid (PrL ly w13.heap.size w14) := Lib.hid ⟨R2, g0, YA.out.keep b14⟩
  clear b14 g14 TA PA XA YA GA B1 B2 T13 P13 X13 PY g0 g1 x0 x1 x2 x3 x4 x5 x6 x7 x8 x9 q00 q10 q20 q01 q02 q03 q04
  generalize ((w13.alloc (oP R2)).alloc (oS2 s s)).heap.size + 1 = R3 at *
  generalize w13.heap.size = bY at *
  unfold pV
  go_wp2
  rename_i K15 hK15
  have HK15 := Lib.hid hK15
  clear hK15
  generalize hww : World.alloc w14 _ = w15
  have hw' : w14.alloc (oP R3) = w15 := hww
  have BZ : Below w14.heap.size w14 w15 := by rw [← hw']; exact (Below.refl _ w14).alloc (Nat.le_refl _) _
  have hZ : w15.heap[w14.heap.size]? = some (oP R3) := by rw [← hw']; exact World.alloc_heap_new w14 _
  have BB := Lib.hid (T14.out.below.trans (BZ.mono T14.out.below.size))
  have PRS : Hid (Prs [(ba, la), (bX, [s]), (bY, ly), (w14.heap.size, [s, s])] w15) := Lib.hid (by
    intro p hp
    simp only [List.mem_cons, List.not_mem_nil, or_false] at hp
    rcases hp with rfl | rfl | rfl | rfl
    · exact (P14.out (ba, la) (by simp)).keep BZ
    · exact X14.out.keep BZ
    · exact Y14.out.keep BZ
    · exact ⟨R3, hZ, PZ.out.keep BZ⟩)
  clear hww hw' BZ hZ T14 P14 X14 Y14 PZ
  generalize w14.heap.size = bZ at *
  have LZ : Hid (LitS 300 (300 + 300) [s, s]) := Lib.hid (HLT.out.app HLT.out)
  have f1 := HFA.out
  have f2 := SY.out
  have f3 := UY.out
  have f4 := two_sz s
  have f5 := two_dp s
  have f6 : sz [s] ≤ 300 := by have := HLT.out.few 1; show (((partsL (flatS 1 [s])).length : Nat) : Int) ≤ 300; omega
  have f7 : 0 ≤ sz [s] := Int.natCast_nonneg _
  have f8 : dp [s] ≤ 3000 := HLT.out.dp (by decide)
  have f9 : 0 ≤ dp [s] := maxD_nn _
  rw [HE.out] at f3
  generalize [s, s] = lz at *
  generalize [s] = lx at *
  obtain ⟨zx, hzx⟩ : ∃ z, sz lx = z := ⟨_, rfl⟩
  obtain ⟨zy, hzy⟩ : ∃ z, sz ly = z := ⟨_, rfl⟩
  obtain ⟨zz, hzz⟩ : ∃ z, sz lz = z := ⟨_, rfl⟩
  obtain ⟨dx, hdx⟩ : ∃ z, dp lx = z := ⟨_, rfl⟩
  obtain ⟨dy, hdy⟩ : ∃ z, dp ly = z := ⟨_, rfl⟩
  obtain ⟨dz, hdz⟩ : ∃ z, dp lz = z := ⟨_, rfl⟩
  rw [hzx] at f2 f4 f6 f7
  rw [hzy] at f2
  rw [hzz] at f4
  rw [hdx] at f3 f5 f8 f9
  rw [hdy] at f3
  rw [hdz] at f5
  obtain ⟨z3, hz3⟩ : ∃ z, 3 * zx = z := ⟨_, rfl⟩
  obtain ⟨zt, hzt⟩ : ∃ z, z3 + za = z := ⟨_, rfl⟩
  obtain ⟨z2, hz2⟩ : ∃ z, 2 * zx = z := ⟨_, rfl⟩
  obtain ⟨d1, hd1⟩ : ∃ z, da - 1 = z := ⟨_, rfl⟩
  obtain ⟨dm, hdm⟩ : ∃ z, max dx d1 = z := ⟨_, rfl⟩
  obtain ⟨dn, hdn⟩ : ∃ z, 1 + dm = z := ⟨_, rfl⟩
  have Hzx := Lib.hid hzx
  have Hzy := Lib.hid hzy
  have Hzz := Lib.hid hzz
  have Hdx := Lib.hid hdx
  have Hdy := Lib.hid hdy
  have Hdz := Lib.hid hdz
  have HDM := Lib.hid hdm
  have HZ3 : Hid (3 * zx = z3 ∧ -9223372036854775808 ≤ z3 ∧ z3 ≤ 9223372036854775807) := Lib.hid ⟨hz3, by omega, by omega⟩
  have HZT : Hid (z3 + za = zt ∧ -9223372036854775808 ≤ zt ∧ zt ≤ 9223372036854775807) := Lib.hid ⟨hzt, by omega, by omega⟩
  have HZ2 : Hid (2 * zx = z2 ∧ -9223372036854775808 ≤ z2 ∧ z2 ≤ 9223372036854775807) := Lib.hid ⟨hz2, by omega, by omega⟩
  have HD3 : Hid (da - 1 = d1 ∧ -9223372036854775808 ≤ d1 ∧ d1 ≤ 9223372036854775807) := Lib.hid ⟨hd1, by omega, by omega⟩
  have HDN : Hid (1 + dm = dn ∧ -9223372036854775808 ≤ dn ∧ dn ≤ 9223372036854775807) := Lib.hid ⟨hdn, by omega, by omega⟩
  have HE1 : Hid (decide (zy = zt) = true) := Lib.hid (decide_eq_true (by omega))
  have HE2 : Hid (decide (dy = dn) = true) := Lib.hid (decide_eq_true (by omega))
  have HE3 : Hid (decide (zz = z2) = true) := Lib.hid (decide_eq_true (by omega))
  have HE4 : Hid (decide (dz = dx) = true) := Lib.hid (decide_eq_true (by omega))
  have LX := HLT
  clear hzx hzy hzz hdx hdy hdz hdm hz3 hzt hz2 hd1 hdn f1 f2 f3 f4 f5 f6 f7 f8 f9 HFA SY UY HE
  refine Opg.starts (P := Try.prog) [some 119, some 120, some 121, some 122, some 123, some 124, some 125, some 126, some 127, some 128, some 129, some 130, some 131, some 132, some 133, some 134, some 135, some 136, some 137, some 138, some 139, some 140, some 141, some 142, some 143, some 144, some 145, some 146, some 147, some 148, some 149, some 150, some 151, some 152, some 153, some 154, some 6]
    (fun w => Below W.heap.size W w ∧ Prs [(ba, la), (bX, lx), (bY, ly), (bZ, lz)] w) (P15 la lx ly lz za zx zy zz z3 zt z2 da dx dy dz d1 dm dn) (fun _ _ => false) 37 (by kernel_rfl) (by kernel_rfl) (by kernel_rfl) (by kernel_rfl) (by kernel_rfl) (by kernel_rfl)
    ⟨BB.out.trans (((Below.refl w15.heap.size w15).drew).mono BB.out.size), PRS.out.keep (Below.refl _ w15).drew⟩ ?_ ?_
  · intro i hi x w hS hx ops' Q' a K hO hA hK
    have hK' : ∀ v w', Below w.heap.size w w' → P15 la lx ly lz za zx zy zz z3 zt z2 da dx dy dz d1 dm dn i v w' → K _ w' := fun v w' hb hv => hK v w' ⟨hS.1.trans (hb.mono hS.1.size), hS.2.keep hb⟩ hv (fun j u _ _ _ h => P15.keep hb h)
    match i, hi with
        | 0, _ => 
          obtain ⟨R, h0, h1⟩ := hS.2 (bY, ly) (by simp)
          exact Opg.value hO (hK' (pV R) w (Below.refl _ w) h1) (fun o ho => Opi.run_load_prog (y := .tmp 15) ho (Opg.ev0 hA (by kernel_rfl)) h0) (by kernel_rfl)
        | 1, _ => exact Opg.called (c := .value (.func 11)) (ys := #[.tmp 119]) hO (fun o ts ho => Ops.run_call (vs := #[x 0]) ho (Opg.ev1 hA (by kernel_rfl) rfl) (by kernel_rfl)) ((size_v (hx 0 (by kernel_rfl)) LY.out (by decide) (by decide) zy Hzy.out).mono fun r w' ⟨hr, hb⟩ => ⟨_, hr, hK' _ w' hb rfl⟩) (by kernel_rfl)
        | 2, _ => 
          obtain ⟨R, h0, h1⟩ := hS.2 (bX, lx) (by simp)
          exact Opg.value hO (hK' (pV R) w (Below.refl _ w) h1) (fun o ho => Opi.run_load_prog (y := .tmp 14) ho (Opg.ev0 hA (by kernel_rfl)) h0) (by kernel_rfl)
        | 3, _ => exact Opg.called (c := .value (.func 11)) (ys := #[.tmp 121]) hO (fun o ts ho => Ops.run_call (vs := #[x 2]) ho (Opg.ev1 hA (by kernel_rfl) rfl) (by kernel_rfl)) ((size_v (hx 2 (by kernel_rfl)) LX.out (by decide) (by decide) zx Hzx.out).mono fun r w' ⟨hr, hb⟩ => ⟨_, hr, hK' _ w' hb rfl⟩) (by kernel_rfl)
        | 4, _ => exact Opg.value hO (hK' _ _ (Below.refl _ w) rfl) (fun o ho => Opi.run_mul3 (y := .const (.int .i64 3)) (z := .tmp 122) ho (Opg.ev0 hA (by kernel_rfl)) (Opg.ev hA (by kernel_rfl) (hx 3 (by kernel_rfl))) HZ3.out) (by kernel_rfl)
        | 5, _ => 
          obtain ⟨R, h0, h1⟩ := hS.2 (ba, la) (by simp)
          exact Opg.value hO (hK' (pV R) w (Below.refl _ w) h1) (fun o ho => Opi.run_load_prog (y := .tmp 10) ho (Opg.ev0 hA (by kernel_rfl)) h0) (by kernel_rfl)
        | 6, _ => exact Opg.called (c := .value (.func 11)) (ys := #[.tmp 124]) hO (fun o ts ho => Ops.run_call (vs := #[x 5]) ho (Opg.ev1 hA (by kernel_rfl) rfl) (by kernel_rfl)) ((size_v (hx 5 (by kernel_rfl)) LA.out (by decide) (by decide) za Hza.out).mono fun r w' ⟨hr, hb⟩ => ⟨_, hr, hK' _ w' hb rfl⟩) (by kernel_rfl)
        | 7, _ => exact Opg.value hO (hK' _ _ (Below.refl _ w) rfl) (fun o ho => Opi.run_add3 (y := .tmp 123) (z := .tmp 125) ho (Opg.ev hA (by kernel_rfl) (hx 4 (by kernel_rfl))) (Opg.ev hA (by kernel_rfl) (hx 6 (by kernel_rfl))) HZT.out) (by kernel_rfl)
        | 8, _ => exact Opg.value hO (hK' _ _ (Below.refl _ w) rfl) (fun o ho => Opi.run_eql3 (y := .tmp 120) (z := .tmp 126) ho (Opg.ev hA (by kernel_rfl) (hx 1 (by kernel_rfl))) (Opg.ev hA (by kernel_rfl) (hx 7 (by kernel_rfl))) HE1.out) (by kernel_rfl)
        | 9, _ => exact Opg.value hO (hK' _ _ (Below.refl _ w) rfl) (fun o ho => Ops.run_move (y := .tmp 127) ho (Opg.ev hA (by kernel_rfl) (hx 8 (by kernel_rfl)))) (by kernel_rfl)
        | 10, _ => 
          obtain ⟨R, h0, h1⟩ := hS.2 (bY, ly) (by simp)
          exact Opg.valueG hO (g := 9) (t := 128) (b := true) (Opg.ev hA (by kernel_rfl) (hx 9 (by kernel_rfl))) (hK' (pV R) w (Below.refl _ w) h1) (fun o ho => Opi.run_load_prog (y := .tmp 15) ho (Opg.ev0 hA (by kernel_rfl)) h0) (by kernel_rfl) (by kernel_rfl)
        | 11, _ => exact Opg.calledG (c := .value (.func 12)) (ys := #[.tmp 129]) hO (g := 9) (t := 128) (b := true) (Opg.ev hA (by kernel_rfl) (hx 9 (by kernel_rfl))) (fun o ts ho => Ops.run_call (vs := #[x 10]) ho (Opg.ev1 hA (by kernel_rfl) rfl) (by kernel_rfl)) ((deep_v (hx 10 (by kernel_rfl)) LY.out (by decide) (by decide) dy Hdy.out).mono fun r w' ⟨hr, hb⟩ => ⟨_, hr, hK' _ w' hb rfl⟩) (by kernel_rfl) (by kernel_rfl)
        | 12, _ => 
          obtain ⟨R, h0, h1⟩ := hS.2 (bX, lx) (by simp)
          exact Opg.valueG hO (g := 9) (t := 128) (b := true) (Opg.ev hA (by kernel_rfl) (hx 9 (by kernel_rfl))) (hK' (pV R) w (Below.refl _ w) h1) (fun o ho => Opi.run_load_prog (y := .tmp 14) ho (Opg.ev0 hA (by kernel_rfl)) h0) (by kernel_rfl) (by kernel_rfl)
        | 13, _ => exact Opg.calledG (c := .value (.func 12)) (ys := #[.tmp 131]) hO (g := 9) (t := 128) (b := true) (Opg.ev hA (by kernel_rfl) (hx 9 (by kernel_rfl))) (fun o ts ho => Ops.run_call (vs := #[x 12]) ho (Opg.ev1 hA (by kernel_rfl) rfl) (by kernel_rfl)) ((deep_v (hx 12 (by kernel_rfl)) LX.out (by decide) (by decide) dx Hdx.out).mono fun r w' ⟨hr, hb⟩ => ⟨_, hr, hK' _ w' hb rfl⟩) (by kernel_rfl) (by kernel_rfl)
        | 14, _ => 
          obtain ⟨R, h0, h1⟩ := hS.2 (ba, la) (by simp)
          exact Opg.valueG hO (g := 9) (t := 128) (b := true) (Opg.ev hA (by kernel_rfl) (hx 9 (by kernel_rfl))) (hK' (pV R) w (Below.refl _ w) h1) (fun o ho => Opi.run_load_prog (y := .tmp 10) ho (Opg.ev0 hA (by kernel_rfl)) h0) (by kernel_rfl) (by kernel_rfl)
        | 15, _ => exact Opg.calledG (c := .value (.func 12)) (ys := #[.tmp 133]) hO (g := 9) (t := 128) (b := true) (Opg.ev hA (by kernel_rfl) (hx 9 (by kernel_rfl))) (fun o ts ho => Ops.run_call (vs := #[x 14]) ho (Opg.ev1 hA (by kernel_rfl) rfl) (by kernel_rfl)) ((deep_v (hx 14 (by kernel_rfl)) LA.out (by decide) (by decide) da Hda.out).mono fun r w' ⟨hr, hb⟩ => ⟨_, hr, hK' _ w' hb rfl⟩) (by kernel_rfl) (by kernel_rfl)
        | 16, _ => exact Opg.valueG hO (g := 9) (t := 128) (b := true) (Opg.ev hA (by kernel_rfl) (hx 9 (by kernel_rfl))) (hK' _ _ (Below.refl _ w) rfl) (fun o ho => Opi.run_sub3 (y := .tmp 134) (z := .const (.int .i64 1)) ho (Opg.ev hA (by kernel_rfl) (hx 15 (by kernel_rfl))) (Opg.ev0 hA (by kernel_rfl)) HD3.out) (by kernel_rfl) (by kernel_rfl)
        | 17, _ => exact Opg.valueG hO (g := 9) (t := 128) (b := true) (Opg.ev hA (by kernel_rfl) (hx 9 (by kernel_rfl))) (hK' _ _ (Below.refl _ w) rfl) (fun o ho => Opi.run_max (y := .tmp 132) (z := .tmp 135) ho (Opg.ev hA (by kernel_rfl) (hx 13 (by kernel_rfl))) (Opg.ev hA (by kernel_rfl) (hx 16 (by kernel_rfl))) HDM.out) (by kernel_rfl) (by kernel_rfl)
        | 18, _ => exact Opg.valueG hO (g := 9) (t := 128) (b := true) (Opg.ev hA (by kernel_rfl) (hx 9 (by kernel_rfl))) (hK' _ _ (Below.refl _ w) rfl) (fun o ho => Opi.run_add3 (y := .const (.int .i64 1)) (z := .tmp 136) ho (Opg.ev0 hA (by kernel_rfl)) (Opg.ev hA (by kernel_rfl) (hx 17 (by kernel_rfl))) HDN.out) (by kernel_rfl) (by kernel_rfl)
        | 19, _ => exact Opg.valueG hO (g := 9) (t := 128) (b := true) (Opg.ev hA (by kernel_rfl) (hx 9 (by kernel_rfl))) (hK' _ _ (Below.refl _ w) rfl) (fun o ho => Opi.run_eql3 (y := .tmp 130) (z := .tmp 137) ho (Opg.ev hA (by kernel_rfl) (hx 11 (by kernel_rfl))) (Opg.ev hA (by kernel_rfl) (hx 18 (by kernel_rfl))) HE2.out) (by kernel_rfl) (by kernel_rfl)
        | 20, _ => exact Opg.value hO (hK' _ _ (Below.refl _ w) rfl) (fun o ho => Opg.run_pickT (c := .tmp 128) (y := .tmp 138) (z := .const (.bool false)) ho (Opg.ev hA (by kernel_rfl) (hx 9 (by kernel_rfl))) (Opg.ev hA (by kernel_rfl) (hx 19 (by kernel_rfl)))) (by kernel_rfl)
        | 21, _ => exact Opg.value hO (hK' _ _ (Below.refl _ w) rfl) (fun o ho => Ops.run_move (y := .tmp 139) ho (Opg.ev hA (by kernel_rfl) (hx 20 (by kernel_rfl)))) (by kernel_rfl)
        | 22, _ => 
          obtain ⟨R, h0, h1⟩ := hS.2 (bZ, lz) (by simp)
          exact Opg.valueG hO (g := 21) (t := 140) (b := true) (Opg.ev hA (by kernel_rfl) (hx 21 (by kernel_rfl))) (hK' (pV R) w (Below.refl _ w) h1) (fun o ho => Opi.run_load_prog (y := .tmp 16) ho (Opg.ev0 hA (by kernel_rfl)) h0) (by kernel_rfl) (by kernel_rfl)
        | 23, _ => exact Opg.calledG (c := .value (.func 11)) (ys := #[.tmp 141]) hO (g := 21) (t := 140) (b := true) (Opg.ev hA (by kernel_rfl) (hx 21 (by kernel_rfl))) (fun o ts ho => Ops.run_call (vs := #[x 22]) ho (Opg.ev1 hA (by kernel_rfl) rfl) (by kernel_rfl)) ((size_v (hx 22 (by kernel_rfl)) LZ.out (by decide) (by decide) zz Hzz.out).mono fun r w' ⟨hr, hb⟩ => ⟨_, hr, hK' _ w' hb rfl⟩) (by kernel_rfl) (by kernel_rfl)
        | 24, _ => 
          obtain ⟨R, h0, h1⟩ := hS.2 (bX, lx) (by simp)
          exact Opg.valueG hO (g := 21) (t := 140) (b := true) (Opg.ev hA (by kernel_rfl) (hx 21 (by kernel_rfl))) (hK' (pV R) w (Below.refl _ w) h1) (fun o ho => Opi.run_load_prog (y := .tmp 14) ho (Opg.ev0 hA (by kernel_rfl)) h0) (by kernel_rfl) (by kernel_rfl)
        | 25, _ => exact Opg.calledG (c := .value (.func 11)) (ys := #[.tmp 143]) hO (g := 21) (t := 140) (b := true) (Opg.ev hA (by kernel_rfl) (hx 21 (by kernel_rfl))) (fun o ts ho => Ops.run_call (vs := #[x 24]) ho (Opg.ev1 hA (by kernel_rfl) rfl) (by kernel_rfl)) ((size_v (hx 24 (by kernel_rfl)) LX.out (by decide) (by decide) zx Hzx.out).mono fun r w' ⟨hr, hb⟩ => ⟨_, hr, hK' _ w' hb rfl⟩) (by kernel_rfl) (by kernel_rfl)
        | 26, _ => exact Opg.valueG hO (g := 21) (t := 140) (b := true) (Opg.ev hA (by kernel_rfl) (hx 21 (by kernel_rfl))) (hK' _ _ (Below.refl _ w) rfl) (fun o ho => Opi.run_mul3 (y := .const (.int .i64 2)) (z := .tmp 144) ho (Opg.ev0 hA (by kernel_rfl)) (Opg.ev hA (by kernel_rfl) (hx 25 (by kernel_rfl))) HZ2.out) (by kernel_rfl) (by kernel_rfl)
        | 27, _ => exact Opg.valueG hO (g := 21) (t := 140) (b := true) (Opg.ev hA (by kernel_rfl) (hx 21 (by kernel_rfl))) (hK' _ _ (Below.refl _ w) rfl) (fun o ho => Opi.run_eql3 (y := .tmp 142) (z := .tmp 145) ho (Opg.ev hA (by kernel_rfl) (hx 23 (by kernel_rfl))) (Opg.ev hA (by kernel_rfl) (hx 26 (by kernel_rfl))) HE3.out) (by kernel_rfl) (by kernel_rfl)
        | 28, _ => exact Opg.value hO (hK' _ _ (Below.refl _ w) rfl) (fun o ho => Opg.run_pickT (c := .tmp 140) (y := .tmp 146) (z := .const (.bool false)) ho (Opg.ev hA (by kernel_rfl) (hx 21 (by kernel_rfl))) (Opg.ev hA (by kernel_rfl) (hx 27 (by kernel_rfl)))) (by kernel_rfl)
        | 29, _ => exact Opg.value hO (hK' _ _ (Below.refl _ w) rfl) (fun o ho => Ops.run_move (y := .tmp 147) ho (Opg.ev hA (by kernel_rfl) (hx 28 (by kernel_rfl)))) (by kernel_rfl)
        | 30, _ => 
          obtain ⟨R, h0, h1⟩ := hS.2 (bZ, lz) (by simp)
          exact Opg.valueG hO (g := 29) (t := 148) (b := true) (Opg.ev hA (by kernel_rfl) (hx 29 (by kernel_rfl))) (hK' (pV R) w (Below.refl _ w) h1) (fun o ho => Opi.run_load_prog (y := .tmp 16) ho (Opg.ev0 hA (by kernel_rfl)) h0) (by kernel_rfl) (by kernel_rfl)
        | 31, _ => exact Opg.calledG (c := .value (.func 12)) (ys := #[.tmp 149]) hO (g := 29) (t := 148) (b := true) (Opg.ev hA (by kernel_rfl) (hx 29 (by kernel_rfl))) (fun o ts ho => Ops.run_call (vs := #[x 30]) ho (Opg.ev1 hA (by kernel_rfl) rfl) (by kernel_rfl)) ((deep_v (hx 30 (by kernel_rfl)) LZ.out (by decide) (by decide) dz Hdz.out).mono fun r w' ⟨hr, hb⟩ => ⟨_, hr, hK' _ w' hb rfl⟩) (by kernel_rfl) (by kernel_rfl)
        | 32, _ => 
          obtain ⟨R, h0, h1⟩ := hS.2 (bX, lx) (by simp)
          exact Opg.valueG hO (g := 29) (t := 148) (b := true) (Opg.ev hA (by kernel_rfl) (hx 29 (by kernel_rfl))) (hK' (pV R) w (Below.refl _ w) h1) (fun o ho => Opi.run_load_prog (y := .tmp 14) ho (Opg.ev0 hA (by kernel_rfl)) h0) (by kernel_rfl) (by kernel_rfl)
        | 33, _ => exact Opg.calledG (c := .value (.func 12)) (ys := #[.tmp 151]) hO (g := 29) (t := 148) (b := true) (Opg.ev hA (by kernel_rfl) (hx 29 (by kernel_rfl))) (fun o ts ho => Ops.run_call (vs := #[x 32]) ho (Opg.ev1 hA (by kernel_rfl) rfl) (by kernel_rfl)) ((deep_v (hx 32 (by kernel_rfl)) LX.out (by decide) (by decide) dx Hdx.out).mono fun r w' ⟨hr, hb⟩ => ⟨_, hr, hK' _ w' hb rfl⟩) (by kernel_rfl) (by kernel_rfl)
        | 34, _ => exact Opg.valueG hO (g := 29) (t := 148) (b := true) (Opg.ev hA (by kernel_rfl) (hx 29 (by kernel_rfl))) (hK' _ _ (Below.refl _ w) rfl) (fun o ho => Opi.run_eql3 (y := .tmp 150) (z := .tmp 152) ho (Opg.ev hA (by kernel_rfl) (hx 31 (by kernel_rfl))) (Opg.ev hA (by kernel_rfl) (hx 33 (by kernel_rfl))) HE4.out) (by kernel_rfl) (by kernel_rfl)
        | 35, _ => exact Opg.value hO (hK' _ _ (Below.refl _ w) rfl) (fun o ho => Opg.run_pickT (c := .tmp 148) (y := .tmp 153) (z := .const (.bool false)) ho (Opg.ev hA (by kernel_rfl) (hx 29 (by kernel_rfl))) (Opg.ev hA (by kernel_rfl) (hx 34 (by kernel_rfl)))) (by kernel_rfl)
        | 36, _ => exact Opg.value hO (hK' _ _ (Below.refl _ w) rfl) (fun o ho => Ops.run_assign (y := .tmp 154) ho (Opg.ev hA (by kernel_rfl) (hx 35 (by kernel_rfl)))) (by kernel_rfl)
        | n + 37, h => exact absurd h (by omega)
  intro x w16 hS hx
  have e36 : x 36 = .bool true := hx 36 (by decide) (fun _ _ => rfl)
  simp only [Op.fillD, Act.put, List.setIfInBounds_toArray, List.set_cons_zero, List.set_cons_succ, show x (0 + 1 + 1 + 1 + 1 + 1 + 1 + 1 + 1 + 1 + 1 + 1 + 1 + 1 + 1 + 1 + 1 + 1 + 1 + 1 + 1 + 1 + 1 + 1 + 1 + 1 + 1 + 1 + 1 + 1 + 1 + 1 + 1 + 1 + 1 + 1 + 1) = _ from e36]
  clear e36 hx
  have B16 := Lib.hid hS.1
  clear hS BB PRS
  refine HK15.out _ _ ?_
  clear HK15
  go_wp2
  go_ret
  exact ⟨rfl, B16.out⟩
end As
end Go.Proofs.Ytbedcplkcaanhaa
