/-
  WALKS: package image, counted lists that a reader takes. Own work.
-/
import Derived.Test.YtaeblnlbelebkaaGreatDoorImEls
import Derived.Deep.AppendLies
namespace Go.Proofs.YtaeblnlbelebkaaGreatDoor
namespace Im
open Go.RowKit Go
open Co (Kp ret_int ret_bool ret2_int In in0 IIn Ics Wf)
open Ln (VIn Vcs)
set_option linter.unusedVariables false

theorem own_gx {w w' : World} {base R : Nat} {e : TypeId} {size : Nat} {v : Value} {n : Nat} {xs : List Value} (h : w.ownsRow base e size v n xs) (k : Gx R w w') (hR : R < base) : w'.ownsRow base e size v n xs := by
  obtain ⟨h1, h2⟩ := h
  refine ⟨h1, ?_⟩
  rcases h2 with h2 | ⟨g, cap, cur, a, b, c, d⟩
  · exact .inl h2
  · refine .inr ⟨g, cap, cur, a, b, ?_, d⟩
    have hg : g < w.heap.size := by
      by_cases hs : g < w.heap.size
      · exact hs
      · rw [Array.getElem?_eq_none (by omega)] at c; cases c
    rw [k.block g hg (by omega)]; exact c
/-- A row of the call's own has grown: the reader stands. -/
theorem Rdd.grown {w w1 w2 : World} {R : Nat} {s : Rd} {row : Option Nat} (h : Rdd w R s w1) (hg : w1.grownBy w2 row) (hrow : ∀ q, row = some q → w.heap.size ≤ q) (hR : R < w.heap.size) : Rdd w R s w2 := by
  have hne : ∀ k, k < w.heap.size → some k ≠ row := fun k hk e => by have := hrow k e.symm; omega
  have hs := h.rd.size
  have be : Below R w1 w2 := ⟨hg.os, hg.tape, hg.output, hg.size, fun k hk => hg.block k (by omega) (hne k (by omega))⟩
  have far : ∀ q, w2.cell? ⟨R, q, none⟩ = w1.cell? ⟨R, q, none⟩ := fun q => World.cell?_of_block (w := w1) (a := ⟨R, q, none⟩) (hg.block R hs (hne R hR))
  refine ⟨⟨Nat.lt_of_lt_of_le hs hg.size, fun q => (World.frozen?_of_block (w := w1) (a := ⟨R, q, none⟩) (hg.block R hs (hne R hR))).trans (h.rd.fro q), fun bs e => ?_, fun e => ⟨(far 1).trans (h.rd.none' e).1, (far 0).trans (h.rd.none' e).2⟩⟩, ⟨Nat.le_trans h.gx.size hg.size, fun k hk hkR => ?_⟩, h.be.trans be⟩
  · obtain ⟨a, ao, cap, b, c, d⟩ := h.rd.some' bs e
    refine ⟨(far 1).trans a, ao, cap, (far 0).trans b, ?_, d⟩
    rcases c with c | ⟨b0, off, e1, n, g⟩
    · exact .inl c
    · exact .inr ⟨b0, off, e1, n, Nat.lt_of_lt_of_le g.size hg.size, fun i hi => (be.cell (p := ⟨b0, off + i, none⟩) n).trans (g.at' i hi)⟩
  · rw [hg.block k (Nat.lt_of_lt_of_le hk h.gx.size) (hne k hk)]
    exact h.gx.block k hk hkR
/-- What list answers. -/
def LsP (w : World) (R : Nat) (T : TypeId) (c n : Nat) (xs : List Value) (t : Rd) (e : Ending) (w' : World) : Prop := ∃ v, e = .returned v ∧ w'.ownsRow w.heap.size T c v n xs ∧ Rdd w R t w'
theorem flat_snoc {α : Type} (l : List α) (x : α) (f : α → List Value) : (l ++ [x]).flatMap f = l.flatMap f ++ f x := by rw [List.flatMap_append]; simp
def celF (x : Fn) : List Value := [.int .i64 x.e, .int .i64 x.p, .int .i64 x.l]
theorem info_F : (Tryz.prog.info? 69).map (fun i => (i.zero, i.size, i.bytes)) = some (some (.agg #[.int .i64 0, .int .i64 0, .int .i64 0]), 3, 24) := by kernel_rfl
set_option maxHeartbeats 2000000 in
set_option maxRecDepth 100000 in
theorem listF_any {w : World} {R : Nat} {s : Rd} (h : RdIn w R s) (most : Nat) (hm : most ≤ 65536) :
    Calls Tryz.prog 64 #[.pointer (some ⟨R, 0, none⟩), .int .i64 most, .func (.func 65) #[] #[]] w (LsP w R 69 3 (liV most fnE s).length ((liV most fnE s).flatMap celF) (liR most fnE s)) := by
  obtain ⟨i0, hi, hz0, hz1, hz2⟩ := info_parts info_F
  have hsz := h.size
  have HU := Lib.hid (upTo_any h most)
  have hub := upV_bd most s
  have HV : Hid (liV most fnE s = lsV fnE (upV most s) (upR most s)) := rfl
  have HRR : Hid (liR most fnE s = lsR fnE (upV most s) (upR most s)) := rfl
  clear h
  go_enter Tryz.func64, Tryz.ntmps64
  go_wp2_with fail
  refine HU.out.mono ?_
  rintro e w1 ⟨rfl, h1⟩
  generalize upV most s = n at *
  generalize upR most s = t at *
  have hn : (n : Int) ≤ 65536 := by omega
  go_wp2
  go_loopw [7, 11] (fun v i wr => ∃ k : Nat, k ≤ n ∧ i = .int .i64 k ∧ wr.ownsRow w.heap.size 69 3 v k ((lsV fnE k t).flatMap celF) ∧ Hid (Rdd w R (lsR fnE k t) wr)) (fun _ i _ => n - (intOf i).toNat)
  case atStart => exact ⟨0, Nat.zero_le _, rfl, World.ownsRow_nil _ _ _ _, h1⟩
  case round =>
    obtain ⟨k, hk, rfl, hown, hrd⟩ := hrel
    by_cases hlt : k < n
    · have hwz : w.heap.size ≤ wr.heap.size := hrd.out.gx.size
      have HSV := Lib.hid (lsV_snoc fnE k t)
      have HSR := Lib.hid (lsR_snoc fnE k t)
      have HX : Hid (∃ x, fnE.v (lsR fnE k t) = x) := ⟨_, rfl⟩
      obtain ⟨x, hx⟩ := HX.out
      have HXE := Lib.hid hx
      have HCL := Lib.hid (function_any hrd.out.rd x _ hx rfl)
      clear hx
      go_wp2_with fail
      refine HCL.out.mono ?_
      rintro e w2 ⟨rfl, h2⟩
      have own2 := own_gx hown h2.gx hsz
      have R2 := Lib.hid (hrd.out.trans h2)
      have hw2 : w.heap.size ≤ w2.heap.size := R2.out.gx.size
      have ONE : Hid (∀ u ∈ ([.int .i64 x.e, .int .i64 x.p, .int .i64 x.l] : List Value), u.oneCell' = true) := Lib.hid (by intro u hu; simp at hu; rcases hu with rfl | rfl | rfl <;> rfl)
      have NEW : Hid (∀ (j : Nat) (u : Value), ([.int .i64 x.e, .int .i64 x.p, .int .i64 x.l] : List Value)[j]? = some u → (w2.alloc (.cells #[.int .i64 x.e, .int .i64 x.p, .int .i64 x.l] 69)).cell? ((⟨w2.heap.size, 0, none⟩ : Addr).add j) = some u) := Lib.hid (World.news_of_block (cs := #[.int .i64 x.e, .int .i64 x.p, .int .i64 x.l]) (t := 69) (fr := (0, 0)) (heap_alloc_new w2 _))
      clear hown h2
      go_wp2_with (at_builtin; refine wpList_append_own _ rfl _ _ 23 rfl w.heap.size 69 i0 (.agg #[.int .i64 0, .int .i64 0, .int .i64 0]) 3 24 Tryz.underlying23 hi hz0 hz1 hz2 rfl (by decide) _ _ _ rfl (own2.alloc _) ⟨w2.heap.size, 0, none⟩ 1 1 [.int .i64 x.e, .int .i64 x.p, .int .i64 x.l] rfl rfl NEW.out ONE.out (by unfold maxLen; omega) (by omega) (by simp; omega) ?_)
      intro v' w3 hown' hgrow _
      have R3 := (R2.out.kp ((Kp.refl w2).alloc _ _)).grown hgrow (fun q hq => (own2.lt q hq).1) hsz
      have HO3 : Hid (w3.ownsRow w.heap.size 69 3 v' (k + 1) ((lsV fnE (k + 1) t).flatMap celF)) := Lib.hid (by rw [HSV.out, HXE.out, flat_snoc]; exact hown')
      have HR3 : Hid (Rdd w R (lsR fnE (k + 1) t) w3) := Lib.hid (by rw [HSR.out]; exact R3)
      clear hown' hgrow own2 R3
      go_wp2
      go_roundw
      case rel => exact ⟨k + 1, by omega, by go_num, HO3.out, HR3.out⟩
      case measure => simp [intOf]; omega
    · obtain rfl : k = n := by omega
      go_wp2
      go_ret
      rw [HV.out, HRR.out]
      exact ⟨_, rfl, by rw [lsV_len]; exact hown, hrd.out⟩
def celV (x : Ln.Vc) : List Value := [.int .i64 x.l, .int .i64 x.p, .int .i64 x.f]
theorem info_V : (Tryz.prog.info? 71).map (fun i => (i.zero, i.size, i.bytes)) = some (some (.agg #[.int .i64 0, .int .i64 0, .int .i64 0]), 3, 24) := by kernel_rfl
set_option maxHeartbeats 2000000 in
set_option maxRecDepth 100000 in
theorem listV_any {w : World} {R : Nat} {s : Rd} (h : RdIn w R s) (most : Nat) (hm : most ≤ 65536) :
    Calls Tryz.prog 66 #[.pointer (some ⟨R, 0, none⟩), .int .i64 most, .func (.func 67) #[] #[]] w (LsP w R 71 3 (liV most vcE s).length ((liV most vcE s).flatMap celV) (liR most vcE s)) := by
  obtain ⟨i0, hi, hz0, hz1, hz2⟩ := info_parts info_V
  have hsz := h.size
  have HU := Lib.hid (upTo_any h most)
  have hub := upV_bd most s
  have HV : Hid (liV most vcE s = lsV vcE (upV most s) (upR most s)) := rfl
  have HRR : Hid (liR most vcE s = lsR vcE (upV most s) (upR most s)) := rfl
  clear h
  go_enter Tryz.func66, Tryz.ntmps66
  go_wp2_with fail
  refine HU.out.mono ?_
  rintro e w1 ⟨rfl, h1⟩
  generalize upV most s = n at *
  generalize upR most s = t at *
  have hn : (n : Int) ≤ 65536 := by omega
  go_wp2
  go_loopw [7, 11] (fun v i wr => ∃ k : Nat, k ≤ n ∧ i = .int .i64 k ∧ wr.ownsRow w.heap.size 71 3 v k ((lsV vcE k t).flatMap celV) ∧ Hid (Rdd w R (lsR vcE k t) wr)) (fun _ i _ => n - (intOf i).toNat)
  case atStart => exact ⟨0, Nat.zero_le _, rfl, World.ownsRow_nil _ _ _ _, h1⟩
  case round =>
    obtain ⟨k, hk, rfl, hown, hrd⟩ := hrel
    by_cases hlt : k < n
    · have hwz : w.heap.size ≤ wr.heap.size := hrd.out.gx.size
      have HSV := Lib.hid (lsV_snoc vcE k t)
      have HSR := Lib.hid (lsR_snoc vcE k t)
      have HX : Hid (∃ x, vcE.v (lsR vcE k t) = x) := ⟨_, rfl⟩
      obtain ⟨x, hx⟩ := HX.out
      have HXE := Lib.hid hx
      have HCL := Lib.hid (vector_any hrd.out.rd x _ hx rfl)
      clear hx
      go_wp2_with fail
      refine HCL.out.mono ?_
      rintro e w2 ⟨rfl, h2⟩
      have own2 := own_gx hown h2.gx hsz
      have R2 := Lib.hid (hrd.out.trans h2)
      have hw2 : w.heap.size ≤ w2.heap.size := R2.out.gx.size
      have ONE : Hid (∀ u ∈ ([.int .i64 x.l, .int .i64 x.p, .int .i64 x.f] : List Value), u.oneCell' = true) := Lib.hid (by intro u hu; simp at hu; rcases hu with rfl | rfl | rfl <;> rfl)
      have NEW : Hid (∀ (j : Nat) (u : Value), ([.int .i64 x.l, .int .i64 x.p, .int .i64 x.f] : List Value)[j]? = some u → (w2.alloc (.cells #[.int .i64 x.l, .int .i64 x.p, .int .i64 x.f] 71)).cell? ((⟨w2.heap.size, 0, none⟩ : Addr).add j) = some u) := Lib.hid (World.news_of_block (cs := #[.int .i64 x.l, .int .i64 x.p, .int .i64 x.f]) (t := 71) (fr := (0, 0)) (heap_alloc_new w2 _))
      clear hown h2
      go_wp2_with (at_builtin; refine wpList_append_own _ rfl _ _ 24 rfl w.heap.size 71 i0 (.agg #[.int .i64 0, .int .i64 0, .int .i64 0]) 3 24 Tryz.underlying24 hi hz0 hz1 hz2 rfl (by decide) _ _ _ rfl (own2.alloc _) ⟨w2.heap.size, 0, none⟩ 1 1 [.int .i64 x.l, .int .i64 x.p, .int .i64 x.f] rfl rfl NEW.out ONE.out (by unfold maxLen; omega) (by omega) (by simp; omega) ?_)
      intro v' w3 hown' hgrow _
      have R3 := (R2.out.kp ((Kp.refl w2).alloc _ _)).grown hgrow (fun q hq => (own2.lt q hq).1) hsz
      have HO3 : Hid (w3.ownsRow w.heap.size 71 3 v' (k + 1) ((lsV vcE (k + 1) t).flatMap celV)) := Lib.hid (by rw [HSV.out, HXE.out, flat_snoc]; exact hown')
      have HR3 : Hid (Rdd w R (lsR vcE (k + 1) t) w3) := Lib.hid (by rw [HSR.out]; exact R3)
      clear hown' hgrow own2 R3
      go_wp2
      go_roundw
      case rel => exact ⟨k + 1, by omega, by go_num, HO3.out, HR3.out⟩
      case measure => simp [intOf]; omega
    · obtain rfl : k = n := by omega
      go_wp2
      go_ret
      rw [HV.out, HRR.out]
      exact ⟨_, rfl, by rw [lsV_len]; exact hown, hrd.out⟩
def celU (x : Int) : List Value := [.int .u32 x]
theorem info_U : (Tryz.prog.info? 72).map (fun i => (i.zero, i.size, i.bytes)) = some (some (.int .u32 0), 1, 4) := by kernel_rfl
set_option maxHeartbeats 2000000 in
set_option maxRecDepth 100000 in
theorem listU_any {w : World} {R : Nat} {s : Rd} (h : RdIn w R s) (most : Nat) (hm : most ≤ 65536) :
    Calls Tryz.prog 69 #[.pointer (some ⟨R, 0, none⟩), .int .i64 most, .func (.func 70) #[] #[]] w (LsP w R 72 1 (liV most nmE s).length ((liV most nmE s).flatMap celU) (liR most nmE s)) := by
  obtain ⟨i0, hi, hz0, hz1, hz2⟩ := info_parts info_U
  have hsz := h.size
  have HU := Lib.hid (upTo_any h most)
  have hub := upV_bd most s
  have HV : Hid (liV most nmE s = lsV nmE (upV most s) (upR most s)) := rfl
  have HRR : Hid (liR most nmE s = lsR nmE (upV most s) (upR most s)) := rfl
  clear h
  go_enter Tryz.func69, Tryz.ntmps69
  go_wp2_with fail
  refine HU.out.mono ?_
  rintro e w1 ⟨rfl, h1⟩
  generalize upV most s = n at *
  generalize upR most s = t at *
  have hn : (n : Int) ≤ 65536 := by omega
  go_wp2
  go_loopw [7, 11] (fun v i wr => ∃ k : Nat, k ≤ n ∧ i = .int .i64 k ∧ wr.ownsRow w.heap.size 72 1 v k ((lsV nmE k t).flatMap celU) ∧ Hid (Rdd w R (lsR nmE k t) wr)) (fun _ i _ => n - (intOf i).toNat)
  case atStart => exact ⟨0, Nat.zero_le _, rfl, World.ownsRow_nil _ _ _ _, h1⟩
  case round =>
    obtain ⟨k, hk, rfl, hown, hrd⟩ := hrel
    by_cases hlt : k < n
    · have hwz : w.heap.size ≤ wr.heap.size := hrd.out.gx.size
      have HSV := Lib.hid (lsV_snoc nmE k t)
      have HSR := Lib.hid (lsR_snoc nmE k t)
      have HX : Hid (∃ x, nmE.v (lsR nmE k t) = x) := ⟨_, rfl⟩
      obtain ⟨x, hx⟩ := HX.out
      have HXE := Lib.hid hx
      have hxn : ((nmV (lsR nmE k t) : Nat) : Int) = x := hx
      have HCL := Lib.hid (word_any hrd.out.rd)
      rw [hxn] at HCL
      clear hx hxn
      go_wp2_with fail
      refine HCL.out.mono ?_
      rintro e w2 ⟨rfl, h2⟩
      have own2 := own_gx hown h2.gx hsz
      have R2 := Lib.hid (hrd.out.trans h2)
      have hw2 : w.heap.size ≤ w2.heap.size := R2.out.gx.size
      have ONE : Hid (∀ u ∈ ([.int .u32 x] : List Value), u.oneCell' = true) := Lib.hid (by intro u hu; simp at hu; subst hu; rfl)
      have NEW : Hid (∀ (j : Nat) (u : Value), ([.int .u32 x] : List Value)[j]? = some u → (w2.alloc (.cells #[.int .u32 x] 72)).cell? ((⟨w2.heap.size, 0, none⟩ : Addr).add j) = some u) := Lib.hid (World.news_of_block (cs := #[.int .u32 x]) (t := 72) (fr := (0, 0)) (heap_alloc_new w2 _))
      clear hown h2
      go_wp2_with (at_builtin; refine wpList_append_own _ rfl _ _ 25 rfl w.heap.size 72 i0 (.int .u32 0) 1 4 Tryz.underlying25 hi hz0 hz1 hz2 rfl (by decide) _ _ _ rfl (own2.alloc _) ⟨w2.heap.size, 0, none⟩ 1 1 [.int .u32 x] rfl rfl NEW.out ONE.out (by unfold maxLen; omega) (by omega) (by simp; omega) ?_)
      intro v' w3 hown' hgrow _
      have R3 := (R2.out.kp ((Kp.refl w2).alloc _ _)).grown hgrow (fun q hq => (own2.lt q hq).1) hsz
      have HO3 : Hid (w3.ownsRow w.heap.size 72 1 v' (k + 1) ((lsV nmE (k + 1) t).flatMap celU)) := Lib.hid (by rw [HSV.out, HXE.out, flat_snoc]; exact hown')
      have HR3 : Hid (Rdd w R (lsR nmE (k + 1) t) w3) := Lib.hid (by rw [HSR.out]; exact R3)
      clear hown' hgrow own2 R3
      go_wp2
      go_roundw
      case rel => exact ⟨k + 1, by omega, by go_num, HO3.out, HR3.out⟩
      case measure => simp [intOf]; omega
    · obtain rfl : k = n := by omega
      go_wp2
      go_ret
      rw [HV.out, HRR.out]
      exact ⟨_, rfl, by rw [lsV_len]; exact hown, hrd.out⟩
def celP (x : Pt) : List Value := [.bool x.r, .bool x.w]
theorem info_P : (Tryz.prog.info? 74).map (fun i => (i.zero, i.size, i.bytes)) = some (some (.agg #[.bool false, .bool false]), 2, 2) := by kernel_rfl
set_option maxHeartbeats 2000000 in
set_option maxRecDepth 100000 in
theorem listP_any {w : World} {R : Nat} {s : Rd} (h : RdIn w R s) (most : Nat) (hm : most ≤ 65536) :
    Calls Tryz.prog 71 #[.pointer (some ⟨R, 0, none⟩), .int .i64 most, .func (.func 72) #[] #[]] w (LsP w R 74 2 (liV most ptE s).length ((liV most ptE s).flatMap celP) (liR most ptE s)) := by
  obtain ⟨i0, hi, hz0, hz1, hz2⟩ := info_parts info_P
  have hsz := h.size
  have HU := Lib.hid (upTo_any h most)
  have hub := upV_bd most s
  have HV : Hid (liV most ptE s = lsV ptE (upV most s) (upR most s)) := rfl
  have HRR : Hid (liR most ptE s = lsR ptE (upV most s) (upR most s)) := rfl
  clear h
  go_enter Tryz.func71, Tryz.ntmps71
  go_wp2_with fail
  refine HU.out.mono ?_
  rintro e w1 ⟨rfl, h1⟩
  generalize upV most s = n at *
  generalize upR most s = t at *
  have hn : (n : Int) ≤ 65536 := by omega
  go_wp2
  go_loopw [7, 11] (fun v i wr => ∃ k : Nat, k ≤ n ∧ i = .int .i64 k ∧ wr.ownsRow w.heap.size 74 2 v k ((lsV ptE k t).flatMap celP) ∧ Hid (Rdd w R (lsR ptE k t) wr)) (fun _ i _ => n - (intOf i).toNat)
  case atStart => exact ⟨0, Nat.zero_le _, rfl, World.ownsRow_nil _ _ _ _, h1⟩
  case round =>
    obtain ⟨k, hk, rfl, hown, hrd⟩ := hrel
    by_cases hlt : k < n
    · have hwz : w.heap.size ≤ wr.heap.size := hrd.out.gx.size
      have HSV := Lib.hid (lsV_snoc ptE k t)
      have HSR := Lib.hid (lsR_snoc ptE k t)
      have HX : Hid (∃ x, ptE.v (lsR ptE k t) = x) := ⟨_, rfl⟩
      obtain ⟨x, hx⟩ := HX.out
      have HXE := Lib.hid hx
      have HCL := Lib.hid (port_any hrd.out.rd x _ hx rfl)
      clear hx
      go_wp2_with fail
      refine HCL.out.mono ?_
      rintro e w2 ⟨rfl, h2⟩
      have own2 := own_gx hown h2.gx hsz
      have R2 := Lib.hid (hrd.out.trans h2)
      have hw2 : w.heap.size ≤ w2.heap.size := R2.out.gx.size
      have ONE : Hid (∀ u ∈ ([.bool x.r, .bool x.w] : List Value), u.oneCell' = true) := Lib.hid (by intro u hu; simp at hu; rcases hu with rfl | rfl <;> rfl)
      have NEW : Hid (∀ (j : Nat) (u : Value), ([.bool x.r, .bool x.w] : List Value)[j]? = some u → (w2.alloc (.cells #[.bool x.r, .bool x.w] 74)).cell? ((⟨w2.heap.size, 0, none⟩ : Addr).add j) = some u) := Lib.hid (World.news_of_block (cs := #[.bool x.r, .bool x.w]) (t := 74) (fr := (0, 0)) (heap_alloc_new w2 _))
      clear hown h2
      go_wp2_with (at_builtin; refine wpList_append_own _ rfl _ _ 26 rfl w.heap.size 74 i0 (.agg #[.bool false, .bool false]) 2 2 Tryz.underlying26 hi hz0 hz1 hz2 rfl (by decide) _ _ _ rfl (own2.alloc _) ⟨w2.heap.size, 0, none⟩ 1 1 [.bool x.r, .bool x.w] rfl rfl NEW.out ONE.out (by unfold maxLen; omega) (by omega) (by simp; omega) ?_)
      intro v' w3 hown' hgrow _
      have R3 := (R2.out.kp ((Kp.refl w2).alloc _ _)).grown hgrow (fun q hq => (own2.lt q hq).1) hsz
      have HO3 : Hid (w3.ownsRow w.heap.size 74 2 v' (k + 1) ((lsV ptE (k + 1) t).flatMap celP)) := Lib.hid (by rw [HSV.out, HXE.out, flat_snoc]; exact hown')
      have HR3 : Hid (Rdd w R (lsR ptE (k + 1) t) w3) := Lib.hid (by rw [HSR.out]; exact R3)
      clear hown' hgrow own2 R3
      go_wp2
      go_roundw
      case rel => exact ⟨k + 1, by omega, by go_num, HO3.out, HR3.out⟩
      case measure => simp [intOf]; omega
    · obtain rfl : k = n := by omega
      go_wp2
      go_ret
      rw [HV.out, HRR.out]
      exact ⟨_, rfl, by rw [lsV_len]; exact hown, hrd.out⟩
def celC (x : In) : List Value := [.int .i64 x.op, .int .i64 x.a, .int .i64 x.b, .int .i64 x.c]
theorem info_C : (Tryz.prog.info? 55).map (fun i => (i.zero, i.size, i.bytes)) = some (some (.agg #[.int .i64 0, .int .i64 0, .int .i64 0, .int .i64 0]), 4, 32) := by kernel_rfl
set_option maxHeartbeats 2000000 in
set_option maxRecDepth 100000 in
theorem listC_any {w : World} {R : Nat} {s : Rd} (h : RdIn w R s) (most : Nat) (hm : most ≤ 65536) :
    Calls Tryz.prog 75 #[.pointer (some ⟨R, 0, none⟩), .int .i64 most, .func (.func 76) #[] #[]] w (LsP w R 55 4 (liV most inE s).length ((liV most inE s).flatMap celC) (liR most inE s)) := by
  obtain ⟨i0, hi, hz0, hz1, hz2⟩ := info_parts info_C
  have hsz := h.size
  have HU := Lib.hid (upTo_any h most)
  have hub := upV_bd most s
  have HV : Hid (liV most inE s = lsV inE (upV most s) (upR most s)) := rfl
  have HRR : Hid (liR most inE s = lsR inE (upV most s) (upR most s)) := rfl
  clear h
  go_enter Tryz.func75, Tryz.ntmps75
  go_wp2_with fail
  refine HU.out.mono ?_
  rintro e w1 ⟨rfl, h1⟩
  generalize upV most s = n at *
  generalize upR most s = t at *
  have hn : (n : Int) ≤ 65536 := by omega
  go_wp2
  go_loopw [7, 11] (fun v i wr => ∃ k : Nat, k ≤ n ∧ i = .int .i64 k ∧ wr.ownsRow w.heap.size 55 4 v k ((lsV inE k t).flatMap celC) ∧ Hid (Rdd w R (lsR inE k t) wr)) (fun _ i _ => n - (intOf i).toNat)
  case atStart => exact ⟨0, Nat.zero_le _, rfl, World.ownsRow_nil _ _ _ _, h1⟩
  case round =>
    obtain ⟨k, hk, rfl, hown, hrd⟩ := hrel
    by_cases hlt : k < n
    · have hwz : w.heap.size ≤ wr.heap.size := hrd.out.gx.size
      have HSV := Lib.hid (lsV_snoc inE k t)
      have HSR := Lib.hid (lsR_snoc inE k t)
      have HX : Hid (∃ x, inE.v (lsR inE k t) = x) := ⟨_, rfl⟩
      obtain ⟨x, hx⟩ := HX.out
      have HXE := Lib.hid hx
      have HCL := Lib.hid (instruction_any hrd.out.rd x _ hx rfl)
      clear hx
      go_wp2_with fail
      refine HCL.out.mono ?_
      rintro e w2 ⟨rfl, h2⟩
      have own2 := own_gx hown h2.gx hsz
      have R2 := Lib.hid (hrd.out.trans h2)
      have hw2 : w.heap.size ≤ w2.heap.size := R2.out.gx.size
      have ONE : Hid (∀ u ∈ ([.int .i64 x.op, .int .i64 x.a, .int .i64 x.b, .int .i64 x.c] : List Value), u.oneCell' = true) := Lib.hid (by intro u hu; simp at hu; rcases hu with rfl | rfl | rfl | rfl <;> rfl)
      have NEW : Hid (∀ (j : Nat) (u : Value), ([.int .i64 x.op, .int .i64 x.a, .int .i64 x.b, .int .i64 x.c] : List Value)[j]? = some u → (w2.alloc (.cells #[.int .i64 x.op, .int .i64 x.a, .int .i64 x.b, .int .i64 x.c] 55)).cell? ((⟨w2.heap.size, 0, none⟩ : Addr).add j) = some u) := Lib.hid (World.news_of_block (cs := #[.int .i64 x.op, .int .i64 x.a, .int .i64 x.b, .int .i64 x.c]) (t := 55) (fr := (0, 0)) (heap_alloc_new w2 _))
      clear hown h2
      go_wp2_with (at_builtin; refine wpList_append_own _ rfl _ _ 22 rfl w.heap.size 55 i0 (.agg #[.int .i64 0, .int .i64 0, .int .i64 0, .int .i64 0]) 4 32 Tryz.underlying22 hi hz0 hz1 hz2 rfl (by decide) _ _ _ rfl (own2.alloc _) ⟨w2.heap.size, 0, none⟩ 1 1 [.int .i64 x.op, .int .i64 x.a, .int .i64 x.b, .int .i64 x.c] rfl rfl NEW.out ONE.out (by unfold maxLen; omega) (by omega) (by simp; omega) ?_)
      intro v' w3 hown' hgrow _
      have R3 := (R2.out.kp ((Kp.refl w2).alloc _ _)).grown hgrow (fun q hq => (own2.lt q hq).1) hsz
      have HO3 : Hid (w3.ownsRow w.heap.size 55 4 v' (k + 1) ((lsV inE (k + 1) t).flatMap celC)) := Lib.hid (by rw [HSV.out, HXE.out, flat_snoc]; exact hown')
      have HR3 : Hid (Rdd w R (lsR inE (k + 1) t) w3) := Lib.hid (by rw [HSR.out]; exact R3)
      clear hown' hgrow own2 R3
      go_wp2
      go_roundw
      case rel => exact ⟨k + 1, by omega, by go_num, HO3.out, HR3.out⟩
      case measure => simp [intOf]; omega
    · obtain rfl : k = n := by omega
      go_wp2
      go_ret
      rw [HV.out, HRR.out]
      exact ⟨_, rfl, by rw [lsV_len]; exact hown, hrd.out⟩
def celI (x : Int) : List Value := [.int .i64 x]
theorem info_I : (Tryz.prog.info? 3).map (fun i => (i.zero, i.size, i.bytes)) = some (some (.int .i64 0), 1, 8) := by kernel_rfl
set_option maxHeartbeats 2000000 in
set_option maxRecDepth 100000 in
theorem listI_any {w : World} {R : Nat} {s : Rd} (h : RdIn w R s) (most : Nat) (hm : most ≤ 65536) :
    Calls Tryz.prog 101 #[.pointer (some ⟨R, 0, none⟩), .int .i64 most, .func (.func 68) #[] #[]] w (LsP w R 3 1 (liV most nmE s).length ((liV most nmE s).flatMap celI) (liR most nmE s)) := by
  obtain ⟨i0, hi, hz0, hz1, hz2⟩ := info_parts info_I
  have hsz := h.size
  have HU := Lib.hid (upTo_any h most)
  have hub := upV_bd most s
  have HV : Hid (liV most nmE s = lsV nmE (upV most s) (upR most s)) := rfl
  have HRR : Hid (liR most nmE s = lsR nmE (upV most s) (upR most s)) := rfl
  clear h
  go_enter Tryz.func101, Tryz.ntmps101
  go_wp2_with fail
  refine HU.out.mono ?_
  rintro e w1 ⟨rfl, h1⟩
  generalize upV most s = n at *
  generalize upR most s = t at *
  have hn : (n : Int) ≤ 65536 := by omega
  go_wp2
  go_loopw [7, 11] (fun v i wr => ∃ k : Nat, k ≤ n ∧ i = .int .i64 k ∧ wr.ownsRow w.heap.size 3 1 v k ((lsV nmE k t).flatMap celI) ∧ Hid (Rdd w R (lsR nmE k t) wr)) (fun _ i _ => n - (intOf i).toNat)
  case atStart => exact ⟨0, Nat.zero_le _, rfl, World.ownsRow_nil _ _ _ _, h1⟩
  case round =>
    obtain ⟨k, hk, rfl, hown, hrd⟩ := hrel
    by_cases hlt : k < n
    · have hwz : w.heap.size ≤ wr.heap.size := hrd.out.gx.size
      have HSV := Lib.hid (lsV_snoc nmE k t)
      have HSR := Lib.hid (lsR_snoc nmE k t)
      have HX : Hid (∃ x, nmE.v (lsR nmE k t) = x) := ⟨_, rfl⟩
      obtain ⟨x, hx⟩ := HX.out
      have HXE := Lib.hid hx
      have hxn : ((nmV (lsR nmE k t) : Nat) : Int) = x := hx
      have HCL := Lib.hid (number_any hrd.out.rd)
      rw [hxn] at HCL
      clear hx hxn
      go_wp2_with fail
      refine HCL.out.mono ?_
      rintro e w2 ⟨rfl, h2⟩
      have own2 := own_gx hown h2.gx hsz
      have R2 := Lib.hid (hrd.out.trans h2)
      have hw2 : w.heap.size ≤ w2.heap.size := R2.out.gx.size
      have ONE : Hid (∀ u ∈ ([.int .i64 x] : List Value), u.oneCell' = true) := Lib.hid (by intro u hu; simp at hu; subst hu; rfl)
      have NEW : Hid (∀ (j : Nat) (u : Value), ([.int .i64 x] : List Value)[j]? = some u → (w2.alloc (.cells #[.int .i64 x] 3)).cell? ((⟨w2.heap.size, 0, none⟩ : Addr).add j) = some u) := Lib.hid (World.news_of_block (cs := #[.int .i64 x]) (t := 3) (fr := (0, 0)) (heap_alloc_new w2 _))
      clear hown h2
      go_wp2_with (at_builtin; refine wpList_append_own _ rfl _ _ 50 rfl w.heap.size 3 i0 (.int .i64 0) 1 8 Tryz.underlying50 hi hz0 hz1 hz2 rfl (by decide) _ _ _ rfl (own2.alloc _) ⟨w2.heap.size, 0, none⟩ 1 1 [.int .i64 x] rfl rfl NEW.out ONE.out (by unfold maxLen; omega) (by omega) (by simp; omega) ?_)
      intro v' w3 hown' hgrow _
      have R3 := (R2.out.kp ((Kp.refl w2).alloc _ _)).grown hgrow (fun q hq => (own2.lt q hq).1) hsz
      have HO3 : Hid (w3.ownsRow w.heap.size 3 1 v' (k + 1) ((lsV nmE (k + 1) t).flatMap celI)) := Lib.hid (by rw [HSV.out, HXE.out, flat_snoc]; exact hown')
      have HR3 : Hid (Rdd w R (lsR nmE (k + 1) t) w3) := Lib.hid (by rw [HSR.out]; exact R3)
      clear hown' hgrow own2 R3
      go_wp2
      go_roundw
      case rel => exact ⟨k + 1, by omega, by go_num, HO3.out, HR3.out⟩
      case measure => simp [intOf]; omega
    · obtain rfl : k = n := by omega
      go_wp2
      go_ret
      rw [HV.out, HRR.out]
      exact ⟨_, rfl, by rw [lsV_len]; exact hown, hrd.out⟩
end Im
end Go.Proofs.YtaeblnlbelebkaaGreatDoor
