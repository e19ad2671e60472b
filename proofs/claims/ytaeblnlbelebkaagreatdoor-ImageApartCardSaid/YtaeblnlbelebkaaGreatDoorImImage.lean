/-
  WALKS: package image, an image that a reader takes. Own work.
-/
import Derived.Test.YtaeblnlbelebkaaGreatDoorImRows
namespace Go.Proofs.YtaeblnlbelebkaaGreatDoor
namespace Im
open Go.RowKit Go
open Co (Kp ret_int ret_bool ret2_int In in0 IIn Ics Wf)
open Ln (VIn Vcs)
set_option linter.unusedVariables false

/-- A call of image under way: the reader, the result, and the image. -/
structure St (w wi : World) (R : Nat) (t : Rd) (f g : Nat → Value) : Prop where
  rdd : Rdd w R t wi
  m : Mine wi (w.heap.size + 1) 8 f
  r : Mine wi w.heap.size 8 g
  hR : R < w.heap.size
theorem St.call {w wi w1 : World} {R : Nat} {t t' : Rd} {f g : Nat → Value} (h : St w wi R t f g) (k : Rdd wi R t' w1) : St w w1 R t' f g :=
  have := h.hR
  ⟨h.rdd.trans k, h.m.gx k.gx (by omega), h.r.gx k.gx (by omega), h.hR⟩
def upd (f : Nat → Value) (k : Nat) (x : Value) : Nat → Value := fun i => if i = k then x else f i
theorem Mine.put {w : World} {B n : Nat} {v : Nat → Value} (h : Mine w B n v) (k : Nat) (hk : k < n) (x : Value) : Mine (w.setCell ⟨B, k, none⟩ x) B n (upd v k x) :=
  ⟨by simpa using h.size, fun i hi => by
    show _ = some (upd v k x i)
    unfold upd
    by_cases e : i = k
    · subst e
      rw [if_pos rfl]
      exact World.cell?_setCell_same _ _ _ (h.at' i hi)
    · rw [if_neg e]
      exact (World.cell?_setCell_other _ _ _ _ (fun q => e (congrArg Addr.off q).symm)).trans (h.at' i hi), fun o => by rw [World.frozen?_setCell]; exact h.fro o⟩
theorem St.put {w wi : World} {R : Nat} {t : Rd} {f g : Nat → Value} (h : St w wi R t f g) (k : Nat) (hk : k < 8) (x : Value) : St w (wi.setCell ⟨w.heap.size + 1, k, none⟩ x) R t (upd f k x) g :=
  have := h.hR
  ⟨h.rdd.set (by omega) h.hR k x, h.m.put k hk x, h.r.gx (Gx.set (w.heap.size + 1) k wi x) (by omega), h.hR⟩
theorem own_set {w : World} {base M k : Nat} {e : TypeId} {size : Nat} {v : Value} {n : Nat} {xs : List Value} (h : w.ownsRow base e size v n xs) (hM : M < base) (x : Value) : (w.setCell ⟨M, k, none⟩ x).ownsRow base e size v n xs := own_gx h (Gx.set M k w x) hM
def zim : Nat → Value := fun i => if i = 3 ∨ i = 6 then .int .i64 0 else .slice none 0 0
theorem zim_at : ∀ i, i < 8 → (#[Value.slice none 0 0, .slice none 0 0, .slice none 0 0, .int .i64 0, .slice none 0 0, .slice none 0 0, .int .i64 0, .slice none 0 0] : Array Value)[i]? = some (zim i) := fun i hi => by
  match i, hi with
  | 0, _ => rfl
  | 1, _ => rfl
  | 2, _ => rfl
  | 3, _ => rfl
  | 4, _ => rfl
  | 5, _ => rfl
  | 6, _ => rfl
  | 7, _ => rfl
theorem St.start {w : World} {R : Nat} {s : Rd} (h : RdIn w R s) (cs : Array Value) (hcs : ∀ i, i < 8 → cs[i]? = some (zim i)) (T : TypeId) : St w ((w.alloc (.cells cs T)).alloc (.cells cs T)) R s zim zim := by
  refine ⟨rdd_kp h (((Kp.refl w).alloc _ _).alloc _ _), ?_, (Mine.new w cs T 8 _ hcs).kp ((Kp.refl _).alloc cs T), h.size⟩
  have := Mine.new (w.alloc (.cells cs T)) cs T 8 _ hcs
  simpa using this
/-- Blocks from lo on are unchanged. -/
structure Up (lo : Nat) (w w' : World) : Prop where
  size : w.heap.size ≤ w'.heap.size
  block : ∀ k, lo ≤ k → k < w.heap.size → w'.heap[k]? = w.heap[k]?
theorem Up.refl (lo : Nat) (w : World) : Up lo w w := ⟨Nat.le_refl _, fun _ _ _ => rfl⟩
theorem Up.trans {lo : Nat} {a b c : World} (h : Up lo a b) (k : Up lo b c) : Up lo a c := ⟨Nat.le_trans h.size k.size, fun i hi hs => (k.block i hi (Nat.lt_of_lt_of_le hs h.size)).trans (h.block i hi hs)⟩
theorem Up.mono {lo lo' : Nat} {a b : World} (h : Up lo a b) (hl : lo ≤ lo') : Up lo' a b := ⟨h.size, fun i hi hs => h.block i (Nat.le_trans hl hi) hs⟩
theorem Up.of_kp {lo : Nat} {a b : World} (k : Kp a b) : Up lo a b := ⟨k.size, fun i _ hs => k.below.block i hs⟩
theorem Up.set {lo B : Nat} {w w1 : World} (h : Up lo w w1) (hB : B < lo) (o : Nat) (v : Value) : Up lo w (w1.setCell ⟨B, o, none⟩ v) :=
  ⟨by simpa using h.size, fun k hk hs => ((Gx.set B o w1 v).block k (Nat.lt_of_lt_of_le hs h.size) (by omega)).trans (h.block k hk hs)⟩
theorem own_up {w w' : World} {base lo : Nat} {e : TypeId} {size : Nat} {v : Value} {n : Nat} {xs : List Value} (h : w.ownsRow base e size v n xs) (k : Up lo w w') (hB : lo ≤ base) : w'.ownsRow base e size v n xs := by
  obtain ⟨h1, h2⟩ := h
  refine ⟨h1, ?_⟩
  rcases h2 with h2 | ⟨g, cap, cur, a, b, c, d⟩
  · exact .inl h2
  · refine .inr ⟨g, cap, cur, a, b, ?_, d⟩
    rcases Nat.lt_or_ge g w.heap.size with hlt | hge
    · rw [k.block g (by omega) hlt]; exact c
    · rw [Array.getElem?_eq_none hge] at c; cases c
theorem InA.up {w w' : World} {lo lo' : Nat} {v : Value} {L : List Int} {ov : Option Nat} (h : InA w lo v L ov) (k : Up lo' w w') (hB : lo' ≤ lo) : InA w' lo v L ov := by
  obtain ⟨ao, cap, e, hi, hb⟩ := h
  refine ⟨ao, cap, e, ?_, hb⟩
  by_cases hz : L.length = 0
  · exact .inl hz
  · rcases hi with hi | ⟨b, off, e1, g⟩
    · exact .inl hi
    · have hlo : lo ≤ b := (hb _ e1 (by omega)).1
      exact .inr ⟨b, off, e1, Nat.lt_of_lt_of_le g.size k.size, fun i hi => (World.cell?_of_block (w := w) (a := ⟨b, off + i, none⟩) (k.block b (by omega) g.size)).trans (g.at' i hi)⟩
theorem LaR.up {a w w' : World} {R lo : Nat} {v : Value} {vs : List Value} {ls : List (List Int)} (h : LaR a w R v vs ls) (k : Up lo w w') (hB : lo ≤ a.heap.size) : LaR a w' R v vs ls :=
  ⟨own_up h.own k hB, fun i hi => (h.each i hi).up k hB⟩
theorem imin_of {w w' a : World} {m : Im} {lo bC bF bV bU bP R : Nat} {tC tF tV tU tP : TypeId} {nC nF nV nU nP nA : Nat} {aC aF aV aU aP aA : Option Addr} {cC cF cV cU cP cA : Nat} {vs : List Value}
    (hC : w.ownsRow bC tC 4 (.slice aC nC cC) nC (m.code.flatMap celC)) (hF : w.ownsRow bF tF 3 (.slice aF nF cF) nF (m.funcs.flatMap celF)) (hV : w.ownsRow bV tV 3 (.slice aV nV cV) nV (m.vecs.flatMap celV))
    (hU : w.ownsRow bU tU 1 (.slice aU nU cU) nU (m.init.flatMap celU)) (hP : w.ownsRow bP tP 2 (.slice aP nP cP) nP (m.ports.flatMap celP)) (hA : LaR a w R (.slice aA nA cA) vs m.atoms) (hc : m.code.length ≤ cC) (hm : cC ≤ 9223372036854775807) (k : Up lo w w')
    (h1 : lo ≤ bC) (h2 : lo ≤ bF) (h3 : lo ≤ bV) (h4 : lo ≤ bU) (h5 : lo ≤ bP) (h6 : lo ≤ a.heap.size) : ImIn w' ⟨aC, cC, aF, cF, aV, cV, aU, cU, aP, cP, aA, cA⟩ m :=
  ⟨row_C (own_up hC k h1), row_F (own_up hF k h2), row_V (own_up hV k h3), row_U (own_up hU k h4), row_P (own_up hP k h5), row_A (hA.up k h6), hc, hm⟩
/-- What image answers. -/
def ReP (w : World) (R : Nat) (m : Im) (t : Rd) (e : Ending) (w' : World) : Prop := ∃ hd : Hd, e = .returned (hd.val m) ∧ (∀ w2, Up w.heap.size w' w2 → ImIn w2 hd m) ∧ Rdd w R t w'
set_option maxHeartbeats 8000000 in
set_option maxRecDepth 100000 in
theorem image_any {w : World} {R : Nat} {s : Rd} (h : RdIn w R s) : Calls Tryz.prog 35 #[.pointer (some ⟨R, 0, none⟩)] w (ReP w R (imV s) (imR s)) := by
  have hsz := h.size
  have S0 := Lib.hid (St.start h #[.slice none 0 0, .slice none 0 0, .slice none 0 0, .int .i64 0, .slice none 0 0, .slice none 0 0, .int .i64 0, .slice none 0 0] zim_at 29)
  clear h
  go_enter Tryz.func35, Tryz.ntmps35
  go_wp2_with fail
  revert S0
  generalize (w.alloc _).alloc _ = v0
  intro S0
  have hz0 := S0.out.m.size
  have HC1 := Lib.hid (listF_any S0.out.rdd.rd 64 (by decide))
  refine HC1.out.mono ?_
  rintro e w1 ⟨x1, rfl, o1, h1⟩
  obtain ⟨a1, c1, rfl, l1, m1, -⟩ := own_form o1
  have T1 : Hid (St w w1 R (r1 s) _ _) := Lib.hid (S0.out.call h1)
  have d1 := T1.out.m.at' 1 (by omega)
  have f1 := T1.out.m.fro 1
  simp [zim] at d1
  have S1 := Lib.hid (T1.out.put 1 (by omega) (.slice a1 (liV 64 fnE s).length c1))
  have QF1 := Lib.hid (own_set (M := w.heap.size + 1) (k := 1) o1 (by omega) (.slice a1 (liV 64 fnE s).length c1))
  clear h1 T1 S0 HC1 o1
  go_wp2_with fail
  clear d1 f1
  revert S1 QF1
  generalize w1.setCell _ _ = v1
  intro S1 OF
  have hz1 := S1.out.m.size
  have HC2 := Lib.hid (listV_any S1.out.rdd.rd 32 (by decide))
  refine HC2.out.mono ?_
  rintro e w2 ⟨x2, rfl, o2, h2⟩
  obtain ⟨a2, c2, rfl, l2, m2, -⟩ := own_form o2
  have T2 : Hid (St w w2 R (r2 s) _ _) := Lib.hid (S1.out.call h2)
  have OF2 := Lib.hid (own_gx OF.out h2.gx (by omega))
  have d2 := T2.out.m.at' 2 (by omega)
  have f2 := T2.out.m.fro 2
  simp [zim, upd] at d2
  have S2 := Lib.hid (T2.out.put 2 (by omega) (.slice a2 (liV 32 vcE (r1 s)).length c2))
  have QF2 := Lib.hid (own_set (M := w.heap.size + 1) (k := 2) OF2.out (by omega) (.slice a2 (liV 32 vcE (r1 s)).length c2))
  have QV2 := Lib.hid (own_set (M := w.heap.size + 1) (k := 2) o2 (by omega) (.slice a2 (liV 32 vcE (r1 s)).length c2))
  clear h2 T2 S1 HC2 o2 OF OF2
  go_wp2_with fail
  clear d2 f2
  revert S2 QF2 QV2
  generalize w2.setCell _ _ = v2
  intro S2 OF OV
  have hz2 := S2.out.m.size
  have HC3 := Lib.hid (number_any S2.out.rdd.rd)
  refine HC3.out.mono ?_
  rintro e w3 ⟨rfl, h3⟩
  have T3 : Hid (St w w3 R (r3 s) _ _) := Lib.hid (S2.out.call h3)
  have OF3 := Lib.hid (own_gx OF.out h3.gx (by omega))
  have OV3 := Lib.hid (own_gx OV.out h3.gx (by omega))
  have d3 := T3.out.m.at' 3 (by omega)
  have f3 := T3.out.m.fro 3
  simp [zim, upd] at d3
  have S3 := Lib.hid (T3.out.put 3 (by omega) (.int .i64 (nmV (r2 s) : Nat)))
  have QF3 := Lib.hid (own_set (M := w.heap.size + 1) (k := 3) OF3.out (by omega) (.int .i64 (nmV (r2 s) : Nat)))
  have QV3 := Lib.hid (own_set (M := w.heap.size + 1) (k := 3) OV3.out (by omega) (.int .i64 (nmV (r2 s) : Nat)))
  clear h3 T3 S2 HC3 OF OV OF3 OV3
  go_wp2_with fail
  clear d3 f3
  revert S3 QF3 QV3
  generalize w3.setCell _ _ = v3
  intro S3 OF OV
  have hz3 := S3.out.m.size
  have HC4 := Lib.hid (listU_any S3.out.rdd.rd 4096 (by decide))
  refine HC4.out.mono ?_
  rintro e w4 ⟨x4, rfl, o4, h4⟩
  obtain ⟨a4, c4, rfl, l4, m4, -⟩ := own_form o4
  have T4 : Hid (St w w4 R (r4 s) _ _) := Lib.hid (S3.out.call h4)
  have OF4 := Lib.hid (own_gx OF.out h4.gx (by omega))
  have OV4 := Lib.hid (own_gx OV.out h4.gx (by omega))
  have d4 := T4.out.m.at' 4 (by omega)
  have f4 := T4.out.m.fro 4
  simp [zim, upd] at d4
  have S4 := Lib.hid (T4.out.put 4 (by omega) (.slice a4 (liV 4096 nmE (r3 s)).length c4))
  have QF4 := Lib.hid (own_set (M := w.heap.size + 1) (k := 4) OF4.out (by omega) (.slice a4 (liV 4096 nmE (r3 s)).length c4))
  have QV4 := Lib.hid (own_set (M := w.heap.size + 1) (k := 4) OV4.out (by omega) (.slice a4 (liV 4096 nmE (r3 s)).length c4))
  have QU4 := Lib.hid (own_set (M := w.heap.size + 1) (k := 4) o4 (by omega) (.slice a4 (liV 4096 nmE (r3 s)).length c4))
  clear h4 T4 S3 HC4 o4 OF OV OF4 OV4
  go_wp2_with fail
  clear d4 f4
  revert S4 QF4 QV4 QU4
  generalize w4.setCell _ _ = v4
  intro S4 OF OV OU
  have hz4 := S4.out.m.size
  have HC5 := Lib.hid (listP_any S4.out.rdd.rd 32 (by decide))
  refine HC5.out.mono ?_
  rintro e w5 ⟨x5, rfl, o5, h5⟩
  obtain ⟨a5, c5, rfl, l5, m5, -⟩ := own_form o5
  have T5 : Hid (St w w5 R (r5 s) _ _) := Lib.hid (S4.out.call h5)
  have OF5 := Lib.hid (own_gx OF.out h5.gx (by omega))
  have OV5 := Lib.hid (own_gx OV.out h5.gx (by omega))
  have OU5 := Lib.hid (own_gx OU.out h5.gx (by omega))
  have d5 := T5.out.m.at' 5 (by omega)
  have f5 := T5.out.m.fro 5
  simp [zim, upd] at d5
  have S5 := Lib.hid (T5.out.put 5 (by omega) (.slice a5 (liV 32 ptE (r4 s)).length c5))
  have QF5 := Lib.hid (own_set (M := w.heap.size + 1) (k := 5) OF5.out (by omega) (.slice a5 (liV 32 ptE (r4 s)).length c5))
  have QV5 := Lib.hid (own_set (M := w.heap.size + 1) (k := 5) OV5.out (by omega) (.slice a5 (liV 32 ptE (r4 s)).length c5))
  have QU5 := Lib.hid (own_set (M := w.heap.size + 1) (k := 5) OU5.out (by omega) (.slice a5 (liV 32 ptE (r4 s)).length c5))
  have QP5 := Lib.hid (own_set (M := w.heap.size + 1) (k := 5) o5 (by omega) (.slice a5 (liV 32 ptE (r4 s)).length c5))
  clear h5 T5 S4 HC5 o5 OF OV OU OF5 OV5 OU5
  go_wp2_with fail
  clear d5 f5
  revert S5 QF5 QV5 QU5 QP5
  generalize w5.setCell _ _ = v5
  intro S5 OF OV OU OP
  have hz5 := S5.out.m.size
  have HC6 := Lib.hid (number_any S5.out.rdd.rd)
  refine HC6.out.mono ?_
  rintro e w6 ⟨rfl, h6⟩
  have T6 : Hid (St w w6 R (r6 s) _ _) := Lib.hid (S5.out.call h6)
  have OF6 := Lib.hid (own_gx OF.out h6.gx (by omega))
  have OV6 := Lib.hid (own_gx OV.out h6.gx (by omega))
  have OU6 := Lib.hid (own_gx OU.out h6.gx (by omega))
  have OP6 := Lib.hid (own_gx OP.out h6.gx (by omega))
  have d6 := T6.out.m.at' 6 (by omega)
  have f6 := T6.out.m.fro 6
  simp [zim, upd] at d6
  have S6 := Lib.hid (T6.out.put 6 (by omega) (.int .i64 (nmV (r5 s) : Nat)))
  have QF6 := Lib.hid (own_set (M := w.heap.size + 1) (k := 6) OF6.out (by omega) (.int .i64 (nmV (r5 s) : Nat)))
  have QV6 := Lib.hid (own_set (M := w.heap.size + 1) (k := 6) OV6.out (by omega) (.int .i64 (nmV (r5 s) : Nat)))
  have QU6 := Lib.hid (own_set (M := w.heap.size + 1) (k := 6) OU6.out (by omega) (.int .i64 (nmV (r5 s) : Nat)))
  have QP6 := Lib.hid (own_set (M := w.heap.size + 1) (k := 6) OP6.out (by omega) (.int .i64 (nmV (r5 s) : Nat)))
  clear h6 T6 S5 HC6 OF OV OU OP OF6 OV6 OU6 OP6
  go_wp2_with fail
  clear d6 f6
  revert S6 QF6 QV6 QU6 QP6
  generalize w6.setCell _ _ = v6
  intro S6 OF OV OU OP
  have hz6 := S6.out.m.size
  have HC7 := Lib.hid (listA_any S6.out.rdd.rd 64 (by decide))
  refine HC7.out.mono ?_
  rintro e w7 ⟨x7, vs7, rfl, o7, h7⟩
  obtain ⟨a7, c7, rfl, l7, m7, -⟩ := own_form o7.own
  have T7 : Hid (St w w7 R (r7 s) _ _) := Lib.hid (S6.out.call h7)
  have OF7 := Lib.hid (own_gx OF.out h7.gx (by omega))
  have OV7 := Lib.hid (own_gx OV.out h7.gx (by omega))
  have OU7 := Lib.hid (own_gx OU.out h7.gx (by omega))
  have OP7 := Lib.hid (own_gx OP.out h7.gx (by omega))
  have d7 := T7.out.m.at' 7 (by omega)
  have f7 := T7.out.m.fro 7
  simp [zim, upd] at d7
  have S7 := Lib.hid (T7.out.put 7 (by omega) (.slice a7 (liV 64 atE (r6 s)).length c7))
  have QF7 := Lib.hid (own_set (M := w.heap.size + 1) (k := 7) OF7.out (by omega) (.slice a7 (liV 64 atE (r6 s)).length c7))
  have QV7 := Lib.hid (own_set (M := w.heap.size + 1) (k := 7) OV7.out (by omega) (.slice a7 (liV 64 atE (r6 s)).length c7))
  have QU7 := Lib.hid (own_set (M := w.heap.size + 1) (k := 7) OU7.out (by omega) (.slice a7 (liV 64 atE (r6 s)).length c7))
  have QP7 := Lib.hid (own_set (M := w.heap.size + 1) (k := 7) OP7.out (by omega) (.slice a7 (liV 64 atE (r6 s)).length c7))
  have QA7 := Lib.hid (o7.gx (Gx.set (w.heap.size + 1) 7 w7 (.slice a7 (liV 64 atE (r6 s)).length c7)) (by omega))
  clear h7 T7 S6 HC7 o7 OF OV OU OP OF7 OV7 OU7 OP7
  go_wp2_with fail
  clear d7 f7
  revert S7 QF7 QV7 QU7 QP7 QA7
  generalize w7.setCell _ _ = v7
  intro S7 OF OV OU OP OA
  have hz7 := S7.out.m.size
  have HC8 := Lib.hid (listC_any S7.out.rdd.rd 16384 (by decide))
  refine HC8.out.mono ?_
  rintro e w8 ⟨x8, rfl, o8, h8⟩
  obtain ⟨a8, c8, rfl, l8, m8, -⟩ := own_form o8
  have T8 : Hid (St w w8 R (imR s) _ _) := Lib.hid (S7.out.call h8)
  have OF8 := Lib.hid (own_gx OF.out h8.gx (by omega))
  have OV8 := Lib.hid (own_gx OV.out h8.gx (by omega))
  have OU8 := Lib.hid (own_gx OU.out h8.gx (by omega))
  have OP8 := Lib.hid (own_gx OP.out h8.gx (by omega))
  have OA8 := Lib.hid (OA.out.gx h8.gx (by omega))
  have d0 := T8.out.m.at' 0 (by omega)
  have e0 := T8.out.r.at' 0 (by omega)
  have f0 := T8.out.m.fro 0
  have g0 := T8.out.r.fro 0
  have d1 := T8.out.m.at' 1 (by omega)
  have e1 := T8.out.r.at' 1 (by omega)
  have f1 := T8.out.m.fro 1
  have g1 := T8.out.r.fro 1
  have d2 := T8.out.m.at' 2 (by omega)
  have e2 := T8.out.r.at' 2 (by omega)
  have f2 := T8.out.m.fro 2
  have g2 := T8.out.r.fro 2
  have d3 := T8.out.m.at' 3 (by omega)
  have e3 := T8.out.r.at' 3 (by omega)
  have f3 := T8.out.m.fro 3
  have g3 := T8.out.r.fro 3
  have d4 := T8.out.m.at' 4 (by omega)
  have e4 := T8.out.r.at' 4 (by omega)
  have f4 := T8.out.m.fro 4
  have g4 := T8.out.r.fro 4
  have d5 := T8.out.m.at' 5 (by omega)
  have e5 := T8.out.r.at' 5 (by omega)
  have f5 := T8.out.m.fro 5
  have g5 := T8.out.r.fro 5
  have d6 := T8.out.m.at' 6 (by omega)
  have e6 := T8.out.r.at' 6 (by omega)
  have f6 := T8.out.m.fro 6
  have g6 := T8.out.r.fro 6
  have d7 := T8.out.m.at' 7 (by omega)
  have e7 := T8.out.r.at' 7 (by omega)
  have f7 := T8.out.m.fro 7
  have g7 := T8.out.r.fro 7
  simp [zim, upd] at d0 e0 d1 e1 d2 e2 d3 e3 d4 e4 d5 e5 d6 e6 d7 e7
  have sa := T8.out.m.size
  have sb := T8.out.r.size
  have O8 := Lib.hid o8
  have R8 := Lib.hid T8.out.rdd
  clear h8 T8 S7 HC8 o8 OF OV OU OP OA
  go_wp2
  refine bodyPost_ret (v := (Hd.mk a8 c8 a1 c1 a2 c2 a4 c4 a5 c5 a7 c7).val (imV s)) ?_ rfl ⟨Hd.mk a8 c8 a1 c1 a2 c2 a4 c4 a5 c5 a7 c7, rfl, ?_, ?_⟩
  · simp [results, Tryz.results35, go_sem, *]
    rfl
  · intro w' u
    refine imin_of O8.out OF8.out OV8.out OU8.out OP8.out OA8.out l8 m8 (lo := w.heap.size + 2) (Up.trans ?_ (u.mono (by omega))) (by omega) (by omega) (by omega) (by omega) (by omega) (by omega)
    repeat (refine Up.set ?_ (by omega) _ _)
    exact Up.refl _ _
  · repeat (refine Rdd.set ?_ (by omega) hsz _ _)
    exact R8.out
end Im
end Go.Proofs.YtaeblnlbelebkaaGreatDoor
