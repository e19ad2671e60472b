/-
  WALKS: package ast: Size and Deep. Own work.
-/
import Derived.Test.YtbedcplkcaanhaaAsProg
namespace Go.Proofs.Ytbedcplkcaanhaa
namespace As
open Go.RowKit Go Rg Go.Shelf
set_option linter.unusedVariables false
attribute [local go_sem] Oper.semAt_some

/-- The parts of a program's functions. -/
def ptsL (fs : List Dc) : List (Int × Pt) := partsL (flatS 1 (bodL fs))
/-- What is asked of a program in memory. -/
structure PgIn (w : World) (N : Nat) (p : Pg) : Prop where
  fs : DcsIn w N p.fa p.fs
  len : p.fs.length ≤ 1000000
  deep : DeepQ (bodL p.fs)
  fit : FitQ (ptsL p.fs)
  few : (ptsL p.fs).length ≤ 1000000000
theorem PgIn.keep {w w' : World} {N : Nat} {V : Nat → Prop} (k : Keep V w w') (hV : ∀ b, V b → N ≤ b) {p : Pg} (h : PgIn w N p) : PgIn w' N p := ⟨h.fs.keep k hV, h.len, h.deep, h.fit, h.few⟩
/-- The parts of a program, as an iterator. -/
theorem pts_of {w : World} {bs : List Nat} {v : Value} {N : Nat} {p : Pg} (hp : PgIn w N p) (hN : N ≤ w.heap.size) (hs : SeqB encNS w bs v N (bodL p.fs)) {z : Nat} (hz : z ≤ w.heap.size) (hb : ∀ b ∈ bs, z ≤ b) :
    Calls Try.prog 32 #[v] w fun e w' => ∃ v bs', e = .returned v ∧ Below w.heap.size w w' ∧ SeqB encP w' bs' v N (ptsL p.fs) ∧ ∀ b ∈ bs', z ≤ b :=
  (parts_any hs (bod_trees hp.fs) hN hp.deep.1 hp.deep.2).mono (fun r w' ⟨v, h1, h2, _, h4⟩ => ⟨v, _, h1, h2, h4, fun b hm => (List.mem_cons.1 hm).elim (fun e => by omega) (hb b)⟩)
theorem setCell_rowA {w : World} {b : Nat} {v u : Value} {t : TypeId} (h : w.heap[b]? = some (.cells #[v] t)) : (w.setCell ⟨b, 0, none⟩ u).heap[b]? = some (.cells #[u] t) := by
  simp [World.setCell, Array.getElem?_modify, h]
set_option maxHeartbeats 4000000 in
set_option maxRecDepth 100000 in
theorem Size_any (p : Pg) (w : World) {N : Nat} (hN : N ≤ w.heap.size) (hk : PgIn w N p) (z : Int) (hz : ((ptsL p.fs).length : Int) = z) :
    Calls Try.prog 11 #[p.val] w fun r w' => r = .returned (.int .i64 z) ∧ Below w.heap.size w w' := by
  have HK := Lib.hid hk
  have HZ := Lib.hid hz
  clear hk hz
  refine (callsIn_wide (n := 5)).1 ?_
  unfold Pg.val
  refine callsIn_of_wp_marks Try.func11 rfl trivial ?_ rfl
  simp only [Try.ntmps11, List.size_toArray, List.length_cons, List.length_nil, Nat.reduceAdd, Nat.reduceSub, Array.replicate_succ, Array.replicate_zero, List.push_toArray, List.append_toArray, List.nil_append, List.cons_append]
  have hent1 : ∀ (args : Array Value) (W' : World), Sem.run Try.prog (callFunc 33 args) W' = .ok (.enter 33 args) W' := fun _ _ => by kernel_rfl
  have hent2 : ∀ (args : Array Value) (W' : World), Sem.run Try.prog (callFunc 32 args) W' = .ok (.enter 32 args) W' := fun _ _ => by kernel_rfl
  gi_wp2
  refine ⟨trivial, ?_⟩
  have q3 := at2_1 w (.cells #[.int .i64 p.st, .slice p.ga p.gn p.gc, .slice p.ta p.tn p.tc, .slice p.fa p.fs.length p.fc] 38) (.cells #[.int .i64 0] 3)
  have b0 : Below w.heap.size w ((w.alloc (.cells #[.int .i64 p.st, .slice p.ga p.gn p.gc, .slice p.ta p.tn p.tc, .slice p.fa p.fs.length p.fc] 38)).alloc (.cells #[.int .i64 0] 3)) := ((Below.refl _ w).alloc (Nat.le_refl _) _).alloc (by simp) _
  have z0 : ((w.alloc (.cells #[.int .i64 p.st, .slice p.ga p.gn p.gc, .slice p.ta p.tn p.tc, .slice p.fa p.fs.length p.fc] 38)).alloc (.cells #[.int .i64 0] 3)).heap.size = w.heap.size + 2 := by simp
  generalize (w.alloc (.cells #[.int .i64 p.st, .slice p.ga p.gn p.gc, .slice p.ta p.tn p.tc, .slice p.fa p.fs.length p.fc] 38)).alloc (.cells #[.int .i64 0] 3) = w0 at *
  have HK0 : PgIn w0 N p := HK.out.keep (V := fun _ => False) (Keep.of b0) (fun _ h => h.elim)
  refine (callsIn_wide.2 (bodies_any p w0 (N := N) (by omega) HK0.fs HK0.len)).mono ?_
  rintro r w4 ⟨v, bs, rfl, b4, s4, hbb⟩
  have HK4 := Lib.hid (HK0.keep (V := fun _ => False) (Keep.of b4) (fun _ h => h.elim))
  have HS4 := Lib.hid s4
  obtain ⟨gf0, lb0, rfl, _⟩ := s4
  have hN4 : N ≤ w4.heap.size := by have := b4.size; omega
  have HB4 := Lib.hid (b0.trans (b4.mono (by omega)))
  have q4 := (b4.block (w.heap.size + 1) (by omega)).trans q3
  have hz4 : w.heap.size + 1 < w4.heap.size := by have := b4.size; omega
  have HBB : Hid (∀ b ∈ bs, w.heap.size + 2 ≤ b) := Lib.hid (fun b hb => by have := hbb b hb; omega)
  clear b0 b4 q3 HK0 z0 hbb
  gi_wp2
  refine ⟨trivial, ?_⟩
  refine (callsIn_wide.2 (pts_of HK4.out hN4 HS4.out (z := w.heap.size + 2) (by omega) HBB.out)).mono ?_
  rintro r w1 ⟨v1, bs1, rfl, b1, s1, hb1⟩
  obtain ⟨gf, lb, rfl, eg, hbs, hsq⟩ := s1
  have EG := Lib.hid eg
  have HBS := Lib.hid hbs
  have HSQ := Lib.hid hsq
  have q5 := (b1.block (w.heap.size + 1) hz4).trans q4
  have HB1 := Lib.hid (HB4.out.trans (b1.mono (by omega)))
  have hz1 : w.heap.size + 1 < w1.heap.size := by have := b1.size; omega
  have hN1 : N ≤ w1.heap.size := by have := b1.size; omega
  have HBG := Lib.hid hb1
  clear eg hbs hsq b1 q4 hb1
  gi_wp2
  refine range_out (fun _ => trivial) rfl rfl (gf := gf) (lb := lb) rfl (fun args W => EG.out args W) (encs := encP) (N := N) (bs := bs1) (xs := ptsL p.fs) (fun W bW => HSQ.out W bW) (fun _ => rfl)
    (fun b => b = w.heap.size + 1) ?_ ?_
    (fun ys W => Keep (fun b => b = w.heap.size + 1) w1 W ∧ W.heap[w.heap.size + 1]? = some (.cells #[.int .i64 ys.length] 3))
    (fun c ys W => False) ?_ ?_ ⟨Keep.refl _ _, q5⟩
    (fun x a' W => a' = { tmps := #[.agg #[.int .i64 p.st, .slice p.ga p.gn p.gc, .slice p.ta p.tn p.tc, .slice p.fa p.fs.length p.fc], .pointer (some ⟨w.heap.size, 0, none⟩), .int .i64 0, .pointer (some ⟨w.heap.size + 1, 0, none⟩), .agg #[.int .i64 p.st, .slice p.ga p.gn p.gc, .slice p.ta p.tn p.tc, .slice p.fa p.fs.length p.fc], .func (.func gf0) #[] lb0, .func (.func gf) #[] lb, .int .i64 x.1, x.2.val, undef, undef, undef], defers := [] }) ?_ ?assign ?body ?done ?stop
  · rintro b rfl
    exact ⟨fun e => e.elim (fun e => by omega) (fun e => by have := HBG.out _ e; omega), hz1⟩
  · rintro b (e | e)
    · omega
    · exact HBS.out b e
  · rintro ys A B k ⟨kk, h⟩
    exact ⟨keep_more kk k, (k.block _ hz1).trans h⟩
  · rintro c ys A B k h
    exact h
  · rintro L x a' W r o hL rfl
    rfl
  case assign =>
    intro L m pre x W K hL hi hr hK
    unfold encP
    gi_wp2
    exact hK _ _ (Keep.refl _ W) hi (by go_simp)
  case body =>
    rintro L m pre x a' W hL hpx ⟨kk, h⟩ rfl ⟨rr, hrr⟩
    have hlen := hpx.length_le
    have hfew := HK4.out.few
    simp only [List.length_append, List.length_singleton] at hlen
    have c3 : W.cell? ⟨w.heap.size + 1, 0, none⟩ = some (.int .i64 pre.length) := by simp [World.cell?, h]
    have f3 : W.frozen? ⟨w.heap.size + 1, 0, none⟩ = false := by simp [World.frozen?, h]
    have hn0 : (0 : Int) ≤ (pre.length : Int) := Int.natCast_nonneg _
    have hw : IntKind.i64.wrap ((pre.length : Int) + 1) = (pre.length : Int) + 1 := IntWalk.i64_in _ ⟨by omega, by omega⟩
    have HH := Lib.hid (And.intro kk h)
    have HE : Hid (((pre ++ [x]).length : Int) = (pre.length : Int) + 1) := Lib.hid (by simp)
    clear kk h hlen hfew hpx hrr
    obtain ⟨dx, ex⟩ := x
    dsimp only
    generalize (pre.length : Int) = n at *
    gi_wp2
    exact ⟨(Keep.refl (fun b => b = w.heap.size + 1) W).setCell (p := ⟨w.heap.size + 1, 0, none⟩) (.inl rfl) _, HH.out.1.setCell (p := ⟨w.heap.size + 1, 0, none⟩) (.inl rfl) _, by rw [HE.out]; exact setCell_rowA HH.out.2⟩
  case done =>
    rintro W ⟨kk, h⟩ hD
    have c3 : W.cell? ⟨w.heap.size + 1, 0, none⟩ = some (.int .i64 (ptsL p.fs).length) := by simp [World.cell?, h]
    have HKK := Lib.hid kk
    rw [HZ.out] at c3
    clear kk h
    gi_wp2
    refine ⟨by simp, .inl ⟨_, _, rfl, run_takeDeferred hD, ?_⟩⟩
    refine ⟨.int .i64 z, by simp [results, Try.results11, go_sem], rfl, ?_⟩
    exact HB1.out.trans ((HKK.out.putObj (.inr (Nat.le_refl _)) _).below (by omega) (fun i h => by omega))
  case stop =>
    rintro c pre W hp h
    exact h.elim
/-- How deep parts nest at most. -/
def maxD {α : Type} (xs : List (Int × α)) : Int := xs.foldl (fun m p => max m p.1) 0
theorem maxD_snoc {α : Type} (xs : List (Int × α)) (x : Int × α) : maxD (xs ++ [x]) = max (maxD xs) x.1 := by simp [maxD, List.foldl_append]
set_option maxHeartbeats 4000000 in
set_option maxRecDepth 100000 in
theorem Deep_any (p : Pg) (w : World) {N : Nat} (hN : N ≤ w.heap.size) (hk : PgIn w N p) (z : Int) (hz : maxD (ptsL p.fs) = z) :
    Calls Try.prog 12 #[p.val] w fun r w' => r = .returned (.int .i64 z) ∧ Below w.heap.size w w' := by
  have HK := Lib.hid hk
  have HZ := Lib.hid hz
  clear hk hz
  refine (callsIn_wide (n := 5)).1 ?_
  unfold Pg.val
  refine callsIn_of_wp_marks Try.func12 rfl trivial ?_ rfl
  simp only [Try.ntmps12, List.size_toArray, List.length_cons, List.length_nil, Nat.reduceAdd, Nat.reduceSub, Array.replicate_succ, Array.replicate_zero, List.push_toArray, List.append_toArray, List.nil_append, List.cons_append]
  have hent1 : ∀ (args : Array Value) (W' : World), Sem.run Try.prog (callFunc 33 args) W' = .ok (.enter 33 args) W' := fun _ _ => by kernel_rfl
  have hent2 : ∀ (args : Array Value) (W' : World), Sem.run Try.prog (callFunc 32 args) W' = .ok (.enter 32 args) W' := fun _ _ => by kernel_rfl
  gi_wp2
  refine ⟨trivial, ?_⟩
  have q3 := at2_1 w (.cells #[.int .i64 p.st, .slice p.ga p.gn p.gc, .slice p.ta p.tn p.tc, .slice p.fa p.fs.length p.fc] 38) (.cells #[.int .i64 0] 3)
  have b0 : Below w.heap.size w ((w.alloc (.cells #[.int .i64 p.st, .slice p.ga p.gn p.gc, .slice p.ta p.tn p.tc, .slice p.fa p.fs.length p.fc] 38)).alloc (.cells #[.int .i64 0] 3)) := ((Below.refl _ w).alloc (Nat.le_refl _) _).alloc (by simp) _
  have z0 : ((w.alloc (.cells #[.int .i64 p.st, .slice p.ga p.gn p.gc, .slice p.ta p.tn p.tc, .slice p.fa p.fs.length p.fc] 38)).alloc (.cells #[.int .i64 0] 3)).heap.size = w.heap.size + 2 := by simp
  generalize (w.alloc (.cells #[.int .i64 p.st, .slice p.ga p.gn p.gc, .slice p.ta p.tn p.tc, .slice p.fa p.fs.length p.fc] 38)).alloc (.cells #[.int .i64 0] 3) = w0 at *
  have HK0 : PgIn w0 N p := HK.out.keep (V := fun _ => False) (Keep.of b0) (fun _ h => h.elim)
  refine (callsIn_wide.2 (bodies_any p w0 (N := N) (by omega) HK0.fs HK0.len)).mono ?_
  rintro r w4 ⟨v, bs, rfl, b4, s4, hbb⟩
  have HK4 := Lib.hid (HK0.keep (V := fun _ => False) (Keep.of b4) (fun _ h => h.elim))
  have HS4 := Lib.hid s4
  obtain ⟨gf0, lb0, rfl, _⟩ := s4
  have hN4 : N ≤ w4.heap.size := by have := b4.size; omega
  have HB4 := Lib.hid (b0.trans (b4.mono (by omega)))
  have q4 := (b4.block (w.heap.size + 1) (by omega)).trans q3
  have hz4 : w.heap.size + 1 < w4.heap.size := by have := b4.size; omega
  have HBB : Hid (∀ b ∈ bs, w.heap.size + 2 ≤ b) := Lib.hid (fun b hb => by have := hbb b hb; omega)
  clear b0 b4 q3 HK0 z0 hbb
  gi_wp2
  refine ⟨trivial, ?_⟩
  refine (callsIn_wide.2 (pts_of HK4.out hN4 HS4.out (z := w.heap.size + 2) (by omega) HBB.out)).mono ?_
  rintro r w1 ⟨v1, bs1, rfl, b1, s1, hb1⟩
  obtain ⟨gf, lb, rfl, eg, hbs, hsq⟩ := s1
  have EG := Lib.hid eg
  have HBS := Lib.hid hbs
  have HSQ := Lib.hid hsq
  have q5 := (b1.block (w.heap.size + 1) hz4).trans q4
  have HB1 := Lib.hid (HB4.out.trans (b1.mono (by omega)))
  have hz1 : w.heap.size + 1 < w1.heap.size := by have := b1.size; omega
  have hN1 : N ≤ w1.heap.size := by have := b1.size; omega
  have HBG := Lib.hid hb1
  clear eg hbs hsq b1 q4 hb1
  gi_wp2
  refine range_out (fun _ => trivial) rfl rfl (gf := gf) (lb := lb) rfl (fun args W => EG.out args W) (encs := encP) (N := N) (bs := bs1) (xs := ptsL p.fs) (fun W bW => HSQ.out W bW) (fun _ => rfl)
    (fun b => b = w.heap.size + 1) ?_ ?_
    (fun ys W => Keep (fun b => b = w.heap.size + 1) w1 W ∧ W.heap[w.heap.size + 1]? = some (.cells #[.int .i64 (maxD ys)] 3))
    (fun c ys W => False) ?_ ?_ ⟨Keep.refl _ _, q5⟩
    (fun x a' W => a' = { tmps := #[.agg #[.int .i64 p.st, .slice p.ga p.gn p.gc, .slice p.ta p.tn p.tc, .slice p.fa p.fs.length p.fc], .pointer (some ⟨w.heap.size, 0, none⟩), .int .i64 0, .pointer (some ⟨w.heap.size + 1, 0, none⟩), .int .i64 x.1, .agg #[.int .i64 p.st, .slice p.ga p.gn p.gc, .slice p.ta p.tn p.tc, .slice p.fa p.fs.length p.fc], .func (.func gf0) #[] lb0, .func (.func gf) #[] lb, .int .i64 x.1, x.2.val, undef, undef, undef, undef], defers := [] }) ?_ ?assign ?body ?done ?stop
  · rintro b rfl
    exact ⟨fun e => e.elim (fun e => by omega) (fun e => by have := HBG.out _ e; omega), hz1⟩
  · rintro b (e | e)
    · omega
    · exact HBS.out b e
  · rintro ys A B k ⟨kk, h⟩
    exact ⟨keep_more kk k, (k.block _ hz1).trans h⟩
  · rintro c ys A B k h
    exact h
  · rintro L x a' W r o hL rfl
    rfl
  case assign =>
    intro L m pre x W K hL hi hr hK
    unfold encP
    gi_wp2
    exact hK _ _ (Keep.refl _ W) hi rfl
  case body =>
    rintro L m pre x a' W hL hpx ⟨kk, h⟩ rfl ⟨rr, hrr⟩
    have c3 : W.cell? ⟨w.heap.size + 1, 0, none⟩ = some (.int .i64 (maxD pre)) := by simp [World.cell?, h]
    have f3 : W.frozen? ⟨w.heap.size + 1, 0, none⟩ = false := by simp [World.frozen?, h]
    have HH := Lib.hid (And.intro kk h)
    obtain ⟨dx, ex⟩ := x
    have HE : Hid (maxD (pre ++ [(dx, ex)]) = max (maxD pre) dx) := Lib.hid (maxD_snoc _ _)
    clear kk h hpx hrr
    dsimp only
    generalize maxD pre = n at *
    by_cases hm : n < dx
    · have HE2 : Hid (maxD (pre ++ [(dx, ex)]) = dx) := Lib.hid (by rw [HE.out]; omega)
      gi_wp2
      exact ⟨(Keep.refl (fun b => b = w.heap.size + 1) W).setCell (p := ⟨w.heap.size + 1, 0, none⟩) (.inl rfl) _, HH.out.1.setCell (p := ⟨w.heap.size + 1, 0, none⟩) (.inl rfl) _, by rw [HE2.out]; exact setCell_rowA HH.out.2⟩
    · have HE2 : Hid (maxD (pre ++ [(dx, ex)]) = n) := Lib.hid (by rw [HE.out]; omega)
      gi_wp2
      exact ⟨(Keep.refl (fun b => b = w.heap.size + 1) W).setCell (p := ⟨w.heap.size + 1, 0, none⟩) (.inl rfl) _, HH.out.1.setCell (p := ⟨w.heap.size + 1, 0, none⟩) (.inl rfl) _, by rw [HE2.out]; exact setCell_rowA HH.out.2⟩
  case done =>
    rintro W ⟨kk, h⟩ hD
    have c3 : W.cell? ⟨w.heap.size + 1, 0, none⟩ = some (.int .i64 (maxD (ptsL p.fs))) := by simp [World.cell?, h]
    have HKK := Lib.hid kk
    rw [HZ.out] at c3
    clear kk h
    gi_wp2
    refine ⟨by simp, .inl ⟨_, _, rfl, run_takeDeferred hD, ?_⟩⟩
    refine ⟨.int .i64 z, by simp [results, Try.results12, go_sem], rfl, ?_⟩
    exact HB1.out.trans ((HKK.out.putObj (.inr (Nat.le_refl _)) _).below (by omega) (fun i h => by omega))
  case stop =>
    rintro c pre W hp h
    exact h.elim
end As
end Go.Proofs.Ytbedcplkcaanhaa
