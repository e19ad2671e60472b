/-
  WALKS: package ast: the parts of statements: they, and their expressions, with their depths. Own work.
-/
import Derived.Test.YtbedcplkcaanhaaAsExprsS
namespace Go.Proofs.Ytbedcplkcaanhaa
namespace As
open Go.RowKit Go Rg Go.Shelf
set_option linter.unusedVariables false
attribute [local go_sem] Oper.semAt_some

/-- A part: a statement or an expression. -/
inductive Pt where
  | s (x : St)
  | e (x : Nd)
def Pt.val : Pt → Value
  | .s x => .iface 105 x.val
  | .e x => .iface 89 x.val
def encP (p : Int × Pt) : Array Value := #[.int .i64 p.1, p.2.val]
def ofE (q : Int × Nd) : Int × Pt := (q.1, .e q.2)
/-- A statement and its expressions. -/
def oneP (p : Int × St) : List (Int × Pt) := (p.1, .s p.2) :: (flatF (p.1 + 1) p.2.xs).map ofE
def partsL (xs : List (Int × St)) : List (Int × Pt) := xs.flatMap oneP
theorem partsL_app (a b : List (Int × St)) : partsL (a ++ b) = partsL a ++ partsL b := by simp [partsL]
theorem partsL_one (p : Int × St) : partsL [p] = oneP p := by simp [partsL]
/-- The box of the statement at hand. -/
def BoxP (z : Nat) (tm : Value → Array Value) (x : Int × St) (a' : Act) (W : World) : Prop :=
  ∃ B, z ≤ B ∧ W.heap[B]? = some (.cells #[.int .i64 x.2.k, .int .i64 x.2.li, .int .i64 x.2.t, .int .i64 x.2.n, .string (bytesOf x.2.nm), .slice x.2.ns.ao x.2.ns.l.length x.2.ns.cap, .slice x.2.ix.ao x.2.ix.l.length x.2.ix.cap, .slice x.2.ex.ao x.2.ex.l.length x.2.ex.cap, .slice x.2.ta x.2.th.length x.2.tc, .slice x.2.la x.2.el.length x.2.lc] 105) ∧ a' = { tmps := tm (.pointer (some ⟨B, 0, none⟩)), defers := [] }
/-- The box of the expression at hand. -/
def BoxQ (z : Nat) (tm : Value → Array Value) (x : Int × Nd) (a' : Act) (W : World) : Prop :=
  ∃ B, z ≤ B ∧ W.heap[B]? = some (.cells #[.int .i64 x.2.k, .int .i64 x.2.o, .int .i64 x.2.t, .int .u32 x.2.n, .string (bytesOf x.2.nm), .slice x.2.ao x.2.kids.length x.2.cap] 89) ∧ a' = { tmps := tm (.pointer (some ⟨B, 0, none⟩)), defers := [] }
set_option maxHeartbeats 4000000 in
set_option maxRecDepth 100000 in
theorem parts_seq {W : World} {bs : List Nat} {r : Value} {N B1 : Nat} {T : List St} (hs : SeqB encNS W bs r N T) (ht : TreesS W N T) (hN : N ≤ W.heap.size) (c1 : W.cell? ⟨B1, 0, none⟩ = some r) (hd : (1 : Int) + htS T ≤ 9223372036854775807)
    (hf : ∀ p ∈ flatS 1 T, 0 ≤ p.1 ∧ p.1 + 1 + htF p.2.xs ≤ 9223372036854775807) :
    SeqAt Fence.wide Try.prog 54 #[.pointer (some ⟨B1, 0, none⟩)] encP N (B1 :: bs) (partsL (flatS 1 T)) W := by
  intro l J Jx V hV hJ hJx hY h0 n
  have z1 := World.block_lt_of_cell? W _ c1
  dsimp only at z1
  have HS := Lib.hid hs
  obtain ⟨gf, lb, rfl, eg, hbs, hsq⟩ := hs
  have HT := Lib.hid ht
  have HF := Lib.hid hf
  have HD := Lib.hid hd
  have HY := Lib.hid hY
  have HJ := Lib.hid (And.intro hJ hJx)
  have HV := Lib.hid hV
  have HBS := Lib.hid hbs
  have H0 := Lib.hid h0
  have HC1 := Lib.hid c1
  clear eg hsq ht hf hd hY hJ hJx hV hbs h0
  refine callsIn_of_wp_marks Try.func54 rfl trivial ?_ rfl
  simp only [Try.ntmps54, List.size_toArray, List.length_cons, List.length_nil, Nat.reduceAdd, Nat.reduceSub, Array.replicate_succ, Array.replicate_zero, List.push_toArray, List.append_toArray, List.nil_append, List.cons_append]
  have hent1 : ∀ (args : Array Value) (W' : World), Sem.run Try.prog (callFunc 55 args) W' = .ok (.enter 55 args) W' := fun _ _ => by kernel_rfl
  gi_wp2
  refine ⟨trivial, fun h => (by cases h), ?_⟩
  have b0 : Below W.heap.size W (W.alloc (.cells #[.func (.yield l) #[] #[]] 101)) := (Below.refl _ W).alloc (Nat.le_refl _) _
  have q2 : (W.alloc (.cells #[.func (.yield l) #[] #[]] 101)).cell? ⟨W.heap.size, 0, none⟩ = some (.func (.yield l) #[] #[]) := by go_simp
  have z0 : (W.alloc (.cells #[.func (.yield l) #[] #[]] 101)).heap.size = W.heap.size + 1 := by simp
  generalize W.alloc (.cells #[.func (.yield l) #[] #[]] 101) = w0 at *
  have t0 : TreesS w0 N T := HT.out.keep (V := fun _ => False) (Keep.of b0) (fun _ h => h.elim)
  refine (callsIn_wide.2 (walk_anyS (d := 1) (by decide) HD.out (HS.out.later b0) t0 (by omega))).mono ?_
  rintro e w1 ⟨v, rfl, b1, zz, hs1⟩
  obtain ⟨gf1, lb1, rfl, eg1, hbs1, hsq1⟩ := hs1
  have bw : Below W.heap.size W w1 := b0.trans (b1.mono (by omega))
  have q2' : w1.cell? ⟨W.heap.size, 0, none⟩ = some (.func (.yield l) #[] #[]) := (b1.cell (p := ⟨W.heap.size, 0, none⟩) (by show W.heap.size < _; omega)).trans q2
  have EG1 := Lib.hid eg1
  have HB1 := Lib.hid hbs1
  have HSQ1 := Lib.hid hsq1
  have HBW := Lib.hid bw
  have HQ2 := Lib.hid q2'
  have t1 : TreesS w1 N T := HT.out.keep (V := fun _ => False) (Keep.of bw) (fun _ h => h.elim)
  have HIN := Lib.hid (in_flat (htS T) T 1 (Nat.le_refl _) t1)
  clear eg1 hbs1 hsq1 bw q2 q2' b0 b1 t0 t1
  gi_wp2
  refine range_out (fun _ => trivial) rfl rfl (gf := gf1) (lb := lb1) rfl (fun args W => EG1.out args W) (encs := encDS) (N := N) (bs := w0.heap.size :: (w0.heap.size + 1) :: bs) (xs := flatS 1 T) (fun W bW => HSQ1.out W bW) (fun _ => rfl)
    V ?_ ?_
    (fun ys W => J (partsL ys) W ∧ Keep V w1 W) (fun c ys W => c = .ret ∧ (∃ q, q <+: partsL (flatS 1 T) ∧ Jx q W) ∧ Keep V w1 W) ?_ ?_ ⟨?_, Keep.refl _ _⟩
    (fun x a' X => BoxP w1.heap.size (fun p => #[.func (.yield l) #[] #[], .pointer (some ⟨B1, 0, none⟩), .pointer (some ⟨W.heap.size, 0, none⟩), .int .i64 x.1, p, undef, undef, .func (.func gf) #[] lb, .func (.func gf1) #[] lb1, .int .i64 x.1, x.2.val,
      undef, undef, undef, undef, undef, undef, undef, undef, undef, undef, undef, undef, undef, undef, undef, undef, undef, undef, undef]) x a' X) ?_ ?assign ?body ?done ?stop
  · intro b hb
    have h := HV.out b hb
    refine ⟨fun e => ?_, by have := HBW.out.size; omega⟩
    rcases e with e | e
    · exact h.1 (.inl e)
    · rcases List.mem_cons.1 e with e | e
      · omega
      rcases List.mem_cons.1 e with e | e
      · omega
      · exact h.1 (.inr (by simp [e]))
  · rintro b (e | e)
    · have := HBW.out.size; omega
    · exact HB1.out b e
  · rintro ys A B k ⟨j, kk⟩
    exact ⟨HJ.out.1 _ _ _ (k.mono (by have := HBW.out.size; omega)) j, keep_more kk k⟩
  · rintro c ys A B k ⟨rfl, ⟨q, hq, j⟩, kk⟩
    exact ⟨rfl, ⟨q, hq, HJ.out.2 _ _ _ (k.mono (by have := HBW.out.size; omega)) j⟩, keep_more kk k⟩
  · exact HJ.out.1 _ _ _ HBW.out H0.out
  · rintro L x a' X r o hL ⟨B, hB1, hB2, rfl⟩
    refine ⟨B, hB1, ?_, rfl⟩
    rw [World.putObj_heap_other (fun e => by subst e; rw [hL] at hB2; cases hB2)]
    exact hB2
  case assign =>
    intro L m pre x X K hL hi hr hK
    unfold encDS St.val
    gi_wp2
    refine hK _ _ ((Keep.refl _ X).alloc _) ⟨HJ.out.1 _ _ _ (((Below.refl _ X).alloc (Nat.le_refl _) _).mono (by have := hi.2.size; have := HBW.out.size; omega)) hi.1, hi.2.alloc _⟩ ⟨X.heap.size, hi.2.size, World.alloc_heap_new X _, rfl⟩
  case body =>
    rintro L m pre x a' X hL hpx ⟨hj, kw⟩ ⟨B, hB1, hBx, rfl⟩ ⟨rr, hrr⟩
    have hxT : x ∈ flatS 1 T := hpx.subset (by simp)
    have hf := HF.out x hxT
    have hin : StIn X N x.2 := (HIN.out x hxT).keep (V := V) kw (fun b hb => Nat.le_of_not_lt (fun g => (HV.out b hb).1 (.inl g)))
    obtain ⟨d, x⟩ := x
    dsimp only at hBx hf hin
    obtain ⟨hf0, hf1⟩ := hf
    have hX3 : Hid (partsL pre ++ [(d, Pt.s x)] ++ (flatF (d + 1) x.xs).map ofE <+: partsL (flatS 1 T)) := Lib.hid (by
      obtain ⟨suf, hsuf⟩ := hpx
      rw [← hsuf, partsL_app, partsL_app, partsL_one]
      simp [oneP])
    have hX1 : Hid (partsL pre ++ [(d, Pt.s x)] <+: partsL (flatS 1 T)) := Lib.hid (List.IsPrefix.trans (List.prefix_append _ _) hX3.out)
    have hXE : Hid (partsL (pre ++ [(d, x)]) = partsL pre ++ [(d, Pt.s x)] ++ (flatF (d + 1) x.xs).map ofE) := Lib.hid (by rw [partsL_app, partsL_one]; simp [oneP])
    have hXz := kw.size
    have hBW : B < X.heap.size := (Array.getElem?_eq_some_iff.1 hBx).1
    have hwz := HBW.out.size
    have nV : ∀ b, W.heap.size ≤ b → ¬ V b := fun b hb e => by have := (HV.out b e).2; omega
    have c2 : X.cell? ⟨W.heap.size, 0, none⟩ = some (.func (.yield l) #[] #[]) := (kw.cell (p := ⟨W.heap.size, 0, none⟩) (by show W.heap.size < _; omega) (nV _ (Nat.le_refl _))).trans HQ2.out
    have x0 : X.cell? ⟨B, 0, none⟩ = some (.int .i64 x.k) := by simp [World.cell?, hBx]
    have x1 : X.cell? ⟨B, 1, none⟩ = some (.int .i64 x.li) := by simp [World.cell?, hBx]
    have x2 : X.cell? ⟨B, 2, none⟩ = some (.int .i64 x.t) := by simp [World.cell?, hBx]
    have x3 : X.cell? ⟨B, 3, none⟩ = some (.int .i64 x.n) := by simp [World.cell?, hBx]
    have x4 : X.cell? ⟨B, 4, none⟩ = some (.string (bytesOf x.nm)) := by simp [World.cell?, hBx]
    have x5 : X.cell? ⟨B, 5, none⟩ = some (.slice x.ns.ao x.ns.l.length x.ns.cap) := by simp [World.cell?, hBx]
    have x6 : X.cell? ⟨B, 6, none⟩ = some (.slice x.ix.ao x.ix.l.length x.ix.cap) := by simp [World.cell?, hBx]
    have x7 : X.cell? ⟨B, 7, none⟩ = some (.slice x.ex.ao x.ex.l.length x.ex.cap) := by simp [World.cell?, hBx]
    have x8 : X.cell? ⟨B, 8, none⟩ = some (.slice x.ta x.th.length x.tc) := by simp [World.cell?, hBx]
    have x9 : X.cell? ⟨B, 9, none⟩ = some (.slice x.la x.el.length x.lc) := by simp [World.cell?, hBx]
    obtain ⟨fn, tmps, assign, body, hy, hR⟩ := HY.out (m - 1) (partsL pre) (d, Pt.s x) X hj hX1.out
    have HKW := Lib.hid kw
    have HHIN := Lib.hid hin
    have hBX := Lib.hid hBx
    have HRR := Lib.hid hrr
    have HF1 := Lib.hid hf1
    have HCX := Lib.hid (And.intro x0 (And.intro x1 (And.intro x2 (And.intro x3 (And.intro x4 (And.intro x5 (And.intro x6 (And.intro x7 (And.intro x8 (And.intro x9 c2))))))))))
    dsimp only [encP, Pt.val, St.val] at hy
    clear kw hin hj hBx hrr hpx
    gi_wp2
    refine ⟨fun h => (by cases h), ?_⟩
    refine RoundIn.mono (show RoundIn (Fence.wide.inRound L) (m - 1) _ l fn tmps assign body X _ from hR) ?_
    rintro e w4 (⟨rfl, j4, k4⟩ | ⟨rfl, j4, k4⟩)
    · have hz4 := k4.size
      have nB : ¬ V B := nV B (by omega)
      have kB : ∀ j, w4.cell? ⟨B, j, none⟩ = X.cell? ⟨B, j, none⟩ := fun j => k4.cell (p := ⟨B, j, none⟩) hBW nB
      have y0 := (kB 0).trans x0
      have y1 := (kB 1).trans x1
      have y2 := (kB 2).trans x2
      have y3 := (kB 3).trans x3
      have y4 := (kB 4).trans x4
      have y5 := (kB 5).trans x5
      have y6 := (kB 6).trans x6
      have y7 := (kB 7).trans x7
      have y8 := (kB 8).trans x8
      have y9 := (kB 9).trans x9
      have yc : w4.cell? ⟨W.heap.size, 0, none⟩ = some (.func (.yield l) #[] #[]) := (k4.cell (p := ⟨W.heap.size, 0, none⟩) (by show W.heap.size < _; omega) (nV _ (Nat.le_refl _))).trans c2
      have yB : w4.heap[B]? = _ := (k4.block B hBW nB).trans hBX.out
      have hLX : L < X.heap.size := (Array.getElem?_eq_some_iff.1 HRR.out).1
      have yL : w4.heap[L]? = _ := (k4.block L hLX (nV L (by omega))).trans HRR.out
      have hin4 : StIn w4 N x := HHIN.out.keep (V := V) k4 (fun b hb => Nat.le_of_not_lt (fun g => (HV.out b hb).1 (.inl g)))
      have hN4 : N ≤ w4.heap.size := by omega
      have K4 := Lib.hid k4
      have YB := Lib.hid yB
      have YL := Lib.hid yL
      have HIN4 := Lib.hid hin4
      have hent2 : ∀ (args : Array Value) (W' : World), Sem.run Try.prog (callFunc 56 args) W' = .ok (.enter 56 args) W' := fun _ _ => by kernel_rfl
      have hent3 : ∀ (args : Array Value) (W' : World), Sem.run Try.prog (callFunc 49 args) W' = .ok (.enter 49 args) W' := fun _ _ => by kernel_rfl
      clear x0 x1 x2 x3 x4 x5 x6 x7 x8 x9 c2 kB hy hR k4 yB yL hin4 
      gi_wp2
      refine ⟨trivial, fun h => (by cases h), ?_⟩
      refine CallsIn.mono (show CallsIn (Fence.wide.inRound L) (m - 1) Try.prog 56 #[x.val] w4 _ from callsIn_wide.2 (exprs_anyS x w4 hN4 HIN4.out)) ?_
      rintro e w5 ⟨v5, rfl, b5, s5⟩
      obtain ⟨bs5, hb5, s5⟩ := s5.open
      have hs5 := Lib.hid s5
      obtain ⟨gf5, lb5, rfl, _⟩ := s5
      have K5 := Lib.hid (K4.out.trans (Keep.of b5))
      have hz5 := b5.size
      have hin5 := Lib.hid (HIN4.out.keep (V := V) (Keep.of b5) (fun b hb => Nat.le_of_not_lt (fun g => (HV.out b hb).1 (.inl g))))
      have yc5 : w5.cell? ⟨W.heap.size, 0, none⟩ = some (.func (.yield l) #[] #[]) := (b5.cell (p := ⟨W.heap.size, 0, none⟩) (by show W.heap.size < _; omega)).trans yc
      have YB5 := Lib.hid ((b5.block B (by omega)).trans YB.out)
      have YL5 := Lib.hid ((b5.block L (by omega)).trans YL.out)
      have HB5 := Lib.hid hb5
      have HB45 := Lib.hid b5
      have ht5 : Trees w5 N x.xs := fun y hy => by
        rcases List.mem_append.1 hy with hy | hy
        · exact hin5.out.ix.trees y hy
        · exact hin5.out.ex.trees y hy
      have HT5 := Lib.hid ht5
      have hwr : IntKind.i64.wrap (d + 1) = d + 1 := IntWalk.i64_in _ ⟨by omega, by omega⟩
      have hd0 : (0 : Int) ≤ d + 1 := by omega
      have hN5 : N ≤ w5.heap.size := by omega
      have HC6 := Lib.hid (walk_any (d := d + 1) hd0 HF1.out hs5.out HT5.out hN5)
      clear hb5 b5 ht5 yc YB YL HIN4 y0 y1 y2 y3 y4 y5 y6 y7 y8 y9 nB
      gi_wp2
      refine ⟨trivial, fun h => (by cases h), ?_⟩
      refine CallsIn.mono (show CallsIn (Fence.wide.inRound L) (m - 1) Try.prog 49 #[.func (.func gf5) #[] lb5, .int .i64 (d + 1)] w5 _ from callsIn_wide.2 HC6.out) ?_
      rintro e w6 ⟨v6, rfl, b6, hz6, s6⟩
      obtain ⟨gf6, lb6, rfl, eg6, hbs6, hsq6⟩ := s6
      have K6 := Lib.hid (K5.out.trans (Keep.of b6))
      have yc6 : w6.cell? ⟨W.heap.size, 0, none⟩ = some (.func (.yield l) #[] #[]) := (b6.cell (p := ⟨W.heap.size, 0, none⟩) (by show W.heap.size < _; omega)).trans yc5
      have YL6 := Lib.hid ((b6.block L (by omega)).trans YL5.out)
      have J6 := Lib.hid (HJ.out.1 _ _ _ ((HB45.out.trans (b6.mono hz5)).mono (by omega)) j4)
      have EG6 := Lib.hid eg6
      have HBS6 := Lib.hid hbs6
      have HSQ6 := Lib.hid hsq6
      clear eg6 hbs6 hsq6 b6 yc5 YL5 HC6 hs5 j4 hwr
      gi_wp2
      refine range_in (F := Fence.wide.inRound L) (fun _ => trivial) rfl rfl YL6.out (gf := gf6) (lb := lb6) rfl (fun args W => EG6.out args W) (encs := encD) (N := N) (bs := w5.heap.size :: (w5.heap.size + 1) :: bs5) (xs := flatF (d + 1) x.xs) (fun W bW => HSQ6.out W bW) (fun _ => rfl)
        V ?_ ?_
        (fun ys Y => J (partsL pre ++ [(d, Pt.s x)] ++ ys.map ofE) Y ∧ Keep V w6 Y) (fun c ys Y => c = .ret ∧ (∃ q, q <+: partsL (flatS 1 T) ∧ Jx q Y) ∧ Keep V w6 Y) ?_ ?_ ⟨?_, Keep.refl _ _⟩
        (fun y a' Y => BoxQ w6.heap.size (fun p => #[.func (.yield l) #[] #[], .pointer (some ⟨B1, 0, none⟩), .pointer (some ⟨W.heap.size, 0, none⟩), .int .i64 d, .pointer (some ⟨B, 0, none⟩), .int .i64 y.1, p, .func (.func gf) #[] lb, .func (.func gf1) #[] lb1, .int .i64 d, x.val,
          .func (.yield l) #[] #[], .int .i64 d, x.val, .iface 105 x.val, .bool true, .bool false, x.val, .func (.func gf5) #[] lb5, .int .i64 d, .int .i64 (d + 1), .func (.func gf6) #[] lb6, .int .i64 y.1, y.2.val, undef, undef, undef, undef, undef, undef]) y a' Y) ?_ ?assign2 ?body2 ?done2 ?stop2
      · intro b hb
        have h := HV.out b hb
        refine ⟨fun e => ?_, by omega⟩
        rcases e with e | e
        · exact h.1 (.inl e)
        · rcases List.mem_cons.1 e with e | e
          · omega
          rcases List.mem_cons.1 e with e | e
          · omega
          · have := HB5.out b e; omega
      · rintro b (e | e)
        · omega
        · exact HBS6.out b e
      · rintro ys A C k ⟨j, kk⟩
        exact ⟨HJ.out.1 _ _ _ (k.mono (by omega)) j, keep_more kk k⟩
      · rintro c ys A C k ⟨rfl, ⟨q, hq, j⟩, kk⟩
        exact ⟨rfl, ⟨q, hq, HJ.out.2 _ _ _ (k.mono (by omega)) j⟩, keep_more kk k⟩
      · simpa using J6.out
      · rintro L' y a' Y r o hL' ⟨B', hB1', hB2', rfl⟩
        refine ⟨B', hB1', ?_, rfl⟩
        rw [World.putObj_heap_other (fun e => by subst e; rw [hL'] at hB2'; cases hB2')]
        exact hB2'
      case assign2 =>
        intro L' m' pre' y Y K hL' hi hr hK
        unfold encD Nd.val
        gi_wp2
        refine hK _ _ ((Keep.refl _ Y).alloc _) ⟨HJ.out.1 _ _ _ (((Below.refl _ Y).alloc (Nat.le_refl _) _).mono (by have := hi.2.size; omega)) hi.1, hi.2.alloc _⟩ ⟨Y.heap.size, hi.2.size, World.alloc_heap_new Y _, rfl⟩
      case body2 =>
        rintro L' m' pre' y a' Y hL' hpy ⟨hjy, ky⟩ ⟨B', hB1', hBy, rfl⟩ ⟨rr', hrr'⟩
        obtain ⟨d', y⟩ := y
        dsimp only at hBy
        have hX4 : Hid (partsL pre ++ [(d, Pt.s x)] ++ pre'.map ofE ++ [(d', Pt.e y)] <+: partsL (flatS 1 T)) := Lib.hid (by
          refine List.IsPrefix.trans ?_ hX3.out
          obtain ⟨suf, hsuf⟩ := hpy
          rw [← hsuf]
          simp [ofE])
        have u0 : Y.cell? ⟨B', 0, none⟩ = some (.int .i64 y.k) := by simp [World.cell?, hBy]
        have u1 : Y.cell? ⟨B', 1, none⟩ = some (.int .i64 y.o) := by simp [World.cell?, hBy]
        have u2 : Y.cell? ⟨B', 2, none⟩ = some (.int .i64 y.t) := by simp [World.cell?, hBy]
        have u3 : Y.cell? ⟨B', 3, none⟩ = some (.int .u32 y.n) := by simp [World.cell?, hBy]
        have u4 : Y.cell? ⟨B', 4, none⟩ = some (.string (bytesOf y.nm)) := by simp [World.cell?, hBy]
        have u5 : Y.cell? ⟨B', 5, none⟩ = some (.slice y.ao y.kids.length y.cap) := by simp [World.cell?, hBy]
        have cy : Y.cell? ⟨W.heap.size, 0, none⟩ = some (.func (.yield l) #[] #[]) := (ky.cell (p := ⟨W.heap.size, 0, none⟩) (by show W.heap.size < _; omega) (nV _ (Nat.le_refl _))).trans yc6
        obtain ⟨fn, tmps, assign, body, hy, hR⟩ := HY.out (m' - 1) (partsL pre ++ [(d, Pt.s x)] ++ pre'.map ofE) (d', Pt.e y) Y hjy hX4.out
        dsimp only [encP, Pt.val, Nd.val] at hy
        have HKY := Lib.hid ky
        clear ky hjy hBy hrr' hpy
        gi_wp2
        refine ⟨fun h => (by cases h), ?_⟩
        refine RoundIn.mono (show RoundIn ((Fence.wide.inRound L).inRound L') (m' - 1) _ l fn tmps assign body Y _ from hR) ?_
        rintro e w8 (⟨rfl, j8, k8⟩ | ⟨rfl, j8, k8⟩)
        · have K8 := Lib.hid k8
          have J8 := Lib.hid j8
          clear k8 hR j8
          gi_wp2
          exact ⟨K8.out, by simpa [ofE] using J8.out, HKY.out.trans K8.out⟩
        · have K8 := Lib.hid k8
          clear k8 hR
          gi_wp2
          exact ⟨K8.out, rfl, ⟨_, hX4.out, j8⟩, HKY.out.trans K8.out⟩
      case done2 =>
        rintro Y ⟨hjy, ky⟩
        have HKY := Lib.hid ky
        clear ky
        gi_wp2
        exact ⟨K6.out.trans HKY.out, by rw [hXE.out]; exact hjy, HKW.out.trans (K6.out.trans HKY.out)⟩
      case stop2 =>
        rintro c pre' Y hp' ⟨rfl, ⟨q, hq, hjq⟩, ky⟩
        have HKY := Lib.hid ky
        clear ky
        gi_wp2
        exact ⟨K6.out.trans HKY.out, rfl, ⟨q, hq, hjq⟩, HKW.out.trans (K6.out.trans HKY.out)⟩
    · have K4 := Lib.hid k4
      clear k4 hR
      gi_wp2
      exact ⟨K4.out, rfl, ⟨_, hX1.out, j4⟩, HKW.out.trans K4.out⟩
  case done =>
    rintro X ⟨hj, kw⟩ hD
    gi_wp2
    refine ⟨by simp, .inl ⟨_, _, rfl, run_takeDeferred hD, ?_⟩⟩
    refine ⟨_, results_none rfl _ _ _, ⟨_, rfl⟩, .inl ⟨?_, ?_⟩⟩
    · exact HJ.out.1 _ _ _ (below_put (by have := HBW.out.size; omega) _) hj
    · exact ((Keep.of HBW.out).trans kw).putObj (.inr HBW.out.size) _
  case stop =>
    rintro c pre X hp ⟨rfl, ⟨q, hq, hj⟩, kw⟩ hD
    gi_wp2
    refine ⟨by simp, .inl ⟨_, _, rfl, run_takeDeferred hD, ?_⟩⟩
    refine ⟨_, results_none rfl _ _ _, ⟨_, rfl⟩, .inr ⟨q, hq, ?_, ?_⟩⟩
    · exact HJ.out.2 _ _ _ (below_put (by have := HBW.out.size; omega) _) hj
    · exact ((Keep.of HBW.out).trans kw).putObj (.inr HBW.out.size) _
theorem parts_any {w : World} {bs : List Nat} {r : Value} {N : Nat} {T : List St} (hs : SeqB encNS w bs r N T) (ht : TreesS w N T) (hN : N ≤ w.heap.size) (hd : (1 : Int) + htS T ≤ 9223372036854775807)
    (hf : ∀ p ∈ flatS 1 T, 0 ≤ p.1 ∧ p.1 + 1 + htF p.2.xs ≤ 9223372036854775807) :
    Calls Try.prog 32 #[r] w fun e w' => ∃ v, e = .returned v ∧ Below w.heap.size w w' ∧ w'.heap.size = w.heap.size + 1 ∧ SeqB encP w' (w.heap.size :: bs) v N (partsL (flatS 1 T)) := by
  have HS := Lib.hid hs
  have HT := Lib.hid ht
  have HF := Lib.hid hf
  obtain ⟨gf, lb, rfl, _⟩ := hs
  clear ht hf
  go_enter Try.func32, Try.ntmps32
  go_wp2
  refine bodyPost_ret (v := .func (.func 54) #[] #[.pointer (some ⟨w.heap.size, 0, none⟩)]) (by simp [results, Try.results32, go_sem]) rfl ?_
  have c1 : (w.alloc (.cells #[.func (.func gf) #[] lb] 69)).cell? ⟨w.heap.size, 0, none⟩ = some (.func (.func gf) #[] lb) := by go_simp
  have z : (w.alloc (.cells #[.func (.func gf) #[] lb] 69)).heap.size = w.heap.size + 1 := by simp
  have b : Below w.heap.size w (w.alloc (.cells #[.func (.func gf) #[] lb] 69)) := (Below.refl _ w).alloc (Nat.le_refl _) _
  generalize w.alloc (.cells #[.func (.func gf) #[] lb] 69) = w2 at *
  refine ⟨_, rfl, b, z, _, _, rfl, fun args W => by kernel_rfl, fun x hx => ?_, fun W bW => ?_⟩
  · rcases List.mem_cons.1 hx with rfl | hx
    · omega
    obtain ⟨_, _, _, _, hb, _⟩ := HS.out
    have := hb x hx
    omega
  · have hz := bW.size
    have t2 : TreesS W N T := (HT.out.keep (V := fun _ => False) (Keep.of b) (fun _ h => h.elim)).keep (V := fun _ => False) (Keep.of bW) (fun _ h => h.elim)
    exact parts_seq ((HS.out.later b).later bW) t2 (by omega) ((World.cell?_of_block (w := w2) (bW.block _ (by show w.heap.size < _; omega))).trans c1) hd HF.out
end As
end Go.Proofs.Ytbedcplkcaanhaa
