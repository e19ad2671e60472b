/-
  WALKS: package ast: the walk over expressions, each ahead of its parts. Own work.
-/
import Derived.Test.YtbedcplkcaanhaaAsKids
import Derived.Test.YtbedcplkcaanhaaOh
namespace Go.Proofs.Ytbedcplkcaanhaa
namespace As
open Go.RowKit Go Rg Go.Shelf
set_option linter.unusedVariables false
attribute [local go_sem] Oper.semAt_some

mutual
/-- An expression and its parts, each ahead of its own, with their depths. -/
def flatN : Int → Nd → List (Int × Nd)
  | d, .mk k o t n nm ao cap kids => (d, .mk k o t n nm ao cap kids) :: flatF (d + 1) kids
def flatF : Int → List Nd → List (Int × Nd)
  | _, [] => []
  | d, e :: l => flatN d e ++ flatF d l
end
theorem flatN_eq (d : Int) (e : Nd) : flatN d e = (d, e) :: flatF (d + 1) e.kids := by cases e; rw [flatN]; rfl
theorem flatF_app (d : Int) (a b : List Nd) : flatF d (a ++ b) = flatF d a ++ flatF d b := by
  induction a with
  | nil => simp [flatF]
  | cons x l ih => simp [flatF, ih]
theorem flatF_one (d : Int) (e : Nd) : flatF d [e] = (d, e) :: flatF (d + 1) e.kids := by simp [flatF, flatN_eq]
mutual
/-- How deep it nests. -/
def htN : Nd → Nat
  | .mk _ _ _ _ _ _ _ kids => htF kids + 1
def htF : List Nd → Nat
  | [] => 0
  | e :: l => max (htN e) (htF l)
end
theorem htN_eq (e : Nd) : htN e = htF e.kids + 1 := by cases e; rw [htN]; rfl
theorem ht_mem {e : Nd} {l : List Nd} (h : e ∈ l) : htF e.kids + 1 ≤ htF l := by
  induction l with
  | nil => cases h
  | cons x l ih =>
    rw [htF]
    rcases List.mem_cons.1 h with rfl | h
    · rw [htN_eq]; omega
    · have := ih h; omega
/-- The parts of each lie there. -/
def Trees (w : World) (N : Nat) (T : List Nd) : Prop := ∀ x ∈ T, Nds w N x.ao x.kids ∧ (x.kids.length ≤ x.cap ∧ x.cap ≤ 9223372036854775807)
theorem Trees.keep {w w' : World} {N : Nat} {T : List Nd} {V : Nat → Prop} (h : Trees w N T) (k : Keep V w w') (hV : ∀ b, V b → N ≤ b) : Trees w' N T := fun x hx => ⟨(h x hx).1.keep k hV, (h x hx).2⟩
theorem Nds.trees {w : World} {N : Nat} {ao : Option Addr} {l : List Nd} (h : Nds w N ao l) : Trees w N l := fun x hx => by
  obtain ⟨i, hi, rfl⟩ := List.getElem_of_mem hx
  obtain ⟨b, off, _, _, _, _, hc, hk⟩ := h.at hi
  rw [List.getD_eq_getElem?_getD, List.getElem?_eq_getElem hi] at hc hk
  exact ⟨hk, hc⟩
/-- A function value that brings the elements of xs, in every world from w on in which what stood lies as it lay; its own boxes are bs. -/
def SeqB {α : Type} (encs : α → Array Value) (w : World) (bs : List Nat) (r : Value) (N : Nat) (xs : List α) : Prop :=
  ∃ gf lb, r = .func (.func gf) #[] lb ∧ (∀ args W, (callFunc gf args).run Try.prog W = .ok (.enter gf args) W) ∧ (∀ b ∈ bs, b < w.heap.size) ∧
    ∀ W, Below w.heap.size w W → SeqAt Fence.wide Try.prog gf lb encs N bs xs W
def encN (e : Nd) : Array Value := #[e.val]
theorem Seqs.open {w : World} {base : Nat} {r : Value} {N : Nat} {xs : List Nd} (h : Seqs w base r N xs) : ∃ bs, (∀ b ∈ bs, base ≤ b) ∧ SeqB encN w bs r N xs := by
  obtain ⟨gf, lb, bs, rfl, eg, hbs, hsq⟩ := h
  exact ⟨bs, fun b hb => (hbs b hb).1, gf, lb, rfl, eg, fun b hb => (hbs b hb).2, hsq⟩
def encD (p : Int × Nd) : Array Value := #[.int .i64 p.1, p.2.val]
theorem keep_more {V : Nat → Prop} {a b c : World} (h : Keep V a b) (k : Below a.heap.size b c) : Keep V a c :=
  ⟨k.os.trans h.os, k.tape.trans h.tape, k.output.trans h.output, Nat.le_trans h.size k.size, fun i hi hn => (k.block i hi).trans (h.block i hi hn)⟩
theorem keep_putD {V : Nat → Prop} {a b : World} (h : Keep V a b) {D : Nat} (hD : a.heap.size ≤ D) (o : Obj) : Keep V a (b.putObj D o) := h.putObj (.inr hD) o
/-- The box of the element at hand. -/
def Boxd (z : Nat) (tm : Value → Value → Array Value) (x : Nd) (a' : Act) (W : World) : Prop :=
  ∃ B, z ≤ B ∧ W.heap[B]? = some (.cells #[.int .i64 x.k, .int .i64 x.o, .int .i64 x.t, .int .u32 x.n, .string (bytesOf x.nm), .slice x.ao x.kids.length x.cap] 89) ∧ a' = { tmps := tm (.pointer (some ⟨B, 0, none⟩)) x.val, defers := [] }
theorem stop_at {V : Nat → Prop} {Jx : List (Int × Nd) → World → Prop} {base R : Nat} {w1 W w4 : World} {xs q : List (Int × Nd)} {ys : List Nd} {a : Act} {I : List Nd → World → Prop}
    (hJ : Rg.Loc base Jx) (hB : base ≤ R) (hR : R + 1 + 1 < w1.heap.size) (kw : Keep V w1 W) (k : Keep V W w4) (e6 : w4.cell? ⟨R + 1 + 1, 0, none⟩ = some (.bool false)) (hq : q <+: xs) (hj : Jx q w4) :
    postB (fun b => V b ∨ b = R + 1 + 1) I (fun c ys W => c = .ret ∧ (∃ q, q <+: xs ∧ Jx q W) ∧ Keep (fun b => V b ∨ b = R + 1 + 1) w1 W ∧ W.cell? ⟨R + 1 + 1, 0, none⟩ = some (.bool false)) ys W .ret a (w4.setCell ⟨R + 1 + 1, 0, none⟩ (.bool false)) :=
  ⟨(k.wider (fun _ h => .inl h)).setCell (.inl (.inr rfl)) _, rfl, ⟨q, hq, hJ _ _ _ ((Below.refl base w4).setCell (p := ⟨R + 1 + 1, 0, none⟩) (by show base ≤ R + 1 + 1; omega) _) hj⟩,
    ((kw.trans k).wider (fun _ h => .inl h)).setCell (.inl (.inr rfl)) _, World.cell?_setCell_same' _ _ _ (by rw [e6]; rfl)⟩
set_option maxHeartbeats 4000000 in
set_option maxRecDepth 100000 in
theorem descend_step {h : Nat} {l : Nat} {V : Nat → Prop} {J Jx : List (Int × Nd) → World → Prop} {N base : Nat} {xs : List (Int × Nd)}
    (hY : ∀ m pre x W1, J pre W1 → pre ++ [x] <+: xs → YieldAt Fence.wide m Try.prog l (encD x) W1 fun e W' =>
      (e = .returned (.bool true) ∧ J (pre ++ [x]) W' ∧ Keep V W1 W') ∨ (e = .returned (.bool false) ∧ Jx (pre ++ [x]) W' ∧ Keep V W1 W'))
    (ih : ∀ (T : List Nd) (d : Int) (w : World) (bs : List Nat) (r : Value) (pre₀ : List (Int × Nd)), htF T < h → 0 ≤ d → d + htF T ≤ 9223372036854775807 → SeqB encN w bs r N T → Trees w N T → N ≤ w.heap.size → base ≤ w.heap.size →
      (∀ b, V b → N ≤ b ∧ b < base ∧ b ∉ bs) → Rg.Loc base J → Rg.Loc base Jx → J pre₀ w → pre₀ ++ flatF d T <+: xs →
      Calls Try.prog 72 #[r, .int .i64 d, .func (.yield l) #[] #[]] w fun e W' =>
        (e = .returned (.bool true) ∧ J (pre₀ ++ flatF d T) W' ∧ Keep V w W') ∨ (e = .returned (.bool false) ∧ (∃ q, q <+: xs ∧ Jx q W') ∧ Keep V w W')) :
    ∀ (T : List Nd) (d : Int) (w : World) (bs : List Nat) (r : Value) (pre₀ : List (Int × Nd)), htF T ≤ h → 0 ≤ d → d + htF T ≤ 9223372036854775807 → SeqB encN w bs r N T → Trees w N T → N ≤ w.heap.size → base ≤ w.heap.size →
      (∀ b, V b → N ≤ b ∧ b < base ∧ b ∉ bs) → Rg.Loc base J → Rg.Loc base Jx → J pre₀ w → pre₀ ++ flatF d T <+: xs →
      Calls Try.prog 72 #[r, .int .i64 d, .func (.yield l) #[] #[]] w fun e W' =>
        (e = .returned (.bool true) ∧ J (pre₀ ++ flatF d T) W' ∧ Keep V w W') ∨ (e = .returned (.bool false) ∧ (∃ q, q <+: xs ∧ Jx q W') ∧ Keep V w W') := by
  intro T d w bs r pre₀ hT hd0 hd1 hs ht hN hB hV hJ hJx h0 hx
  obtain ⟨gf, lb, rfl, eg, hbs, hsq⟩ := hs
  have HY := Lib.hid hY
  have IH := Lib.hid ih
  have EG := Lib.hid eg
  have HBS := Lib.hid hbs
  have HSQ := Lib.hid hsq
  have HT := Lib.hid ht
  have HV := Lib.hid hV
  have HJ := Lib.hid (And.intro hJ hJx)
  have H0 := Lib.hid h0
  have HX := Lib.hid hx
  clear hY ih eg hbs hsq ht hV hJ hJx h0 hx
  refine (callsIn_wide (n := 0)).1 ?_
  refine callsIn_of_wp_marks Try.func72 rfl trivial ?_ rfl
  simp only [Try.ntmps72, List.size_toArray, List.length_cons, List.length_nil, Nat.reduceAdd, Nat.reduceSub, Array.replicate_succ, Array.replicate_zero, List.push_toArray, List.append_toArray, List.nil_append, List.cons_append]
  gi_wp2
  have hk1 : ∀ b, Below w.heap.size w (((w.alloc (Obj.cells #[Value.int IntKind.i64 d] 3)).alloc (Obj.cells #[Value.func (Fn.yield l) #[] #[]] 127)).alloc (Obj.cells #[Value.bool b] 4)) := fun b => (((Below.refl _ w).alloc (Nat.le_refl _) _).alloc (by simp) _).alloc (by simp; omega) _
  have q4 : (((w.alloc (Obj.cells #[Value.int IntKind.i64 d] 3)).alloc (Obj.cells #[Value.func (Fn.yield l) #[] #[]] 127)).alloc (Obj.cells #[Value.bool false] 4)).cell? ⟨w.heap.size, 0, none⟩ = some (.int .i64 d) := by go_simp
  have q5 : (((w.alloc (Obj.cells #[Value.int IntKind.i64 d] 3)).alloc (Obj.cells #[Value.func (Fn.yield l) #[] #[]] 127)).alloc (Obj.cells #[Value.bool false] 4)).cell? ⟨w.heap.size + 1, 0, none⟩ = some (.func (.yield l) #[] #[]) := by go_simp
  have q6 : (((w.alloc (Obj.cells #[Value.int IntKind.i64 d] 3)).alloc (Obj.cells #[Value.func (Fn.yield l) #[] #[]] 127)).alloc (Obj.cells #[Value.bool false] 4)).cell? ⟨w.heap.size + 1 + 1, 0, none⟩ = some (.bool false) := by go_simp
  have f6 : (((w.alloc (Obj.cells #[Value.int IntKind.i64 d] 3)).alloc (Obj.cells #[Value.func (Fn.yield l) #[] #[]] 127)).alloc (Obj.cells #[Value.bool false] 4)).frozen? ⟨w.heap.size + 1 + 1, 0, none⟩ = false := by go_simp
  have z1 : (((w.alloc (Obj.cells #[Value.int IntKind.i64 d] 3)).alloc (Obj.cells #[Value.func (Fn.yield l) #[] #[]] 127)).alloc (Obj.cells #[Value.bool false] 4)).heap.size = w.heap.size + 3 := by simp
  have b1 := hk1 false
  clear hk1
  generalize ((w.alloc (Obj.cells #[Value.int IntKind.i64 d] 3)).alloc (Obj.cells #[Value.func (Fn.yield l) #[] #[]] 127)).alloc (Obj.cells #[Value.bool false] 4) = w1 at *
  refine range_out (fun _ => trivial) rfl rfl (gf := gf) (lb := lb) rfl (fun args W => EG.out args W) (encs := encN) (N := N) (bs := bs) (xs := T) (fun W bW => HSQ.out W (b1.trans (bW.mono (by omega)))) (fun _ => rfl)
    (fun b => V b ∨ b = w.heap.size + 1 + 1) ?_ ?_
    (fun ys W => J (pre₀ ++ flatF d ys) W ∧ Keep V w1 W) (fun c ys W => c = .ret ∧ (∃ q, q <+: xs ∧ Jx q W) ∧ Keep (fun b => V b ∨ b = w.heap.size + 1 + 1) w1 W ∧ W.cell? ⟨w.heap.size + 1 + 1, 0, none⟩ = some (.bool false)) ?_ ?_ ⟨?_, Keep.refl _ _⟩
    (Boxd w1.heap.size (fun p v => #[.func (.func gf) #[] lb, .int .i64 d, .func (.yield l) #[] #[], undef, .pointer (some ⟨w.heap.size, 0, none⟩), .pointer (some ⟨w.heap.size + 1, 0, none⟩), .pointer (some ⟨w.heap.size + 1 + 1, 0, none⟩), p, .func (.func gf) #[] lb, v,
      undef, undef, undef, undef, undef, undef, undef, undef, undef, undef, undef, undef, undef, undef, undef])) ?_ ?assign ?body ?done ?stop
  · rintro b (hb | rfl)
    · have := HV.out b hb
      refine ⟨fun e => ?_, by omega⟩
      rcases e with e | e
      · omega
      · exact this.2.2 e
    · refine ⟨fun e => ?_, by omega⟩
      rcases e with e | e
      · omega
      · have := HBS.out _ e; omega
  · rintro b (e | e)
    · omega
    · have := HBS.out b e; omega
  · rintro ys A B k ⟨j, kk⟩
    exact ⟨HJ.out.1 _ _ _ (k.mono (by omega)) j, keep_more kk k⟩
  · rintro c ys A B k ⟨rfl, ⟨q, hq, j⟩, kk, hc⟩
    exact ⟨rfl, ⟨q, hq, HJ.out.2 _ _ _ (k.mono (by omega)) j⟩, keep_more kk k, (World.cell?_of_block (w := A) (k.block (w.heap.size + 1 + 1) (by omega))).trans hc⟩
  · rw [flatF, List.append_nil]
    exact HJ.out.1 _ _ _ (b1.mono hB) H0.out
  · rintro L x a' W r o hL ⟨B, hB1, hB2, rfl⟩
    refine ⟨B, hB1, ?_, rfl⟩
    rw [World.putObj_heap_other (fun e => by subst e; rw [hL] at hB2; cases hB2)]
    exact hB2
  case assign =>
    intro L m pre x W K hL hi hr hK
    unfold encN Nd.val
    gi_wp2
    refine hK _ _ ((Keep.refl _ W).alloc _) ⟨HJ.out.1 _ _ _ (((Below.refl _ W).alloc (Nat.le_refl _) _).mono (by have := hi.2.size; omega)) hi.1, hi.2.alloc _⟩ ⟨W.heap.size, hi.2.size, World.alloc_heap_new W _, rfl⟩
  case body =>
    rintro L m pre x a' W hL hpx ⟨hj, kw⟩ ⟨B, hB1, hBx, rfl⟩ ⟨rr, hrr⟩
    have hxT : x ∈ T := hpx.subset (by simp)
    have hht := ht_mem hxT
    have hX2 : Hid (pre₀ ++ flatF d pre ++ [(d, x)] ++ flatF (d + 1) x.kids <+: xs) := Lib.hid (by
      refine List.IsPrefix.trans ?_ HX.out
      obtain ⟨suf, hsuf⟩ := hpx
      rw [← hsuf, flatF_app, flatF_app, flatF_one]
      simp)
    have hX1 : Hid (pre₀ ++ flatF d pre ++ [(d, x)] <+: xs) := Lib.hid (List.IsPrefix.trans (List.prefix_append _ _) hX2.out)
    have hXE : Hid (pre₀ ++ flatF d (pre ++ [x]) = pre₀ ++ flatF d pre ++ [(d, x)] ++ flatF (d + 1) x.kids) := Lib.hid (by rw [flatF_app, flatF_one]; simp)
    have hWz := kw.size
    have hBW : B < W.heap.size := (Array.getElem?_eq_some_iff.1 hBx).1
    have nV : ∀ b, w.heap.size ≤ b → ¬ V b := fun b hb e => by have := HV.out b e; omega
    have c4 : ∀ w', Keep V W w' → w'.cell? ⟨w.heap.size, 0, none⟩ = some (.int .i64 d) := fun w' k => ((kw.trans k).cell (p := ⟨w.heap.size, 0, none⟩) (by show w.heap.size < _; omega) (nV _ (Nat.le_refl _))).trans q4
    have c5 : ∀ w', Keep V W w' → w'.cell? ⟨w.heap.size + 1, 0, none⟩ = some (.func (.yield l) #[] #[]) := fun w' k => ((kw.trans k).cell (p := ⟨w.heap.size + 1, 0, none⟩) (by show w.heap.size + 1 < _; omega) (nV _ (by show w.heap.size ≤ w.heap.size + 1; omega))).trans q5
    have c6 : ∀ w', Keep V W w' → w'.cell? ⟨w.heap.size + 1 + 1, 0, none⟩ = some (.bool false) := fun w' k => ((kw.trans k).cell (p := ⟨w.heap.size + 1 + 1, 0, none⟩) (by show w.heap.size + 1 + 1 < _; omega) (nV _ (by show w.heap.size ≤ w.heap.size + 1 + 1; omega))).trans q6
    have g6 : ∀ w', Keep V W w' → w'.frozen? ⟨w.heap.size + 1 + 1, 0, none⟩ = false := fun w' k => ((kw.trans k).frozen (p := ⟨w.heap.size + 1 + 1, 0, none⟩) (by show w.heap.size + 1 + 1 < _; omega) (nV _ (by show w.heap.size ≤ w.heap.size + 1 + 1; omega))).trans f6
    have cB : ∀ w', Keep V W w' → w'.heap[B]? = _ := fun w' k => (k.block B hBW (nV _ (by omega))).trans hBx
    have x0 : ∀ w', Keep V W w' → w'.cell? ⟨B, 0, none⟩ = some (.int .i64 x.k) := fun w' k => by simp [World.cell?, cB w' k]
    have x1 : ∀ w', Keep V W w' → w'.cell? ⟨B, 1, none⟩ = some (.int .i64 x.o) := fun w' k => by simp [World.cell?, cB w' k]
    have x2 : ∀ w', Keep V W w' → w'.cell? ⟨B, 2, none⟩ = some (.int .i64 x.t) := fun w' k => by simp [World.cell?, cB w' k]
    have x3 : ∀ w', Keep V W w' → w'.cell? ⟨B, 3, none⟩ = some (.int .u32 x.n) := fun w' k => by simp [World.cell?, cB w' k]
    have x4 : ∀ w', Keep V W w' → w'.cell? ⟨B, 4, none⟩ = some (.string (bytesOf x.nm)) := fun w' k => by simp [World.cell?, cB w' k]
    have x5 : ∀ w', Keep V W w' → w'.cell? ⟨B, 5, none⟩ = some (.slice x.ao x.kids.length x.cap) := fun w' k => by simp [World.cell?, cB w' k]
    gi_wp2
    refine Oh.begins (fun w' => Keep V W w') (by kernel_rfl) ?_
    refine Oh.take (i := 0) (v := (.func (.yield l) #[] #[])) rfl (by kernel_rfl) (by kernel_rfl) (by kernel_rfl) (fun _ _ _ h => h) ⟨fun _ => rfl, Or.inl ⟨by rfl, ?_⟩⟩ ?_
    · intro w' hw'
      have := c5 w' hw'
      go_simp
    refine Oh.take (i := 1) (v := (.int .i64 d)) rfl (by kernel_rfl) (by kernel_rfl) (by kernel_rfl) (fun _ _ _ h => h) ⟨fun _ => rfl, Or.inl ⟨by rfl, ?_⟩⟩ ?_
    · intro w' hw'
      have := c4 w' hw'
      go_simp
    refine Oh.take (i := 2) (v := x.val) rfl (by kernel_rfl) (by kernel_rfl) (by kernel_rfl) (fun _ _ _ h => h) ⟨fun _ => rfl, Or.inl ⟨by rfl, ?_⟩⟩ ?_
    · intro w' hw'
      have e0 := x0 w' hw'
      have e1 := x1 w' hw'
      have e2 := x2 w' hw'
      have e3 := x3 w' hw'
      have e4 := x4 w' hw'
      have e5 := x5 w' hw'
      unfold Nd.val
      go_simp
    have k1 : Keep V W W.drew := (Keep.refl V W).drew
    obtain ⟨fn, tmps, assign, body, hy, hR⟩ := HY.out (m - 1) (pre₀ ++ flatF d pre) (d, x) W.drew (HJ.out.1 _ _ _ (Below.refl _ W).drew hj) hX1.out
    refine Oh.only (i := 3) rfl (by kernel_rfl) k1 ?_
    intro K' hK'
    dsimp only [encD] at hy
    go_simp
    refine ⟨fun h => (by cases h), ?_⟩
    refine RoundIn.mono (show RoundIn (Fence.wide.inRound L) (m - 1) _ l fn tmps assign body W.drew _ from hR) ?_
    rintro e w4 (⟨rfl, j4, k4⟩ | ⟨rfl, j4, k4⟩)
    · have k2 : Keep V W w4 := k1.trans k4
      refine hK' _ _ ?_
      clear hK' K' hy hR
      refine Oh.take (i := 4) (v := (.bool false)) rfl (by kernel_rfl) (by kernel_rfl) (by kernel_rfl) (fun _ _ _ h => h) ⟨fun _ => rfl, Or.inl ⟨by rfl, ?_⟩⟩ ?_
      · intro w' hw'
        go_simp
      refine Oh.take (i := 5) (v := (.bool false)) rfl (by kernel_rfl) (by kernel_rfl) (by kernel_rfl) (fun _ _ _ h => h) ⟨fun _ => rfl, Or.inl ⟨by rfl, ?_⟩⟩ ?_
      · intro w' hw'
        go_simp
      refine Oh.take (i := 6) (v := x.val) rfl (by kernel_rfl) (by kernel_rfl) (by kernel_rfl) (fun _ _ _ h => h) ⟨fun _ => rfl, Or.inl ⟨by rfl, ?_⟩⟩ ?_
      · intro w' hw'
        have e0 := x0 w' hw'
        have e1 := x1 w' hw'
        have e2 := x2 w' hw'
        have e3 := x3 w' hw'
        have e4 := x4 w' hw'
        have e5 := x5 w' hw'
        unfold Nd.val
        go_simp
      refine Oh.take (i := 7) (v := (.iface 89 x.val)) rfl (by kernel_rfl) (by kernel_rfl) (by kernel_rfl) (fun _ _ _ h => h) ⟨fun _ => rfl, Or.inl ⟨by rfl, ?_⟩⟩ ?_
      · intro w' hw'
        go_simp
      refine Oh.take (i := 9) (v := (.int .i64 d)) rfl (by kernel_rfl) (by kernel_rfl) (by kernel_rfl) (fun _ _ _ h => h) ⟨fun _ => rfl, Or.inl ⟨by rfl, ?_⟩⟩ ?_
      · intro w' hw'
        have := c4 w' hw'
        go_simp
      refine Oh.take (i := 10) (v := (.int .i64 (d + 1))) rfl (by kernel_rfl) (by kernel_rfl) (by kernel_rfl) (fun _ _ _ h => h) ⟨fun _ => rfl, Or.inl ⟨by rfl, ?_⟩⟩ ?_
      · intro w' hw'
        have q0 : (0 : Int) ≤ d := hd0
        have q1 : d + 1 ≤ 9223372036854775807 := by omega
        have q2 : IntKind.i64.wrap (d + 1) = d + 1 := IntWalk.i64_in _ ⟨by omega, by omega⟩
        go_simp
      refine Oh.take (i := 11) (v := (.func (.yield l) #[] #[])) rfl (by kernel_rfl) (by kernel_rfl) (by kernel_rfl) (fun _ _ _ h => h) ⟨fun _ => rfl, Or.inl ⟨by rfl, ?_⟩⟩ ?_
      · intro w' hw'
        have := c5 w' hw'
        go_simp
      refine Oh.only (i := 8) rfl (by kernel_rfl) k2 ?_
      intro K2 hK2
      have hmeth : ∀ W', Sem.run Try.prog (method 270 89 x.val "lamplighter/ast.children") W' = .ok (112, x.val) W' := fun _ => by kernel_rfl
      have hent1 : ∀ (args : Array Value) (W' : World), Sem.run Try.prog (callFunc 112 args) W' = .ok (.enter 112 args) W' := fun _ _ => by kernel_rfl
      have hent2 : ∀ (args : Array Value) (W' : World), Sem.run Try.prog (callFunc 72 args) W' = .ok (.enter 72 args) W' := fun _ _ => by kernel_rfl
      go_simp
      refine ⟨trivial, fun h => (by cases h), ?_⟩
      have hz4 := k2.size
      have VN : ∀ b, V b → N ≤ b := fun b hb => (HV.out b hb).1
      have t4 : Trees w4 N T := ((HT.out.keep (V := V) (Keep.of b1) VN).keep kw VN).keep k2 VN
      refine CallsIn.mono (show CallsIn (Fence.wide.inRound L) (m - 1) Try.prog 112 #[x.val] w4 _ from callsIn_wide.2 (kids_any x w4 (N := N) (by omega) (t4 x hxT).1 (t4 x hxT).2)) ?_
      rintro e w5 ⟨v, rfl, b5, s5⟩
      obtain ⟨bs5, hb5, s5⟩ := s5.open
      have k3 : Keep V W w5 := k2.trans (Keep.of b5)
      refine hK2 _ _ ?_
      clear hK2 K2
      refine Oh.only (i := 12) rfl (by kernel_rfl) k3 ?_
      intro K3 hK3
      go_simp
      refine ⟨trivial, fun h => (by cases h), ?_⟩
      have hz5 := b5.size
      have t5 : Trees w5 N T := t4.keep (V := V) (Keep.of b5) VN
      refine CallsIn.mono (show CallsIn (Fence.wide.inRound L) (m - 1) Try.prog 72 #[v, .int .i64 (d + 1), .func (.yield l) #[] #[]] w5 _ from callsIn_wide.2 (IH.out x.kids (d + 1) w5 bs5 v (pre₀ ++ flatF d pre ++ [(d, x)]) (by omega) (by omega) (by omega) s5 (Nds.trees (t5 x hxT).1) (by omega) (by omega)
        (fun b hb => ⟨VN b hb, (HV.out b hb).2.1, fun e => by have := (HV.out b hb).2.1; have := hb5 b e; omega⟩) HJ.out.1 HJ.out.2 (HJ.out.1 _ _ _ (b5.mono (by omega)) j4) hX2.out)) ?_
      rintro e w6 (⟨rfl, j6, k6⟩ | ⟨rfl, j6, k6⟩)
      · have k4 : Keep V W w6 := k3.trans k6
        refine hK3 _ _ ?_
        clear hK3 K3
        refine Oh.take (i := 13) (v := (.bool false)) rfl (by kernel_rfl) (by kernel_rfl) (by kernel_rfl) (fun _ _ _ h => h) ⟨fun _ => rfl, Or.inl ⟨by rfl, ?_⟩⟩ ?_
        · intro w' hw'
          go_simp
        refine Oh.take (i := 14) (v := (.bool false)) rfl (by kernel_rfl) (by kernel_rfl) (by kernel_rfl) (fun _ _ _ h => h) ⟨fun _ => rfl, Or.inl ⟨by rfl, ?_⟩⟩ ?_
        · intro w' hw'
          go_simp
        refine Oh.done (by kernel_rfl) k4 ?_
        gi_wp2
        exact ⟨k4.wider (fun _ h => .inl h), by rw [hXE.out]; exact j6, kw.trans k4⟩
      · have k4 : Keep V W w6 := k3.trans k6
        refine hK3 _ _ ?_
        clear hK3 K3
        refine Oh.take (i := 13) (v := (.bool true)) rfl (by kernel_rfl) (by kernel_rfl) (by kernel_rfl) (fun _ _ _ h => h) ⟨fun _ => rfl, Or.inl ⟨by rfl, ?_⟩⟩ ?_
        · intro w' hw'
          go_simp
        refine Oh.take (i := 14) (v := (.bool true)) rfl (by kernel_rfl) (by kernel_rfl) (by kernel_rfl) (fun _ _ _ h => h) ⟨fun _ => rfl, Or.inl ⟨by rfl, ?_⟩⟩ ?_
        · intro w' hw'
          go_simp
        refine Oh.done (by kernel_rfl) k4 ?_
        have e6 := c6 w6 k4
        have r6 := g6 w6 k4
        gi_wp2
        obtain ⟨q, hq, hjx⟩ := j6
        exact stop_at HJ.out.2 hB (by omega) kw k4 e6 hq hjx
    · have k2 : Keep V W w4 := k1.trans k4
      refine hK' _ _ ?_
      clear hK' K' hy hR
      refine Oh.take (i := 4) (v := (.bool true)) rfl (by kernel_rfl) (by kernel_rfl) (by kernel_rfl) (fun _ _ _ h => h) ⟨fun _ => rfl, Or.inl ⟨by rfl, ?_⟩⟩ ?_
      · intro w' hw'
        go_simp
      refine Oh.take (i := 5) (v := (.bool true)) rfl (by kernel_rfl) (by kernel_rfl) (by kernel_rfl) (fun _ _ _ h => h) ⟨fun _ => rfl, Or.inl ⟨by rfl, ?_⟩⟩ ?_
      · intro w' hw'
        go_simp
      refine Oh.take (i := 6) (v := undef) rfl (by kernel_rfl) (by kernel_rfl) (by kernel_rfl) (fun _ _ _ h => h) ⟨fun _ => rfl, Or.inr ⟨by rfl, rfl⟩⟩ ?_
      refine Oh.take (i := 7) (v := undef) rfl (by kernel_rfl) (by kernel_rfl) (by kernel_rfl) (fun _ _ _ h => h) ⟨fun _ => rfl, Or.inr ⟨by rfl, rfl⟩⟩ ?_
      refine Oh.take (i := 9) (v := undef) rfl (by kernel_rfl) (by kernel_rfl) (by kernel_rfl) (fun _ _ _ h => h) ⟨fun _ => rfl, Or.inr ⟨by rfl, rfl⟩⟩ ?_
      refine Oh.take (i := 10) (v := undef) rfl (by kernel_rfl) (by kernel_rfl) (by kernel_rfl) (fun _ _ _ h => h) ⟨fun _ => rfl, Or.inr ⟨by rfl, rfl⟩⟩ ?_
      refine Oh.take (i := 11) (v := undef) rfl (by kernel_rfl) (by kernel_rfl) (by kernel_rfl) (fun _ _ _ h => h) ⟨fun _ => rfl, Or.inr ⟨by rfl, rfl⟩⟩ ?_
      refine Oh.only (i := 8) rfl (by kernel_rfl) k2 ?_
      intro K2 hK2
      go_simp
      refine ⟨fun _ _ => trivial, ?_⟩
      refine hK2 _ _ ?_
      clear hK2 K2
      refine Oh.only (i := 12) rfl (by kernel_rfl) k2 ?_
      intro K3 hK3
      go_simp
      refine ⟨trivial, ?_⟩
      refine hK3 _ _ ?_
      clear hK3 K3
      refine Oh.take (i := 13) (v := undef) rfl (by kernel_rfl) (by kernel_rfl) (by kernel_rfl) (fun _ _ _ h => h) ⟨fun _ => rfl, Or.inr ⟨by rfl, rfl⟩⟩ ?_
      refine Oh.take (i := 14) (v := (.bool true)) rfl (by kernel_rfl) (by kernel_rfl) (by kernel_rfl) (fun _ _ _ h => h) ⟨fun _ => rfl, Or.inl ⟨by rfl, ?_⟩⟩ ?_
      · intro w' hw'
        go_simp
      refine Oh.done (by kernel_rfl) k2 ?_
      have e6 := c6 w4 k2
      have r6 := g6 w4 k2
      gi_wp2
      exact stop_at HJ.out.2 hB (by omega) kw k2 e6 hX1.out j4
  case done =>
    rintro W ⟨hj, kw⟩ hD
    have nV : ∀ b, w.heap.size ≤ b → ¬ V b := fun b hb e => by have := HV.out b e; omega
    have hWz := kw.size
    have e6 : W.cell? ⟨w.heap.size + 1 + 1, 0, none⟩ = some (.bool false) := (kw.cell (p := ⟨w.heap.size + 1 + 1, 0, none⟩) (by show w.heap.size + 1 + 1 < _; omega) (nV _ (by show w.heap.size ≤ w.heap.size + 1 + 1; omega))).trans q6
    have r6 : W.frozen? ⟨w.heap.size + 1 + 1, 0, none⟩ = false := (kw.frozen (p := ⟨w.heap.size + 1 + 1, 0, none⟩) (by show w.heap.size + 1 + 1 < _; omega) (nV _ (by show w.heap.size ≤ w.heap.size + 1 + 1; omega))).trans f6
    gi_wp2
    have hDD : (W.setCell ⟨w.heap.size + 1 + 1, 0, none⟩ (.bool true)).heap[w1.heap.size]? = some (.deferred (some [])) := (Below.heap_setCell W ⟨w.heap.size + 1 + 1, 0, none⟩ _ _ (by intro e; dsimp only at e; omega)).trans hD
    have hcc : ((W.setCell ⟨w.heap.size + 1 + 1, 0, none⟩ (.bool true)).putObj w1.heap.size (.deferred none)).cell? ⟨w.heap.size + 1 + 1, 0, none⟩ = some (.bool true) :=
      (World.cell?_of_block (World.putObj_heap_other (by intro e; dsimp only at e; omega))).trans (World.cell?_setCell_same' _ _ _ (by rw [e6]; rfl))
    refine ⟨by simp, .inl ⟨_, _, rfl, run_takeDeferred hDD, ?_⟩⟩
    refine ⟨.bool true, by simp [results, Try.results72, go_sem, hcc], .inl ⟨rfl, ?_, ?_⟩⟩
    · exact HJ.out.1 _ _ _ (((Below.refl base W).setCell (p := ⟨w.heap.size + 1 + 1, 0, none⟩) (by show base ≤ w.heap.size + 1 + 1; omega) _).trans (below_put (by omega) _)) hj
    · exact (((Keep.of b1).trans kw).setCell (p := ⟨w.heap.size + 1 + 1, 0, none⟩) (.inr (by show w.heap.size ≤ w.heap.size + 1 + 1; omega)) _).putObj (.inr (by omega)) _
  case stop =>
    rintro c pre W hp ⟨rfl, ⟨q, hq, hj⟩, kw, hc⟩ hD
    gi_wp2
    have hcc : (W.putObj w1.heap.size (.deferred none)).cell? ⟨w.heap.size + 1 + 1, 0, none⟩ = some (.bool false) :=
      (World.cell?_of_block (World.putObj_heap_other (by intro e; dsimp only at e; omega))).trans hc
    refine ⟨by simp, .inl ⟨_, _, rfl, run_takeDeferred hD, ?_⟩⟩
    refine ⟨.bool false, by simp [results, Try.results72, go_sem, hcc], .inr ⟨rfl, ⟨q, hq, ?_⟩, ?_⟩⟩
    · exact HJ.out.2 _ _ _ (below_put (by omega) _) hj
    · refine ⟨kw.os.trans b1.os, kw.tape.trans b1.tape, kw.output.trans b1.output, by have := kw.size; simp; omega, fun i hi hn => ?_⟩
      rw [World.putObj_heap_other (by omega)]
      exact (kw.block i (by omega) (fun e => e.elim hn (fun e => by omega))).trans (b1.block i hi)
theorem descend_any {l : Nat} {V : Nat → Prop} {J Jx : List (Int × Nd) → World → Prop} {N base : Nat} {xs : List (Int × Nd)}
    (hY : ∀ m pre x W1, J pre W1 → pre ++ [x] <+: xs → YieldAt Fence.wide m Try.prog l (encD x) W1 fun e W' =>
      (e = .returned (.bool true) ∧ J (pre ++ [x]) W' ∧ Keep V W1 W') ∨ (e = .returned (.bool false) ∧ Jx (pre ++ [x]) W' ∧ Keep V W1 W')) :
    ∀ (h : Nat) (T : List Nd) (d : Int) (w : World) (bs : List Nat) (r : Value) (pre₀ : List (Int × Nd)), htF T ≤ h → 0 ≤ d → d + htF T ≤ 9223372036854775807 → SeqB encN w bs r N T → Trees w N T → N ≤ w.heap.size → base ≤ w.heap.size →
      (∀ b, V b → N ≤ b ∧ b < base ∧ b ∉ bs) → Rg.Loc base J → Rg.Loc base Jx → J pre₀ w → pre₀ ++ flatF d T <+: xs →
      Calls Try.prog 72 #[r, .int .i64 d, .func (.yield l) #[] #[]] w fun e W' =>
        (e = .returned (.bool true) ∧ J (pre₀ ++ flatF d T) W' ∧ Keep V w W') ∨ (e = .returned (.bool false) ∧ (∃ q, q <+: xs ∧ Jx q W') ∧ Keep V w W') := by
  intro h
  induction h using Nat.strongRecOn with
  | _ h ih =>
    exact descend_step hY (fun T d w bs r pre₀ hT => ih (htF T) hT T d w bs r pre₀ (Nat.le_refl _))
end As
end Go.Proofs.Ytbedcplkcaanhaa
