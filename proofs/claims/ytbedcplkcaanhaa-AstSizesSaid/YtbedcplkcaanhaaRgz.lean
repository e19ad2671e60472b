/-
  A LAW FOR RANGES OVER A FUNCTION whose iterator may itself range over a function: what a visitor may turn is named (V), what it has seen is a list; besides, rows of texts from Z on. Own work.
-/
import Derived.RangeFuncNested
import Derived.RangeFuncBound
import Derived.RangeFuncCalls
import Derived.RangeFuncLeaves
import Derived.WalkKit
import Derived.Deep.QuietTactic
import Derived.Test.YtbedcplkcaanhaaProg
import Derived.Laws.AppendOwn
namespace Go.Proofs.Ytbedcplkcaanhaa
namespace Rgz
open Go.RowKit Go
set_option linter.unusedVariables false

/-- A row of texts. -/
def StrO (o : Option Obj) : Prop := ∃ cs fr, o = some (.cells cs 9 fr)
def Ex (Z : Nat) (w : World) (k : Nat) : Prop := Z ≤ k ∧ StrO w.heap[k]?
theorem StrO.lt {w : World} {k : Nat} (h : StrO w.heap[k]?) : k < w.heap.size := by
  obtain ⟨cs, fr, h⟩ := h
  exact (Array.getElem?_eq_some_iff.1 h).1
theorem str_loop {w : World} {k : Nat} {r : Loop} (h : w.heap[k]? = some (.loop r)) : ¬ StrO w.heap[k]? := by
  rintro ⟨cs, fr, e⟩
  rw [h] at e
  cases e
theorem str_def {w : World} {k : Nat} {r : Option (List Deferred)} (h : w.heap[k]? = some (.deferred r)) : ¬ StrO w.heap[k]? := by
  rintro ⟨cs, fr, e⟩
  rw [h] at e
  cases e
theorem str_cells {w : World} {k : Nat} {cs : Array Value} {t : TypeId} {fr : Nat × Nat} (h : w.heap[k]? = some (.cells cs t fr)) (ht : t ≠ 9) : ¬ StrO w.heap[k]? := by
  rintro ⟨cs, fr, e⟩
  rw [h] at e
  injection e with e
  injection e with _ e
  exact ht e
/-- All that lay there lies as it lay, but for the blocks of V, and rows of texts from Z on. -/
structure Keep (Z : Nat) (V : Nat → Prop) (w w' : World) : Prop where
  os : w'.os = w.os
  tape : w'.tape = w.tape
  output : w'.output = w.output
  size : w.heap.size ≤ w'.heap.size
  block : ∀ k, k < w.heap.size → ¬ V k → ¬ Ex Z w k → w'.heap[k]? = w.heap[k]?
variable {Z : Nat}
theorem Keep.refl (V : Nat → Prop) (w : World) : Keep Z V w w := ⟨rfl, rfl, rfl, Nat.le_refl _, fun _ _ _ _ => rfl⟩
theorem Ex.of {a b : World} {k : Nat} (h : b.heap[k]? = a.heap[k]?) (e : Ex Z b k) : Ex Z a k := ⟨e.1, by rw [← h]; exact e.2⟩
theorem Keep.trans {V : Nat → Prop} {a b c : World} (h : Keep Z V a b) (k : Keep Z V b c) : Keep Z V a c :=
  ⟨k.os.trans h.os, k.tape.trans h.tape, k.output.trans h.output, Nat.le_trans h.size k.size, fun i hi hv hx =>
    have g := h.block i hi hv hx
    (k.block i (Nat.lt_of_lt_of_le hi h.size) hv (fun e => hx (e.of g))).trans g⟩
theorem Keep.wider {V V' : Nat → Prop} {a b : World} (h : Keep Z V a b) (hv : ∀ i, V i → V' i) : Keep Z V' a b :=
  ⟨h.os, h.tape, h.output, h.size, fun i hi hn hx => h.block i hi (fun e => hn (hv i e)) hx⟩
theorem Keep.of {V : Nat → Prop} {a b : World} (h : Below a.heap.size a b) : Keep Z V a b := ⟨h.os, h.tape, h.output, h.size, fun i hi _ _ => h.block i hi⟩
theorem Keep.below {V : Nat → Prop} {B : Nat} {a b : World} (h : Keep Z V a b) (hB : B ≤ a.heap.size) (hZ : B ≤ Z) (hv : ∀ i, V i → B ≤ i) : Below B a b :=
  ⟨h.os, h.tape, h.output, h.size, fun i hi => h.block i (by omega) (fun e => by have := hv i e; omega) (fun e => by have := e.1; omega)⟩
theorem Keep.putObj {V : Nat → Prop} {a b : World} (h : Keep Z V a b) {l : Nat} (hl : V l ∨ a.heap.size ≤ l) (o : Obj) : Keep Z V a (b.putObj l o) :=
  ⟨h.os, h.tape, h.output, by simpa using h.size, fun i hi hn hx => (World.putObj_heap_other (fun e => by subst e; rcases hl with g | g; exact hn g; omega)).trans (h.block i hi hn hx)⟩
theorem Keep.alloc {V : Nat → Prop} {a b : World} (h : Keep Z V a b) (o : Obj) : Keep Z V a (b.alloc o) :=
  h.trans (Keep.of ((Below.refl _ b).alloc (Nat.le_refl _) o))
theorem Keep.setCell {V : Nat → Prop} {a b : World} (h : Keep Z V a b) {p : Addr} (hp : V p.block ∨ a.heap.size ≤ p.block) (u : Value) : Keep Z V a (b.setCell p u) :=
  ⟨h.os, h.tape, h.output, Nat.le_trans h.size ((Below.refl 0 b).setCell (Nat.zero_le _) u).size, fun i hi hn hx => (Below.heap_setCell b p u i (fun e => by subst e; rcases hp with g | g; exact hn g; omega)).trans (h.block i hi hn hx)⟩
theorem Keep.drew {V : Nat → Prop} {a b : World} (h : Keep Z V a b) : Keep Z V a b.drew := ⟨h.os, h.tape, h.output, h.size, h.block⟩
theorem Keep.drewN {V : Nat → Prop} {a b : World} (h : Keep Z V a b) (m : Nat) : Keep Z V a (b.drewN m) := ⟨h.os, h.tape, h.output, h.size, h.block⟩
theorem Keep.cell {V : Nat → Prop} {a b : World} (h : Keep Z V a b) {p : Addr} (hp : p.block < a.heap.size) (hv : ¬ V p.block) (hx : ¬ Ex Z a p.block) : b.cell? p = a.cell? p := World.cell?_of_block (w := a) (h.block p.block hp hv hx)
theorem Keep.frozen {V : Nat → Prop} {a b : World} (h : Keep Z V a b) {p : Addr} (hp : p.block < a.heap.size) (hv : ¬ V p.block) (hx : ¬ Ex Z a p.block) : b.frozen? p = a.frozen? p := World.frozen?_of_block (w := a) (h.block p.block hp hv hx)
theorem Ex.not_lt {w : World} {k : Nat} (h : k < Z) : ¬ Ex Z w k := fun e => by have := e.1; omega
theorem Ex.not_str {w : World} {k : Nat} (h : ¬ StrO w.heap[k]?) : ¬ Ex Z w k := fun e => h e.2
/-- What an iterator does of its own: blocks from B on, but no row of texts. -/
structure BelowZ (Z B : Nat) (w w' : World) : Prop where
  os : w'.os = w.os
  tape : w'.tape = w.tape
  output : w'.output = w.output
  size : w.heap.size ≤ w'.heap.size
  block : ∀ k, (k < B ∨ Ex Z w k) → w'.heap[k]? = w.heap[k]?
theorem BelowZ.of {B : Nat} {w w' : World} (h : Below w.heap.size w w') (hB : B ≤ w.heap.size) : BelowZ Z B w w' :=
  ⟨h.os, h.tape, h.output, h.size, fun k hk => h.block k (hk.elim (fun g => by omega) (fun g => g.2.lt))⟩
theorem BelowZ.trans {B : Nat} {a b c : World} (h : BelowZ Z B a b) (k : BelowZ Z B b c) : BelowZ Z B a c :=
  ⟨k.os.trans h.os, k.tape.trans h.tape, k.output.trans h.output, Nat.le_trans h.size k.size, fun i hi =>
    have g := h.block i hi
    (k.block i (hi.imp id (fun e => ⟨e.1, by rw [g]; exact e.2⟩))).trans g⟩
theorem BelowZ.mono {B B' : Nat} {a b : World} (h : BelowZ Z B' a b) (hB : B ≤ B') : BelowZ Z B a b :=
  ⟨h.os, h.tape, h.output, h.size, fun i hi => h.block i (hi.imp (fun g => by omega) id)⟩
theorem below_putz {w : World} {B l : Nat} (h : B ≤ l) (hs : ¬ StrO w.heap[l]?) (o : Obj) : BelowZ Z B w (w.putObj l o) :=
  ⟨rfl, rfl, rfl, by simp, fun i hi => World.putObj_heap_other (fun e => by subst e; exact hi.elim (fun g => by omega) (fun g => hs g.2))⟩
theorem below_setz {w : World} {B : Nat} {p : Addr} (h : B ≤ p.block) (hs : ¬ StrO w.heap[p.block]?) (u : Value) : BelowZ Z B w (w.setCell p u) :=
  ⟨((Below.refl 0 w).setCell (Nat.zero_le _) u).os, ((Below.refl 0 w).setCell (Nat.zero_le _) u).tape, ((Below.refl 0 w).setCell (Nat.zero_le _) u).output, ((Below.refl 0 w).setCell (Nat.zero_le _) u).size, fun i hi => Below.heap_setCell w p u i (fun e => by subst e; exact hi.elim (fun g => by omega) (fun g => hs g.2))⟩
theorem below_put {w : World} {B l : Nat} (h : B ≤ l) (o : Obj) : Below B w (w.putObj l o) :=
  ⟨rfl, rfl, rfl, by simp, fun i hi => World.putObj_heap_other (by omega)⟩
/-- It speaks of the blocks below B, and of rows of texts from Z on. -/
def Loc {β : Type} (Z B : Nat) (J : β → World → Prop) : Prop := ∀ s w w', BelowZ Z B w w' → J s w → J s w'
theorem Loc.mono {β : Type} {B B' : Nat} {J : β → World → Prop} (h : Loc Z B J) (hB : B ≤ B') : Loc Z B' J := fun s w w' k => h s w w' (k.mono hB)
/-- What an iterator reads: the blocks below N, and its boxes. -/
def Own (N : Nat) (bs : List Nat) (b : Nat) : Prop := b < N ∨ b ∈ bs
/-- The function value (gf, lb), called in the world W with the visitor of loop l, brings the elements of xs in their order, and stops where the visitor says so. -/
def SeqAt {α : Type} (F : Fence) (P : Program) (gf : Nat) (lb : Array Value) (encs : α → Array Value) (N : Nat) (bs : List Nat) (xs : List α) (W : World) : Prop :=
  ∀ (Z l : Nat) (J Jx : List α → World → Prop) (V : Nat → Prop), N ≤ Z → (∀ b ∈ bs, ¬ Ex Z W b) → (∀ b, V b → ¬ Own N bs b ∧ b < W.heap.size) → Loc Z W.heap.size J → Loc Z W.heap.size Jx →
    (∀ m pre x W1, J pre W1 → pre ++ [x] <+: xs → YieldAt F m P l (encs x) W1 fun e W' =>
      (e = .returned (.bool true) ∧ J (pre ++ [x]) W' ∧ Keep Z V W1 W') ∨ (e = .returned (.bool false) ∧ Jx (pre ++ [x]) W' ∧ Keep Z V W1 W')) →
    J [] W → ∀ n, CallsIn F n P gf (#[.func (.yield l) #[] #[]] ++ lb) W fun e W' => (∃ v, e = .returned v) ∧ ((J xs W' ∧ Keep Z V W W') ∨ ∃ pre, pre <+: xs ∧ Jx pre W' ∧ Keep Z V W W')
/-- How a round's body may be left. -/
def postB {α : Type} (Z : Nat) (V : Nat → Prop) (I : List α → World → Prop) (Ix : Code → List α → World → Prop) (ys : List α) (W : World) : Exit → Act → World → Prop
  | .normal, _, W' => Keep Z V W W' ∧ I ys W'
  | .ret, _, W' => Keep Z V W W' ∧ Ix .ret ys W'
  | .exit id, _, W' => Keep Z V W W' ∧ Ix (.exit id) ys W'
  | .goto t, _, W' => Keep Z V W W' ∧ Ix (.goto t) ys W'
  | .panic _, _, _ => False
  | .outgrown, _, _ => False

/-- A loop's record. -/
def mkL (fn : FuncId) (tmps : Array Value) (ps : Array Tmp) (assign body : Code) (D : Nat) (st : LoopState) (pe : Option Code) : Loop := { state := st, pending := pe, fn := fn, tmps := tmps, params := ps, assign := assign, body := body, defers := D }

variable {F : Fence} {P : Program}

/-- ONE ROUND at loop record L: from the record ready to the record ready again, or done. -/
theorem round_of {α : Type} (hfn : ∀ f, F.fn f) {L B D : Nat} {fn : FuncId} {tmps : Array Value} {ps : Array Tmp} {assign body : Code}
    {encs : α → Array Value} (hps : ∀ x, (encs x).size = ps.size) {V : Nat → Prop} (hB : B ≤ L) (hV : ∀ b, V b → b < B)
    {I : List α → World → Prop} {Ix : Code → List α → World → Prop} (hI : Loc Z B I) (hIx : ∀ c, Loc Z B (Ix c)) (Ax : α → Act → World → Prop) (hAx : ∀ x a' W r o, W.heap[L]? = some (.loop r) → Ax x a' W → Ax x a' (W.putObj L o))
    {xs : List α} {m : Nat} {pre : List α} {x : α} {W : World} (hi : I pre W) (hx : pre ++ [x] <+: xs) (hl : W.heap[L]? = some (.loop (mkL fn tmps ps assign body D .ready none)))
    (hassign : ∀ (K : Act → World → Prop), (∀ a' W', Keep Z V W W' → I pre W' → Ax x a' W' → K a' W') →
      assign.wpIn (F.inRound L) m P (Exit.then K (fun _ _ _ => False)) { tmps := (ps.zip (encs x)).foldl (fun t (p, v) => t.setIfInBounds p v) tmps, defers := [] } W)
    (hbody : ∀ a' W', I pre W' → Ax x a' W' → (∃ r, W'.heap[L]? = some (.loop r)) → body.wpIn (F.inRound L) m P (postB Z V I Ix (pre ++ [x]) W') a' W') :
    YieldAt F m P L (encs x) W fun e W' =>
      (e = .returned (.bool true) ∧ (I (pre ++ [x]) W' ∧ W'.heap[L]? = some (.loop (mkL fn tmps ps assign body D .ready none))) ∧ Keep Z (fun b => V b ∨ b = L) W W') ∨
      (e = .returned (.bool false) ∧ Keep Z (fun b => V b ∨ b = L) W W' ∧ ∃ c, Ix c (pre ++ [x]) W' ∧ W'.heap[L]? = some (.loop (mkL fn tmps ps assign body D .done (some c)))) := by
  have hy := run_yield (P := P) (args := encs x) hl (hps x)
  have nV : ¬ V L := fun e => by have := hV L e; omega
  refine ⟨fn, _, assign, body, hy, roundIn_of_wpIn (hfn fn) (hassign _ ?_)⟩
  intro a' Wa hka hia hax
  have hltW : L < W.heap.size := (Array.getElem?_eq_some_iff.1 hl).1
  have hla : Wa.heap[L]? = some (.loop (mkL fn tmps ps assign body D .ready none)) := (hka.block L hltW nV (Ex.not_str (str_loop hl))).trans hl
  have hlt : L < Wa.heap.size := (Array.getElem?_eq_some_iff.1 hla).1
  refine ⟨_, run_beginRound hla rfl, ?_⟩
  show body.wpIn (F.inRound L) m P _ a' (Wa.putObj L (.loop (mkL fn tmps ps assign body D .busy none)))
  obtain ⟨W2, hW2⟩ : ∃ W2, Wa.putObj L (.loop (mkL fn tmps ps assign body D .busy none)) = W2 := ⟨_, rfl⟩
  have hl2 : W2.heap[L]? = some (.loop (mkL fn tmps ps assign body D .busy none)) := by rw [← hW2]; exact World.putObj_heap_same hlt
  have hi2 : I pre W2 := by rw [← hW2]; exact hI _ _ _ (below_putz hB (str_loop hla) _) hia
  have hax2 : Ax x a' W2 := by rw [← hW2]; exact hAx _ _ _ _ _ hla hax
  have k2 : Keep Z (fun b => V b ∨ b = L) W W2 := by rw [← hW2]; exact (hka.wider (fun i h => .inl h)).putObj (.inl (.inr rfl)) _
  have hlt2 : L < W2.heap.size := (Array.getElem?_eq_some_iff.1 hl2).1
  rw [hW2]
  refine wpIn_mono (hbody a' W2 hi2 hax2 ⟨_, hl2⟩) ?_
  have fin : ∀ (jump : Option Code) (W3 : World), Keep Z V W2 W3 →
      (Instr.endRound L jump).run P W3 = .ok (.bool jump.isNone) (W3.putObj L (.loop (mkL fn tmps ps assign body D (if jump.isNone then .ready else .done) jump))) ∧
      (W3.putObj L (.loop (mkL fn tmps ps assign body D (if jump.isNone then .ready else .done) jump))).heap[L]? = some (.loop (mkL fn tmps ps assign body D (if jump.isNone then .ready else .done) jump)) ∧
      Keep Z (fun b => V b ∨ b = L) W (W3.putObj L (.loop (mkL fn tmps ps assign body D (if jump.isNone then .ready else .done) jump))) ∧ ¬ StrO W3.heap[L]? := fun jump W3 k3 => by
    have hl3 : W3.heap[L]? = some (.loop (mkL fn tmps ps assign body D .busy none)) := (k3.block L hlt2 nV (Ex.not_str (str_loop hl2))).trans hl2
    have hr := run_endRound (P := P) jump hl3
    exact ⟨hr, World.putObj_heap_same (Array.getElem?_eq_some_iff.1 hl3).1, (k2.trans (k3.wider (fun i h => .inl h))).putObj (.inl (.inr rfl)) _, str_loop hl3⟩
  rintro e a3 W3 hp
  cases e with
  | normal =>
    obtain ⟨k3, hi3⟩ := hp
    obtain ⟨hr, hl4, k4, s3⟩ := fin none W3 k3
    exact ⟨_, _, hr, .inl ⟨rfl, ⟨hI _ _ _ (below_putz hB s3 _) hi3, hl4⟩, k4⟩⟩
  | ret =>
    obtain ⟨k3, hi3⟩ := hp
    obtain ⟨hr, hl4, k4, s3⟩ := fin (some .ret) W3 k3
    exact ⟨_, _, hr, .inr ⟨rfl, k4, .ret, hIx _ _ _ _ (below_putz hB s3 _) hi3, hl4⟩⟩
  | exit id =>
    obtain ⟨k3, hi3⟩ := hp
    obtain ⟨hr, hl4, k4, s3⟩ := fin (some (.exit id)) W3 k3
    exact ⟨_, _, hr, .inr ⟨rfl, k4, .exit id, hIx _ _ _ _ (below_putz hB s3 _) hi3, hl4⟩⟩
  | goto t =>
    obtain ⟨k3, hi3⟩ := hp
    obtain ⟨hr, hl4, k4, s3⟩ := fin (some (.goto t)) W3 k3
    exact ⟨_, _, hr, .inr ⟨rfl, k4, .goto t, hIx _ _ _ _ (below_putz hB s3 _) hi3, hl4⟩⟩
  | panic ch => exact hp.elim
  | outgrown => exact hp.elim
/-- **A RANGE OVER A FUNCTION, outside every round.** -/
theorem range_out {α : Type} (hfn : ∀ f, F.fn f) (hro : F.round = none) (hd : F.depth = none) {n : Nat} {g : Operand} {ps : Array Tmp} {assign body : Code} {Q : Exit → Act → World → Prop} {a : Act} {w : World}
    {gf : Nat} {lb : Array Value} (hg : a.eval g = .func (.func gf) #[] lb) (eg : ∀ args w, (callFunc gf args).run P w = .ok (.enter gf args) w)
    {encs : α → Array Value} {N : Nat} {bs : List Nat} {xs : List α} (hZ : N ≤ Z) (hbx : ∀ b ∈ bs, ¬ Ex Z w b) (hseq : ∀ W, Below w.heap.size w W → SeqAt F P gf lb encs N bs xs W) (hps : ∀ x, (encs x).size = ps.size)
    (V : Nat → Prop) (hV : ∀ b, V b → ¬ Own N bs b ∧ b < w.heap.size) (hN : ∀ b, Own N bs b → b < w.heap.size)
    (I : List α → World → Prop) (Ix : Code → List α → World → Prop) (hI : Loc Z w.heap.size I) (hIx : ∀ c, Loc Z w.heap.size (Ix c)) (h0 : I [] w)
    (Ax : α → Act → World → Prop) (hAx : ∀ L x a' W r o, W.heap[L]? = some (.loop r) → Ax x a' W → Ax x a' (W.putObj L o))
    (hassign : ∀ (L m : Nat) (pre : List α) (x : α) (W : World) (K : Act → World → Prop), w.heap.size ≤ L → I pre W → (∃ r, W.heap[L]? = some (.loop r)) → (∀ a' W', Keep Z V W W' → I pre W' → Ax x a' W' → K a' W') →
      assign.wpIn (F.inRound L) m P (Exit.then K (fun _ _ _ => False)) { tmps := (ps.zip (encs x)).foldl (fun t (p, v) => t.setIfInBounds p v) a.tmps, defers := [] } W)
    (hbody : ∀ (L m : Nat) (pre : List α) (x : α) (a' : Act) (W : World), w.heap.size ≤ L → pre ++ [x] <+: xs → I pre W → Ax x a' W → (∃ r, W.heap[L]? = some (.loop r)) → body.wpIn (F.inRound L) m P (postB Z V I Ix (pre ++ [x]) W) a' W)
    (hdone : ∀ W, I xs W → W.heap[w.heap.size]? = some (.deferred (some [])) → Q .normal { a with defers := { target := .collected w.heap.size, args := #[] } :: a.defers } W)
    (hstop : ∀ (c : Code) (pre : List α) (W : World), pre <+: xs → Ix c pre W → W.heap[w.heap.size]? = some (.deferred (some [])) → c.wpIn F n P Q { a with defers := { target := .collected w.heap.size, args := #[] } :: a.defers } W) :
    (Code.rangeFunc g ps assign body).wpIn F n P Q a w := by
  refine wpIn_rangeFunc ?_
  intro fn _
  rw [hro]
  obtain ⟨W1, hW1⟩ : ∃ W1, (w.alloc (.deferred (some []))).alloc (.loop (mkL fn a.tmps ps assign body w.heap.size .ready none)) = W1 := ⟨_, rfl⟩
  have hL1 : W1.heap[w.heap.size + 1]? = some (.loop (mkL fn a.tmps ps assign body w.heap.size .ready none)) := by
    rw [← hW1]
    have := World.alloc_heap_new (w.alloc (.deferred (some []))) (.loop (mkL fn a.tmps ps assign body w.heap.size .ready none))
    rwa [World.size_alloc] at this
  have hD1 : W1.heap[w.heap.size]? = some (.deferred (some [])) := by
    rw [← hW1]
    exact (Below.heap_alloc _ _ _ (by simp)).trans (World.alloc_heap_new w _)
  have hz : W1.heap.size = w.heap.size + 2 := by rw [← hW1]; simp
  have b1 : Below w.heap.size w W1 := by
    rw [← hW1]
    exact ((Below.refl _ w).alloc (Nat.le_refl _) _).alloc (by simp) _
  have hI1 : I [] W1 := hI _ _ _ (BelowZ.of b1 (Nat.le_refl _)) h0
  refine ⟨w.heap.size + 1, [{ target := .collected w.heap.size, args := #[] }], W1, { target := .fn (.func gf) lb, args := #[.func (.yield (w.heap.size + 1)) #[] #[]] }, W1, gf,
    #[.func (.yield (w.heap.size + 1)) #[] #[]] ++ lb, W1, ?_, ?_, fun f' _ => hfn f', ?_, fun h => (by rw [hd] at h; cases h), ?_⟩
  · rw [← hW1]
    exact run_enterLoop_outer _ _ _ _ _
  · simp only [resolve, hg]
    simp [go_sem]
  · simp [invoke, go_sem, eg]
  · refine (hseq W1 b1 Z (w.heap.size + 1)
      (fun pre W => (I pre W ∧ W.heap[w.heap.size + 1]? = some (.loop (mkL fn a.tmps ps assign body w.heap.size .ready none))) ∧ W.heap[w.heap.size]? = some (.deferred (some [])))
      (fun pre W => (∃ c, Ix c pre W ∧ W.heap[w.heap.size + 1]? = some (.loop (mkL fn a.tmps ps assign body w.heap.size .done (some c)))) ∧ W.heap[w.heap.size]? = some (.deferred (some [])))
      (fun b => V b ∨ b = w.heap.size + 1) hZ (fun b hb e => hbx b hb (e.of (b1.block b (hN b (.inr hb))))) ?_ ?_ ?_ ?_ ⟨⟨hI1, hL1⟩, hD1⟩ _).mono ?_
    · intro b hb
      rcases hb with hb | rfl
      · exact ⟨(hV b hb).1, by have := (hV b hb).2; omega⟩
      · exact ⟨fun e => by have := hN _ e; omega, by omega⟩
    · rintro s X Y k ⟨⟨h1, h2⟩, h3⟩
      exact ⟨⟨hI.mono (by omega) _ _ _ k h1, (k.block _ (.inl (by omega))).trans h2⟩, (k.block _ (.inl (by omega))).trans h3⟩
    · rintro s X Y k ⟨⟨c, h1, h2⟩, h3⟩
      exact ⟨⟨c, (hIx c).mono (by omega) _ _ _ k h1, (k.block _ (.inl (by omega))).trans h2⟩, (k.block _ (.inl (by omega))).trans h3⟩
    · rintro m pre x W ⟨⟨hi, hl⟩, hD⟩ hx
      have hDs : w.heap.size < W.heap.size := (Array.getElem?_eq_some_iff.1 hD).1
      have nD : ¬ (V w.heap.size ∨ w.heap.size = w.heap.size + 1) := fun e => by
        rcases e with e | e
        · have := (hV _ e).2; omega
        · omega
      refine (round_of hfn hps (B := w.heap.size) (by omega) (fun b hb => (hV b hb).2) hI hIx Ax (fun x a' W r o => hAx _ x a' W r o) (xs := xs) hi hx hl
        (fun K hK => hassign _ _ _ _ _ _ (by omega) hi ⟨_, hl⟩ hK) (fun a' W' hi' hax hr => hbody _ _ _ _ _ _ (by omega) hx hi' hax hr)).mono ?_
      rintro e W' (⟨he, hj, hk⟩ | ⟨he, hk, hj⟩)
      · exact .inl ⟨he, ⟨hj, (hk.block _ hDs nD (Ex.not_str (str_def hD))).trans hD⟩, hk⟩
      · exact .inr ⟨he, ⟨hj, (hk.block _ hDs nD (Ex.not_str (str_def hD))).trans hD⟩, hk⟩
    · rintro e W2 ⟨⟨v, rfl⟩, (⟨⟨⟨hi, hl⟩, hD⟩, _⟩ | ⟨pre, hpre, ⟨⟨c, hi, hl⟩, hD⟩, _⟩)⟩
      · exact ⟨none, _, run_endLoop (P := P) hl (fun e => by cases e), hdone _ (hI _ _ _ (below_putz (by omega) (str_loop hl) _) hi) ((World.putObj_heap_other (by omega)).trans hD)⟩
      · exact ⟨some c, _, run_endLoop (P := P) hl (fun e => by cases e), hstop c pre _ hpre (hIx c _ _ _ (below_putz (by omega) (str_loop hl) _) hi) ((World.putObj_heap_other (by omega)).trans hD)⟩
/-- **A RANGE OVER A FUNCTION within a round of loop l₀.** -/
theorem range_in {α : Type} (hfn : ∀ f, F.fn f) {l₀ : Nat} {r₀ : Loop} (hro : F.round = some l₀) (hd : F.depth = none) {n : Nat} {g : Operand} {ps : Array Tmp} {assign body : Code} {Q : Exit → Act → World → Prop} {a : Act} {w : World}
    (hr₀ : w.heap[l₀]? = some (.loop r₀))
    {gf : Nat} {lb : Array Value} (hg : a.eval g = .func (.func gf) #[] lb) (eg : ∀ args w, (callFunc gf args).run P w = .ok (.enter gf args) w)
    {encs : α → Array Value} {N : Nat} {bs : List Nat} {xs : List α} (hZ : N ≤ Z) (hbx : ∀ b ∈ bs, ¬ Ex Z w b) (hseq : ∀ W, Below w.heap.size w W → SeqAt F P gf lb encs N bs xs W) (hps : ∀ x, (encs x).size = ps.size)
    (V : Nat → Prop) (hV : ∀ b, V b → ¬ Own N bs b ∧ b < w.heap.size) (hN : ∀ b, Own N bs b → b < w.heap.size)
    (I : List α → World → Prop) (Ix : Code → List α → World → Prop) (hI : Loc Z w.heap.size I) (hIx : ∀ c, Loc Z w.heap.size (Ix c)) (h0 : I [] w)
    (Ax : α → Act → World → Prop) (hAx : ∀ L x a' W r o, W.heap[L]? = some (.loop r) → Ax x a' W → Ax x a' (W.putObj L o))
    (hassign : ∀ (L m : Nat) (pre : List α) (x : α) (W : World) (K : Act → World → Prop), w.heap.size ≤ L → I pre W → (∃ r, W.heap[L]? = some (.loop r)) → (∀ a' W', Keep Z V W W' → I pre W' → Ax x a' W' → K a' W') →
      assign.wpIn (F.inRound L) m P (Exit.then K (fun _ _ _ => False)) { tmps := (ps.zip (encs x)).foldl (fun t (p, v) => t.setIfInBounds p v) a.tmps, defers := [] } W)
    (hbody : ∀ (L m : Nat) (pre : List α) (x : α) (a' : Act) (W : World), w.heap.size ≤ L → pre ++ [x] <+: xs → I pre W → Ax x a' W → (∃ r, W.heap[L]? = some (.loop r)) → body.wpIn (F.inRound L) m P (postB Z V I Ix (pre ++ [x]) W) a' W)
    (hdone : ∀ W, I xs W → Q .normal a W)
    (hstop : ∀ (c : Code) (pre : List α) (W : World), pre <+: xs → Ix c pre W → c.wpIn F n P Q a W) :
    (Code.rangeFunc g ps assign body).wpIn F n P Q a w := by
  refine wpIn_rangeFunc ?_
  intro fn _
  rw [hro]
  obtain ⟨W1, hW1⟩ : ∃ W1, w.alloc (.loop (mkL fn a.tmps ps assign body r₀.defers .ready none)) = W1 := ⟨_, rfl⟩
  have hL1 : W1.heap[w.heap.size]? = some (.loop (mkL fn a.tmps ps assign body r₀.defers .ready none)) := by
    rw [← hW1]
    exact World.alloc_heap_new w _
  have hz : W1.heap.size = w.heap.size + 1 := by rw [← hW1]; simp
  have b1 : Below w.heap.size w W1 := by
    rw [← hW1]
    exact (Below.refl _ w).alloc (Nat.le_refl _) _
  have hI1 : I [] W1 := hI _ _ _ (BelowZ.of b1 (Nat.le_refl _)) h0
  refine ⟨w.heap.size, [], W1, { target := .fn (.func gf) lb, args := #[.func (.yield w.heap.size) #[] #[]] }, W1, gf,
    #[.func (.yield w.heap.size) #[] #[]] ++ lb, W1, ?_, ?_, fun f' _ => hfn f', ?_, fun h => (by rw [hd] at h; cases h), ?_⟩
  · rw [← hW1]
    exact run_enterLoop_inner hr₀ _ _ _ _ _
  · simp only [resolve, hg]
    simp [go_sem]
  · simp [invoke, go_sem, eg]
  · refine (hseq W1 b1 Z w.heap.size
      (fun pre W => I pre W ∧ W.heap[w.heap.size]? = some (.loop (mkL fn a.tmps ps assign body r₀.defers .ready none)))
      (fun pre W => ∃ c, Ix c pre W ∧ W.heap[w.heap.size]? = some (.loop (mkL fn a.tmps ps assign body r₀.defers .done (some c))))
      (fun b => V b ∨ b = w.heap.size) hZ (fun b hb e => hbx b hb (e.of (b1.block b (hN b (.inr hb))))) ?_ ?_ ?_ ?_ ⟨hI1, hL1⟩ _).mono ?_
    · intro b hb
      rcases hb with hb | rfl
      · exact ⟨(hV b hb).1, by have := (hV b hb).2; omega⟩
      · exact ⟨fun e => by have := hN _ e; omega, by omega⟩
    · rintro s X Y k ⟨h1, h2⟩
      exact ⟨hI.mono (by omega) _ _ _ k h1, (k.block _ (.inl (by omega))).trans h2⟩
    · rintro s X Y k ⟨c, h1, h2⟩
      exact ⟨c, (hIx c).mono (by omega) _ _ _ k h1, (k.block _ (.inl (by omega))).trans h2⟩
    · rintro m pre x W ⟨hi, hl⟩ hx
      refine (round_of hfn hps (B := w.heap.size) (Nat.le_refl _) (fun b hb => (hV b hb).2) hI hIx Ax (fun x a' W r o => hAx _ x a' W r o) (xs := xs) hi hx hl
        (fun K hK => hassign _ _ _ _ _ _ (Nat.le_refl _) hi ⟨_, hl⟩ hK) (fun a' W' hi' hax hr => hbody _ _ _ _ _ _ (Nat.le_refl _) hx hi' hax hr)).mono ?_
      rintro e W' (⟨he, hj, hk⟩ | ⟨he, hk, hj⟩)
      · exact .inl ⟨he, hj, hk⟩
      · exact .inr ⟨he, hj, hk⟩
    · rintro e W2 ⟨⟨v, rfl⟩, (⟨⟨hi, hl⟩, _⟩ | ⟨pre, hpre, ⟨c, hi, hl⟩, _⟩)⟩
      · exact ⟨none, _, run_endLoop (P := P) hl (fun e => by cases e), hdone _ (hI _ _ _ (below_putz (Nat.le_refl _) (str_loop hl) _) hi)⟩
      · exact ⟨some c, _, run_endLoop (P := P) hl (fun e => by cases e), hstop c pre _ hpre (hIx c _ _ _ (below_putz (Nat.le_refl _) (str_loop hl) _) hi)⟩
end Rgz
end Go.Proofs.Ytbedcplkcaanhaa
