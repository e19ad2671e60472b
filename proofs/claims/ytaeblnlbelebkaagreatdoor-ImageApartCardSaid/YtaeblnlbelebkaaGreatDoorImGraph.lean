/-
  PLAIN FACTS: which functions a function calls; orders and circles; no program. Own work.
-/
import Derived.Test.YtaeblnlbelebkaaGreatDoorImSem
namespace Go.Proofs.YtaeblnlbelebkaaGreatDoor
namespace Im
open Co (In in0)
set_option linter.unusedVariables false

/-- The j-th instruction of a function's code calls g. -/
def callsAt (m : Im) (f j g : Nat) : Bool := decide ((m.ins ((m.fr f).toNat + j)).op = 17) && decide ((m.ins ((m.fr f).toNat + j)).a = (g : Int))
/-- One of the first j instructions of a function's code calls g. -/
def marked (m : Im) (f : Nat) : Nat → Nat → Bool
  | 0, _ => false
  | j + 1, g => marked m f j g || callsAt m f j g
/-- A function's code calls g. -/
def callsB (m : Im) (f g : Nat) : Bool := marked m f (m.to f - m.fr f).toNat g
/-- What a function calls, ascending. -/
def callsOf (m : Im) (f : Nat) : List Nat := (List.range 64).filter (callsB m f)
theorem marked_ex {m : Im} {f g : Nat} : ∀ {n : Nat}, marked m f n g = true → ∃ j, j < n ∧ callsAt m f j g = true
  | 0, h => by simp [marked] at h
  | n + 1, h => by
    simp only [marked, Bool.or_eq_true] at h
    rcases h with h | h
    · obtain ⟨j, hj, g⟩ := marked_ex h
      exact ⟨j, by omega, g⟩
    · exact ⟨n, by omega, h⟩
theorem marked_of {m : Im} {f g : Nat} : ∀ {n j : Nat}, j < n → callsAt m f j g = true → marked m f n g = true
  | 0, j, hj, _ => absurd hj (Nat.not_lt_zero _)
  | n + 1, j, hj, h => by
    simp only [marked, Bool.or_eq_true]
    by_cases e : j = n
    · subst e; exact .inr h
    · exact .inl (marked_of (by omega) h)
/-- What is called is there. -/
theorem callsB_lt {m : Im} (hi : InsB m) {f g : Nat} (hf : f < m.funcs.length) (h : callsB m f g = true) : g < m.funcs.length := by
  obtain ⟨j, hj, hc⟩ := marked_ex h
  unfold callsAt at hc
  simp only [Bool.and_eq_true, decide_eq_true_eq] at hc
  have := (hi f hf j hj).finds
  unfold Finds at this
  rw [hc.1] at this
  simp at this
  omega
theorem callsOf_mem {m : Im} (hi : InsB m) (hn : m.funcs.length ≤ 64) {f g : Nat} (hf : f < m.funcs.length) : g ∈ callsOf m f ↔ callsB m f g = true := by
  unfold callsOf
  rw [List.mem_filter, List.mem_range]
  constructor
  · exact fun h => h.2
  · intro h
    have := callsB_lt hi hf h
    exact ⟨by omega, h⟩
theorem callsOf_lt {m : Im} (hi : InsB m) {f g : Nat} (hf : f < m.funcs.length) (h : g ∈ callsOf m f) : g < m.funcs.length := by
  unfold callsOf at h
  rw [List.mem_filter] at h
  exact callsB_lt hi hf h.2
theorem callsOf_len (m : Im) (f : Nat) : (callsOf m f).length ≤ 64 := by
  have := List.length_filter_le (callsB m f) (List.range 64)
  rw [List.length_range] at this
  exact this
/-- The same, going through the functions that are there alone. -/
theorem callsOf_n {m : Im} (hi : InsB m) (hn : m.funcs.length ≤ 64) {f : Nat} (hf : f < m.funcs.length) : (List.range m.funcs.length).filter (callsB m f) = callsOf m f := by
  unfold callsOf
  have e : List.range 64 = List.range m.funcs.length ++ (List.range (64 - m.funcs.length)).map (m.funcs.length + ·) := by
    rw [← List.range_add]; congr 1; omega
  rw [e, List.filter_append]
  have z : ((List.range (64 - m.funcs.length)).map (m.funcs.length + ·)).filter (callsB m f) = [] := by
    rw [List.filter_eq_nil_iff]
    intro a ha
    rw [List.mem_map] at ha
    obtain ⟨q, _, rfl⟩ := ha
    intro h
    have := callsB_lt hi hf h
    omega
  rw [z, List.append_nil]

/-! ### how many are in a list -/
theorem nodup_sub_le : ∀ {l l' : List Nat}, l.Nodup → (∀ x ∈ l, x ∈ l') → l.length ≤ l'.length
  | [], l', _, _ => by simp
  | a :: l, l', hd, hs => by
    have ha := hs a (by simp)
    rw [List.nodup_cons] at hd
    have := nodup_sub_le (l := l) (l' := l'.erase a) hd.2 fun x hx => (List.mem_erase_of_ne (fun e => hd.1 (by subst e; exact hx))).2 (hs x (by simp [hx]))
    rw [List.length_erase_of_mem ha] at this
    have hp : 0 < l'.length := List.length_pos_of_mem ha
    simp only [List.length_cons]
    omega
theorem all_of_len {l : List Nat} {n : Nat} (hd : l.Nodup) (hb : ∀ x ∈ l, x < n) (hl : n ≤ l.length) : ∀ x, x < n → x ∈ l := by
  intro x hx
  apply Decidable.byContradiction
  intro hm
  have := nodup_sub_le (l := x :: l) (l' := List.range n) (List.nodup_cons.2 ⟨hm, hd⟩) (fun y hy => by
    rw [List.mem_range]
    rcases List.mem_cons.1 hy with rfl | hy
    · exact hx
    · exact hb y hy)
  rw [List.length_range, List.length_cons] at this
  omega
theorem len_of_all {l : List Nat} {n : Nat} (h : ∀ x, x < n → x ∈ l) : n ≤ l.length := by
  have := nodup_sub_le (l := List.range n) (l' := l) List.nodup_range (fun x hx => h x (List.mem_range.1 hx))
  rwa [List.length_range] at this

/-! ### the order -/
def readyB (m : Im) (out : List Nat) (f : Nat) : Bool := !out.contains f && (callsOf m f).all out.contains
def nextK (m : Im) (out : List Nat) : Option Nat := (List.range m.funcs.length).find? (readyB m out)
def kahn (m : Im) : Nat → List Nat
  | 0 => []
  | k + 1 => match nextK m (kahn m k) with
    | some f => kahn m k ++ [f]
    | none => kahn m k
/-- No function calls itself, directly or through others. -/
def Acyc (m : Im) : Prop := (kahn m m.funcs.length).length = m.funcs.length
instance (m : Im) : Decidable (Acyc m) := by unfold Acyc; infer_instance
def orderL (m : Im) : List Nat := kahn m m.funcs.length
theorem nextK_some {m : Im} {out : List Nat} {f : Nat} (h : nextK m out = some f) : f < m.funcs.length ∧ f ∉ out ∧ (∀ g ∈ callsOf m f, g ∈ out) ∧ ∀ g, g < f → readyB m out g = false := by
  unfold nextK at h
  have h1 := List.find?_some h
  have h2 := List.mem_of_find?_eq_some h
  rw [List.mem_range] at h2
  unfold readyB at h1
  simp only [Bool.and_eq_true, Bool.not_eq_true', List.all_eq_true] at h1
  refine ⟨h2, ?_, fun g hg => by simpa using h1.2 g hg, ?_⟩
  · intro hm
    have : out.contains f = true := by simpa using hm
    rw [this] at h1
    cases h1.1
  · intro g hg
    obtain ⟨_, i, hi, hie, hj⟩ := List.find?_eq_some_iff_getElem.1 h
    simp only [List.getElem_range] at hie
    subst hie
    have := hj g hg
    simpa using this
theorem nextK_none {m : Im} {out : List Nat} (h : nextK m out = none) : ∀ f, f < m.funcs.length → readyB m out f = false := by
  intro f hf
  unfold nextK at h
  rw [List.find?_eq_none] at h
  have := h f (List.mem_range.2 hf)
  simpa using this
theorem readyB_iff {m : Im} {out : List Nat} {f : Nat} : readyB m out f = true ↔ f ∉ out ∧ ∀ g ∈ callsOf m f, g ∈ out := by
  unfold readyB
  simp
/-- What the first steps of the order have. -/
structure Ord (m : Im) (l : List Nat) : Prop where
  nodup : l.Nodup
  lt : ∀ x ∈ l, x < m.funcs.length
theorem kahn_ord (m : Im) : ∀ k, Ord m (kahn m k)
  | 0 => ⟨by simp [kahn], by simp [kahn]⟩
  | k + 1 => by
    have ih := kahn_ord m k
    unfold kahn
    cases h : nextK m (kahn m k) with
    | none => exact ih
    | some f =>
      obtain ⟨h1, h2, _, _⟩ := nextK_some h
      simp only
      refine ⟨?_, ?_⟩
      · rw [List.nodup_append]
        refine ⟨ih.nodup, by simp, ?_⟩
        intro a ha b hb e
        simp at hb
        subst hb; subst e
        exact h2 ha
      · intro x hx
        rcases List.mem_append.1 hx with hx | hx
        · exact ih.lt x hx
        · simp at hx; subst hx; exact h1
theorem kahn_len_le (m : Im) (k : Nat) : (kahn m k).length ≤ m.funcs.length := by
  have o := kahn_ord m k
  have := nodup_sub_le (l' := List.range m.funcs.length) o.nodup (fun x hx => List.mem_range.2 (o.lt x hx))
  rwa [List.length_range] at this
theorem kahn_len (m : Im) : ∀ k, (kahn m k).length ≤ k
  | 0 => by simp [kahn]
  | k + 1 => by
    have ih := kahn_len m k
    unfold kahn
    cases h : nextK m (kahn m k) with
    | none => simp only; omega
    | some f => simp only [List.length_append, List.length_singleton]; omega
theorem kahn_mono {m : Im} : ∀ {k n : Nat}, k ≤ n → ∀ x ∈ kahn m k, x ∈ kahn m n
  | k, 0, h, x, hx => by obtain rfl : k = 0 := by omega
                         exact hx
  | k, n + 1, h, x, hx => by
    by_cases e : k = n + 1
    · subst e; exact hx
    · have := kahn_mono (k := k) (n := n) (by omega) x hx
      unfold kahn
      cases nextK m (kahn m n) with
      | none => exact this
      | some f => simp only; exact List.mem_append.2 (.inl this)
theorem kahn_stuck {m : Im} {k : Nat} (h : nextK m (kahn m k) = none) : ∀ n, k ≤ n → kahn m n = kahn m k
  | 0, hn => by obtain rfl : k = 0 := by omega
                rfl
  | n + 1, hn => by
    by_cases e : k = n + 1
    · subst e; rfl
    · have ih := kahn_stuck h n (by omega)
      show (match nextK m (kahn m n) with | some f => kahn m n ++ [f] | none => kahn m n) = kahn m k
      rw [ih, h]
theorem kahn_step {m : Im} {k f : Nat} (h : nextK m (kahn m k) = some f) : kahn m (k + 1) = kahn m k ++ [f] := by
  show (match nextK m (kahn m k) with | some f => kahn m k ++ [f] | none => kahn m k) = _
  rw [h]
/-- Without a circle each step finds one. -/
theorem Acyc.next {m : Im} (h : Acyc m) {k : Nat} (hk : k < m.funcs.length) : ∃ f, nextK m (kahn m k) = some f := by
  cases e : nextK m (kahn m k) with
  | some f => exact ⟨f, rfl⟩
  | none =>
    unfold Acyc at h
    rw [kahn_stuck e _ (by omega)] at h
    have := kahn_len m k
    omega
theorem Acyc.len {m : Im} (h : Acyc m) : ∀ {k : Nat}, k ≤ m.funcs.length → (kahn m k).length = k
  | 0, _ => rfl
  | k + 1, hk => by
    obtain ⟨f, hf⟩ := h.next (k := k) (by omega)
    rw [kahn_step hf, List.length_append, h.len (k := k) (by omega)]
    rfl
theorem Acyc.all {m : Im} (h : Acyc m) : ∀ x, x < m.funcs.length → x ∈ orderL m :=
  all_of_len (kahn_ord m _).nodup (kahn_ord m _).lt (by unfold Acyc at h; unfold orderL; omega)
/-- What is in after some steps has come in by a step; what it calls was there. -/
theorem kahn_in {m : Im} : ∀ {k x : Nat}, x ∈ kahn m k → ∃ j, j < k ∧ ∀ g ∈ callsOf m x, g ∈ kahn m j
  | 0, x, h => by simp [kahn] at h
  | k + 1, x, h => by
    cases e : nextK m (kahn m k) with
    | none =>
      rw [kahn_stuck e (k + 1) (by omega)] at h
      obtain ⟨j, hj, g⟩ := kahn_in h
      exact ⟨j, by omega, g⟩
    | some f =>
      rw [kahn_step e, List.mem_append] at h
      rcases h with h | h
      · obtain ⟨j, hj, g⟩ := kahn_in h
        exact ⟨j, by omega, g⟩
      · simp at h; subst h
        exact ⟨k, by omega, (nextK_some e).2.2.1⟩

/-! ### circles -/
/-- A function leads to another by one call or more. -/
inductive Leads (m : Im) : Nat → Nat → Prop
  | one {a b : Nat} : b ∈ callsOf m a → Leads m a b
  | more {a b c : Nat} : Leads m a b → c ∈ callsOf m b → Leads m a c
theorem Leads.down {m : Im} {a b : Nat} (h : Leads m a b) : ∀ {k : Nat}, a ∈ kahn m k → ∃ j, j < k ∧ b ∈ kahn m j := by
  induction h with
  | one hb =>
    intro k ha
    obtain ⟨j, hj, g⟩ := kahn_in ha
    exact ⟨j, hj, g _ hb⟩
  | more _ hc ih =>
    intro k ha
    obtain ⟨j, hj, g⟩ := ih ha
    obtain ⟨i, hi, g'⟩ := kahn_in g
    exact ⟨i, by omega, g' _ hc⟩
theorem no_loop {m : Im} {a : Nat} (h : Leads m a a) : ∀ k, a ∉ kahn m k := by
  intro k
  induction k using Nat.strongRecOn with
  | _ k ih =>
    intro ha
    obtain ⟨j, hj, g⟩ := h.down ha
    exact ih j hj g
theorem Acyc.no {m : Im} (h : Acyc m) {a : Nat} (ha : a < m.funcs.length) : ¬ Leads m a a := fun g => no_loop g _ (h.all a ha)

/-- A list in which what each one calls comes behind it. -/
inductive Topo (m : Im) : List Nat → Prop
  | nil : Topo m []
  | cons {g : Nat} {l : List Nat} : (∀ x ∈ callsOf m g, x ∈ l) → Topo m l → Topo m (g :: l)
theorem Topo.closed {m : Im} {l : List Nat} (h : Topo m l) : ∀ g ∈ l, ∀ x ∈ callsOf m g, x ∈ l := by
  induction h with
  | nil => simp
  | cons h1 _ ih =>
    intro g hg x hx
    rcases List.mem_cons.1 hg with rfl | hg
    · exact List.mem_cons_of_mem _ (h1 x hx)
    · exact List.mem_cons_of_mem _ (ih g hg x hx)
theorem Topo.sub {m : Im} {l out : List Nat} (h : Topo m l) (hl : ∀ x ∈ l, x < m.funcs.length) (hs : nextK m out = none) : ∀ g ∈ l, g ∈ out := by
  induction h with
  | nil => simp
  | @cons g l h1 _ ih =>
    have ih' := ih fun x hx => hl x (List.mem_cons_of_mem _ hx)
    intro x hx
    rcases List.mem_cons.1 hx with rfl | hx
    · have hr := nextK_none hs x (hl x (by simp))
      apply Decidable.byContradiction
      intro hn
      have : readyB m out x = true := readyB_iff.2 ⟨hn, fun y hy => ih' y (h1 y hy)⟩
      rw [hr] at this
      cases this
    · exact ih' x hx
theorem Topo.acyc {m : Im} {l : List Nat} (h : Topo m l) (hl : ∀ x ∈ l, x < m.funcs.length) (ha : ∀ x, x < m.funcs.length → x ∈ l) : Acyc m := by
  unfold Acyc
  have key : ∀ k, k ≤ m.funcs.length → (kahn m k).length = k := by
    intro k
    induction k with
    | zero => intro _; rfl
    | succ k ih =>
      intro hk
      have ih' := ih (by omega)
      cases e : nextK m (kahn m k) with
      | some f => rw [kahn_step e, List.length_append, ih']; rfl
      | none =>
        have hs := h.sub hl e
        have := len_of_all (l := kahn m k) (n := m.funcs.length) fun x hx => hs x (ha x hx)
        omega
  exact key _ (Nat.le_refl _)

/-! ### the walk with three colours -/
/-- What a walk knows between two calls: black ones lead to black ones alone, and lie in an order. -/
structure Cols (m : Im) (c : Nat → Nat) : Prop where
  topo : ∃ l, Topo m l ∧ (∀ g, c g = 2 ↔ g ∈ l) ∧ ∀ g ∈ l, g < m.funcs.length
  two : ∀ g, c g ≤ 2
def whites (c : Nat → Nat) : Nat := ((List.range 64).filter fun g => decide (c g = 0)).length
def setC (c : Nat → Nat) (f x : Nat) : Nat → Nat := fun g => if g = f then x else c g
theorem setC_same (c : Nat → Nat) (f x : Nat) : setC c f x f = x := by unfold setC; rw [if_pos rfl]
theorem setC_other (c : Nat → Nat) (f x : Nat) {g : Nat} (h : g ≠ f) : setC c f x g = c g := by unfold setC; rw [if_neg h]
theorem whites_le {c d : Nat → Nat} (h : ∀ g, d g = 0 → c g = 0) : whites d ≤ whites c := by
  unfold whites
  refine nodup_sub_le (List.nodup_range.filter _) ?_
  intro x hx
  rw [List.mem_filter] at hx ⊢
  exact ⟨hx.1, by have := hx.2; simp at this ⊢; exact h x this⟩
theorem whites_lt {c : Nat → Nat} {f x : Nat} (hf : f < 64) (h : c f = 0) (hx : x ≠ 0) : whites (setC c f x) < whites c := by
  unfold whites
  have hd : (f :: (List.range 64).filter fun g => decide (setC c f x g = 0)).Nodup := by
    rw [List.nodup_cons]
    refine ⟨?_, List.nodup_range.filter _⟩
    rw [List.mem_filter]
    rintro ⟨_, g⟩
    rw [setC_same] at g
    simp at g
    exact hx g
  have := nodup_sub_le (l' := (List.range 64).filter fun g => decide (c g = 0)) hd (by
    intro y hy
    rcases List.mem_cons.1 hy with rfl | hy
    · rw [List.mem_filter, List.mem_range]; exact ⟨hf, by simpa using h⟩
    · rw [List.mem_filter] at hy ⊢
      refine ⟨hy.1, ?_⟩
      have := hy.2
      simp only [decide_eq_true_eq] at this ⊢
      by_cases e : y = f
      · rw [e, setC_same] at this; exact absurd this hx
      · rwa [setC_other _ _ _ e] at this)
  simp only [List.length_cons] at this
  omega
/-- How colours may change by a call that does not come back. -/
structure Went (c d : Nat → Nat) : Prop where
  grey : ∀ g, c g = 1 ↔ d g = 1
  black : ∀ g, c g = 2 → d g = 2
  white : ∀ g, d g = 0 → c g = 0
theorem Went.refl (c : Nat → Nat) : Went c c := ⟨fun _ => Iff.rfl, fun _ h => h, fun _ h => h⟩
theorem Went.trans {a b c : Nat → Nat} (h : Went a b) (k : Went b c) : Went a c := ⟨fun g => (h.grey g).trans (k.grey g), fun g x => k.black g (h.black g x), fun g x => h.white g (k.white g x)⟩
theorem Cols.grey {m : Im} {c : Nat → Nat} (h : Cols m c) {f : Nat} (hf : c f ≠ 2) : Cols m (setC c f 1) := by
  obtain ⟨⟨l, t, e, b⟩, t2⟩ := h
  refine ⟨⟨l, t, fun g => ?_, b⟩, fun g => ?_⟩
  · by_cases x : g = f
    · subst x; rw [setC_same]
      exact ⟨fun y => absurd y (by decide), fun y => absurd ((e g).2 y) hf⟩
    · rw [setC_other _ _ _ x]; exact e g
  · unfold setC; split
    · omega
    · exact t2 g
theorem Cols.black {m : Im} {c : Nat → Nat} (h : Cols m c) {f : Nat} (hf : f < m.funcs.length) (hb : ∀ g ∈ callsOf m f, c g = 2) : Cols m (setC c f 2) := by
  obtain ⟨⟨l, t, e, b⟩, t2⟩ := h
  refine ⟨⟨f :: l, .cons (fun x hx => (e x).1 (hb x hx)) t, fun g => ?_, ?_⟩, fun g => ?_⟩
  · by_cases x : g = f
    · subst x; rw [setC_same]; simp
    · rw [setC_other _ _ _ x, e g]; simp [x]
  · intro g hg
    rcases List.mem_cons.1 hg with rfl | hg
    · exact hf
    · exact b g hg
  · unfold setC; split
    · omega
    · exact t2 g
theorem Cols.start (m : Im) : Cols m (fun _ => 0) := ⟨⟨[], .nil, fun g => by simp, by simp⟩, fun g => by omega⟩
theorem Cols.acyc {m : Im} {c : Nat → Nat} (h : Cols m c) (ha : ∀ f, f < m.funcs.length → c f = 2) : Acyc m := by
  obtain ⟨⟨l, t, e, b⟩, _⟩ := h
  exact t.acyc b fun x hx => (e x).1 (ha x hx)
/-- A circle through some function that is there. -/
def Loop (m : Im) : Prop := ∃ a, a < m.funcs.length ∧ Leads m a a
theorem Loop.no {m : Im} (h : Loop m) : ¬ Acyc m := by
  obtain ⟨a, ha, g⟩ := h
  exact fun k => k.no ha g

/-- The error of Check. -/
def chkI (m : Im) : Int := if Long m then 3 else if May m then (if Acyc m then 0 else 13) else 2
theorem chkI_long {m : Im} (h : Long m) : chkI m = 3 := by unfold chkI; rw [if_pos h]
theorem chkI_may {m : Im} (h : ¬ Long m) (g : ¬ May m) : chkI m = 2 := by unfold chkI; rw [if_neg h, if_neg g]
theorem chkI_loop {m : Im} (h : ¬ Long m) (g : May m) (a : ¬ Acyc m) : chkI m = 13 := by unfold chkI; rw [if_neg h, if_pos g, if_neg a]
theorem chkI_ok {m : Im} (h : ¬ Long m) (g : May m) (a : Acyc m) : chkI m = 0 := by unfold chkI; rw [if_neg h, if_pos g, if_pos a]
theorem chkI_zero {m : Im} : chkI m = 0 ↔ ¬ Long m ∧ May m ∧ Acyc m := by
  unfold chkI
  split
  · rename_i h; simp [h]
  · split
    · split
      · rename_i a b c; simp [a, b, c]
      · rename_i a b c; simp [c]
    · rename_i a b; simp [b]
theorem chkI_cases (m : Im) : chkI m = 0 ∨ chkI m = 2 ∨ chkI m = 3 ∨ chkI m = 13 := by
  unfold chkI
  split
  · simp
  · split
    · split <;> simp
    · simp
end Im
end Go.Proofs.YtaeblnlbelebkaaGreatDoor
