/-
  PLAIN FACTS: lines and columns; where tokens stand; a line's end and what follows behind a text; no program. Own work.
-/
import Derived.Test.YtlgkcjhoaecekaaDoorLxJoin
namespace Go.Proofs.YtlgkcjhoaecekaaDoor
namespace Lx
set_option linter.unusedVariables false

/-- The line and the column behind a text. -/
def posL (a : List UInt8) : Int × Int := (((a.filter (fun b => b == 10)).length : Int) + 1, (spn noNl a.reverse : Int) + 1)
theorem posL_nl (a : List UInt8) : posL (a ++ [10]) = ((posL a).1 + 1, 1) := by
  unfold posL
  have : spn noNl (10 :: a.reverse) = 0 := spn_cons_f (by decide)
  simp [this]
theorem posL_no {a : List UInt8} {b : UInt8} (h : noNl b = true) : posL (a ++ [b]) = ((posL a).1, (posL a).2 + 1) := by
  have e : spn noNl (b :: a.reverse) = spn noNl a.reverse + 1 := spn_cons_t h
  have : b ≠ 10 := by unfold noNl at h; simpa using h
  unfold posL
  simp [e, this]
theorem posL_run : ∀ {d a : List UInt8}, (∀ b ∈ d, noNl b = true) → posL (a ++ d) = ((posL a).1, (posL a).2 + d.length)
  | [], a, _ => by simp
  | b :: d, a, h => by
    rw [show a ++ b :: d = (a ++ [b]) ++ d by simp, posL_run (fun x hx => h x (by simp [hx])), posL_no (h b (by simp))]
    simp
    omega
theorem posL_one (a : List UInt8) : 1 ≤ (posL a).1 ∧ 1 ≤ (posL a).2 := by unfold posL; simp only; omega
/-- Behind more text, another line or a further column. -/
theorem posL_lt : ∀ {d a : List UInt8}, d ≠ [] → (posL a).1 < (posL (a ++ d)).1 ∨ ((posL a).1 = (posL (a ++ d)).1 ∧ (posL a).2 < (posL (a ++ d)).2)
  | [], _, h => absurd rfl h
  | b :: d, a, _ => by
    have s : (posL a).1 < (posL (a ++ [b])).1 ∨ ((posL a).1 = (posL (a ++ [b])).1 ∧ (posL a).2 < (posL (a ++ [b])).2) := by
      cases hb : noNl b with
      | true => rw [posL_no hb]; right; exact ⟨rfl, by simp only; omega⟩
      | false =>
        have : b = 10 := by unfold noNl at hb; simpa using hb
        subst this
        rw [posL_nl]
        left
        simp only
        omega
    by_cases hd : d = []
    · subst hd; exact s
    · have ih := posL_lt (a := a ++ [b]) hd
      rw [show a ++ b :: d = (a ++ [b]) ++ d by simp]
      omega
theorem posL_inj {a d : List UInt8} (h : posL (a ++ d) = posL a) : d = [] := by
  by_cases hd : d = []
  · exact hd
  · have := posL_lt (a := a) hd
    rw [h] at this
    omega
/-- Tokens stand in a text, one behind the other, each at its line and column. -/
def Locd : List UInt8 → List UInt8 → List Tk → Prop
  | _, _, [] => True
  | a, s, t :: ts => ∃ g r, s = g ++ t.t ++ r ∧ posL (a ++ g) = (t.l, t.c) ∧ t.t ≠ [] ∧ Locd (a ++ g ++ t.t) r ts
theorem Locd.skip {a g s : List UInt8} : ∀ {ts : List Tk}, Locd (a ++ g) s ts → Locd a (g ++ s) ts
  | [], _ => trivial
  | t :: ts, h => by
    obtain ⟨g', r, rfl, h2, h3, h4⟩ := h
    exact ⟨g ++ g', r, by simp, by rw [← List.append_assoc]; exact h2, h3, by rw [← List.append_assoc a g g']; exact h4⟩
theorem tok_noNl {x : List UInt8} {k v : Int} (h : Whole x k v) : ∀ b ∈ x, noNl b = true := by
  have w : ∀ b, inW b = true → noNl b = true := by
    intro b hb
    by_cases e : b = 10
    · subst e; revert hb; decide
    · unfold noNl; simpa using e
  unfold Whole at h
  cases e : hdOf x with
  | wd =>
    rw [e] at h
    simp only [tokH, Option.some.injEq, Prod.mk.injEq] at h
    intro b hb
    have := all_spn inW x b (by rw [h.2.1, List.take_length]; exact hb)
    exact w b this
  | hx =>
    rw [e] at h
    simp only [tokH, Option.map_eq_some_iff] at h
    obtain ⟨⟨n, u⟩, h1, h2⟩ := h
    obtain ⟨e1, e0⟩ := numT_len h1
    simp only [Prod.mk.injEq] at h2
    intro b hb
    rw [← List.take_append_drop 2 x, List.mem_append] at hb
    rcases hb with hb | hb
    · cases x with
      | nil => cases e
      | cons y q =>
        have g := (hd_hx.1 e).2.2.2.2
        obtain ⟨t, ht⟩ := List.isPrefixOf_iff_prefix.1 g
        rw [← ht] at hb
        simp at hb
        rcases hb with rfl | rfl <;> decide
    · have hl := hx_len e
      have := all_spn isHx (x.drop 2) b (by rw [show spn isHx (x.drop 2) = (x.drop 2).length by rw [List.length_drop]; omega, List.take_length]; exact hb)
      by_cases e : b = 10
      · subst e; revert this; decide
      · unfold noNl; simpa using e
  | dg =>
    rw [e] at h
    simp only [tokH, Option.map_eq_some_iff] at h
    obtain ⟨⟨n, u⟩, h1, h2⟩ := h
    obtain ⟨e1, e0⟩ := numT_len h1
    simp only [Prod.mk.injEq] at h2
    intro b hb
    rw [List.drop_zero] at e1
    have := all_spn isDg x b (by rw [show spn isDg x = x.length by omega, List.take_length]; exact hb)
    by_cases e : b = 10
    · subst e; revert this; decide
    · unfold noNl; simpa using e
  | sg =>
    rw [e] at h
    simp only [tokH] at h
    split at h
    · cases h
    · rename_i h0
      simp only [Option.some.injEq, Prod.mk.injEq] at h
      have hm := (sgn_text h0).1
      rw [h.2.1, List.take_length] at hm
      have : ∀ g ∈ sgnL, ∀ b ∈ g, noNl b = true := by decide
      exact this x hm
  | fin | nl | bl | cm => rw [e] at h; cases h
theorem bl_noNl {s : List UInt8} : ∀ b ∈ s.take (spn isBl s), noNl b = true := fun b hb => by
  have := all_spn isBl s b hb
  by_cases e : b = 10
  · subst e; revert this; decide
  · unfold noNl; simpa using e
theorem nl_head {s : List UInt8} (h : hdOf s = .nl) : s = 10 :: s.drop 1 := by
  cases s with
  | nil => cases h
  | cons b q =>
    rw [hd_cons] at h
    by_cases e : b = 10
    · subst e; rfl
    · rw [if_neg e] at h
      repeat' split at h
      all_goals cases h
/-- Where the tokens of a text stand; a fault's line and column. -/
theorem Lex_locd : ∀ (n : Nat) {a s : List UInt8} {l c : Int}, s.length ≤ n → posL a = (l, c) → (∀ ts, Lex s l c = .ok ts → Locd a s ts) ∧ (∀ x y, Lex s l c = .error (x, y) → 1 ≤ x ∧ 1 ≤ y)
  | n, a, s, l, c, hn, hp => by
    have ne : hdOf s ≠ .fin → 0 < s.length := fun g => List.length_pos_iff.2 (hd_ne g)
    have gap : ∀ m, m ≤ s.length → 0 < m → (∀ b ∈ s.take m, noNl b = true) → (∀ ts, Lex (s.drop m) l (c + m) = .ok ts → Locd (a ++ s.take m) (s.drop m) ts) ∧ (∀ x y, Lex (s.drop m) l (c + m) = .error (x, y) → 1 ≤ x ∧ 1 ≤ y) := by
      intro m h1 h2 h3
      refine Lex_locd (n - m) (by rw [List.length_drop]; omega) ?_
      rw [posL_run h3, hp, List.length_take, Nat.min_eq_left h1]
    rw [Lex_step]
    cases e : hdOf s with
    | fin => exact ⟨fun ts h => by injection h with h; subst h; trivial, fun x y h => by cases h⟩
    | nl =>
      have := ne (by rw [e]; decide)
      have hs := nl_head e
      have := Lex_locd (n - 1) (a := a ++ [10]) (s := s.drop 1) (l := l + 1) (c := 1) (by rw [List.length_drop]; omega) (by rw [posL_nl, hp])
      refine ⟨fun ts h => ?_, this.2⟩
      have g := (this.1 ts h).skip (g := [10]) (a := a)
      rw [hs]
      exact g
    | bl =>
      have g := gap _ (spn_le isBl s) (bl_pos e) bl_noNl
      refine ⟨fun ts h => ?_, g.2⟩
      have := (g.1 ts h).skip
      rwa [List.take_append_drop] at this
    | cm =>
      have g := gap _ (spn_le noNl s) (cm_pos e) (all_spn noNl s)
      refine ⟨fun ts h => ?_, g.2⟩
      have := (g.1 ts h).skip
      rwa [List.take_append_drop] at this
    | wd | hx | dg | sg =>
      simp only
      rw [← e]
      cases ht : tokH (hdOf s) s with
      | none =>
        refine ⟨fun ts h => (by cases h), fun x y h => ?_⟩
        simp only [Except.error.injEq, Prod.mk.injEq] at h
        have := posL_one a
        rw [hp] at this
        simp only at this
        omega
      | some z =>
        obtain ⟨k, m, v⟩ := z
        have hl := tokH_len ht
        have hw := (cut ht).2.1
        have g := gap m hl.2 hl.1 (tok_noNl hw)
        simp only
        constructor
        · intro ts h
          unfold push at h
          split at h
          · rename_i us hu
            injection h with h
            subst h
            exact ⟨[], s.drop m, by simp, by rw [List.append_nil]; exact hp, hw.ne, by rw [List.append_nil]; exact g.1 us hu⟩
          · cases h
        · intro x y h
          unfold push at h
          split at h
          · cases h
          · rename_i q hq
            injection h with h
            subst h
            exact g.2 x y hq
termination_by n a s => s.length
decreasing_by all_goals (simp only [List.length_drop]; omega)
def pre (us : List Tk) : Except (Int × Int) (List Tk) → Except (Int × Int) (List Tk)
  | .ok ts => .ok (us ++ ts)
  | .error e => .error e
/-- A line's end, and more, behind a text. -/
theorem Lex_app : ∀ (n : Nat) {s r : List UInt8} {l c : Int} {ts : List Tk}, s.length ≤ n → Lex s l c = .ok ts → Lex (s ++ 10 :: r) l c = pre ts (Lex r (l + ((s.filter (fun b => b == 10)).length : Int) + 1) 1)
  | n, s, r, l, c, ts, hn, h => by
    have ne : hdOf s ≠ .fin → 0 < s.length := fun g => List.length_pos_iff.2 (hd_ne g)
    have hz : ∀ m, m ≤ s.length → (∀ b ∈ s.take m, noNl b = true) → ((s.drop m).filter (fun b => b == 10)).length = (s.filter (fun b => b == 10)).length := by
      intro m hm hb
      conv => rhs; rw [← List.take_append_drop m s, List.filter_append]
      have : (s.take m).filter (fun b => b == 10) = [] := by
        rw [List.filter_eq_nil_iff]
        intro x hx
        have := hb x hx
        unfold noNl at this
        simpa using this
      rw [this, List.nil_append]
    have nz : s ≠ [] → hdOf (s ++ 10 :: r) = hdOf s := fun q => hdOf_sep (Sep.nl r) q
    rw [Lex_step] at h
    cases e : hdOf s with
    | fin =>
      rw [e] at h
      injection h with h
      subst h
      cases s with
      | nil =>
        rw [List.nil_append, Lex_nl rfl]
        simp [pre]
        cases Lex r (l + 1) 1 <;> rfl
      | cons b q =>
        rw [hd_cons] at e
        repeat' split at e
        all_goals cases e
    | nl =>
      rw [e] at h
      have hp := ne (by rw [e]; decide)
      have hs := nl_head e
      have q := Lex_app (n - 1) (r := r) (by rw [List.length_drop]; omega) h
      have e2 : hdOf (s ++ 10 :: r) = .nl := by rw [nz (by intro x; subst x; cases e), e]
      rw [Lex_nl e2, drop_sep (by omega), q]
      conv => rhs; rw [hs]
      simp
      congr 2
      omega
    | bl =>
      rw [e] at h
      have hp := bl_pos e
      have := spn_le isBl s
      have e2 : hdOf (s ++ 10 :: r) = .bl := by rw [nz (by intro x; subst x; cases e), e]
      have q := Lex_app (n - 1) (r := r) (by rw [List.length_drop]; omega) h
      rw [Lex_bl e2, spn_nl (by decide), drop_sep (spn_le _ _), q, hz _ (spn_le _ _) bl_noNl]
    | cm =>
      rw [e] at h
      have hp := cm_pos e
      have := spn_le noNl s
      have e2 : hdOf (s ++ 10 :: r) = .cm := by rw [nz (by intro x; subst x; cases e), e]
      have q := Lex_app (n - 1) (r := r) (by rw [List.length_drop]; omega) h
      rw [Lex_cm e2, spn_nl (by decide), drop_sep (spn_le _ _), q, hz _ (spn_le _ _) (all_spn noNl s)]
    | wd | hx | dg | sg =>
      rw [e] at h
      simp only at h
      rw [← e] at h
      split at h
      · cases h
      · rename_i k m v ht
        have hl := tokH_len ht
        have hw := (cut ht).2.1
        have sne : s ≠ [] := by intro x; subst x; cases e
        have ht2 : tokH (hdOf (s ++ 10 :: r)) (s ++ 10 :: r) = some (k, m, v) := by rw [nz sne, tokH_sep (Sep.nl r) sne, ht]
        rw [Lex_yes ht2, take_sep hl.2, drop_sep hl.2]
        unfold push at h
        split at h
        · rename_i us hu
          injection h with h
          subst h
          rw [Lex_app (n - 1) (r := r) (by rw [List.length_drop]; omega) hu, hz m hl.2 (tok_noNl hw)]
          cases Lex r (l + ((s.filter (fun b => b == 10)).length : Int) + 1) 1 <;> rfl
        · cases h
termination_by n s => s.length
decreasing_by all_goals (simp only [List.length_drop]; omega)
/-- The same text at another line. -/
def shiftT (d : Int) (t : Tk) : Tk := ⟨t.k, t.t, t.l + d, t.c, t.n⟩
theorem Lex_shift : ∀ (n : Nat) {s : List UInt8} {l c d : Int} {ts : List Tk}, s.length ≤ n → Lex s l c = .ok ts → Lex s (l + d) c = .ok (ts.map (shiftT d))
  | n, s, l, c, d, ts, hn, h => by
    have ne : hdOf s ≠ .fin → 0 < s.length := fun g => List.length_pos_iff.2 (hd_ne g)
    rw [Lex_step] at h ⊢
    cases e : hdOf s with
    | fin =>
      rw [e] at h
      injection h with h
      subst h
      rfl
    | nl =>
      rw [e] at h
      have hp := ne (by rw [e]; decide)
      have := Lex_shift (n - 1) (d := d) (by rw [List.length_drop]; omega) h
      rw [show l + d + 1 = l + 1 + d by omega]
      exact this
    | bl =>
      rw [e] at h
      have := bl_pos e
      have := spn_le isBl s
      exact Lex_shift (n - 1) (by rw [List.length_drop]; omega) h
    | cm =>
      rw [e] at h
      have := cm_pos e
      have := spn_le noNl s
      exact Lex_shift (n - 1) (by rw [List.length_drop]; omega) h
    | wd | hx | dg | sg =>
      rw [e] at h
      simp only at h ⊢
      rw [← e] at h ⊢
      split at h
      · cases h
      · rename_i k m v ht
        have hl := tokH_len ht
        unfold push at h
        split at h
        · rename_i us hu
          injection h with h
          subst h
          rw [Lex_shift (n - 1) (by rw [List.length_drop]; omega) hu]
          rfl
        · cases h
termination_by n s => s.length
decreasing_by all_goals (simp only [List.length_drop]; omega)
end Lx
end Go.Proofs.YtlgkcjhoaecekaaDoor
