/-
  PLAIN FACTS: what stands at a head is not changed by what follows a blank or a line's end; fuel; no program. Own work.
-/
import Derived.Test.YtlgkcjhoaecekaaDoorLxSem
namespace Go.Proofs.YtlgkcjhoaecekaaDoor
namespace Lx
set_option linter.unusedVariables false

theorem spn_le (p : UInt8 → Bool) (s : List UInt8) : spn p s ≤ s.length := by
  unfold spn
  exact (List.takeWhile_sublist p).length_le
theorem spn_cons_t {p : UInt8 → Bool} {b : UInt8} {s : List UInt8} (h : p b = true) : spn p (b :: s) = spn p s + 1 := by
  unfold spn; rw [List.takeWhile_cons, if_pos h]; rfl
theorem spn_cons_f {p : UInt8 → Bool} {b : UInt8} {s : List UInt8} (h : p b = false) : spn p (b :: s) = 0 := by
  unfold spn; rw [List.takeWhile_cons, if_neg (by simp [h])]; rfl
theorem spn_nil (p : UInt8 → Bool) : spn p [] = 0 := rfl
/-- Nothing follows, or a line's end or a blank. -/
def Sep (r : List UInt8) : Prop := r = [] ∨ ∃ z q, r = z :: q ∧ (z = 10 ∨ z = 32)
theorem Sep.nil : Sep [] := .inl rfl
theorem Sep.nl (q : List UInt8) : Sep (10 :: q) := .inr ⟨10, q, rfl, .inl rfl⟩
theorem Sep.bl (q : List UInt8) : Sep (32 :: q) := .inr ⟨32, q, rfl, .inr rfl⟩
theorem spn_sep {p : UInt8 → Bool} (h1 : p 10 = false) (h2 : p 32 = false) {r : List UInt8} (hr : Sep r) : ∀ s, spn p (s ++ r) = spn p s
  | [] => by
    rcases hr with rfl | ⟨z, q, rfl, rfl | rfl⟩
    · rfl
    · exact spn_cons_f h1
    · exact spn_cons_f h2
  | b :: s => by
    cases h : p b with
    | true => rw [List.cons_append, spn_cons_t h, spn_cons_t h, spn_sep h1 h2 hr s]
    | false => rw [List.cons_append, spn_cons_f h, spn_cons_f h]
/-- A sort that ends at a line's end. -/
theorem spn_nl {p : UInt8 → Bool} (h1 : p 10 = false) (r : List UInt8) : ∀ s, spn p (s ++ 10 :: r) = spn p s
  | [] => spn_cons_f h1
  | b :: s => by
    cases h : p b with
    | true => rw [List.cons_append, spn_cons_t h, spn_cons_t h, spn_nl h1 r s]
    | false => rw [List.cons_append, spn_cons_f h, spn_cons_f h]
theorem pre1_sep {y : UInt8} (h1 : y ≠ 10) (h2 : y ≠ 32) {r : List UInt8} (hr : Sep r) (s : List UInt8) : [y].isPrefixOf (s ++ r) = [y].isPrefixOf s := by
  cases s with
  | nil =>
    rcases hr with rfl | ⟨z, q, rfl, rfl | rfl⟩
    · rfl
    · simp [List.isPrefixOf, h1]
    · simp [List.isPrefixOf, h2]
  | cons b s => simp [List.isPrefixOf]
theorem pre2_sep {x y : UInt8} (h1 : y ≠ 10) (h2 : y ≠ 32) {r : List UInt8} (hr : Sep r) {s : List UInt8} (hs : s ≠ []) : [x, y].isPrefixOf (s ++ r) = [x, y].isPrefixOf s := by
  cases s with
  | nil => exact absurd rfl hs
  | cons b s =>
    have := pre1_sep h1 h2 hr s
    show ((x == b) && [y].isPrefixOf (s ++ r)) = ((x == b) && [y].isPrefixOf s)
    rw [this]
theorem hdOf_sep {r : List UInt8} (hr : Sep r) {s : List UInt8} (hs : s ≠ []) : hdOf (s ++ r) = hdOf s := by
  have e1 := pre2_sep (x := 47) (y := 47) (by decide) (by decide) hr hs
  have e2 := pre2_sep (x := 48) (y := 120) (by decide) (by decide) hr hs
  cases s with
  | nil => exact absurd rfl hs
  | cons b s =>
    rw [List.cons_append] at e1 e2 ⊢
    unfold hdOf
    simp only [e1, e2]
def shp : List UInt8 → Bool
  | [x] => true
  | [x, y] => y != 10 && y != 32
  | _ => false
theorem sgn_shp : ∀ g ∈ sgnL, shp g = true := by decide
theorem sgn_sep {r : List UInt8} (hr : Sep r) {s : List UInt8} (hs : s ≠ []) {g : List UInt8} (hg : g ∈ sgnL) : g.isPrefixOf (s ++ r) = g.isPrefixOf s := by
  have := sgn_shp g hg
  match g, this with
  | [x], _ =>
    cases s with
    | nil => exact absurd rfl hs
    | cons b s => simp [List.isPrefixOf]
  | [x, y], h =>
    simp [shp] at h
    exact pre2_sep h.1 h.2 hr hs
theorem find_congr {α : Type} {p q : α → Bool} : ∀ {l : List α}, (∀ x ∈ l, p x = q x) → l.find? p = l.find? q
  | [], _ => rfl
  | a :: l, h => by
    rw [List.find?_cons, List.find?_cons, h a (by simp), find_congr (fun x hx => h x (by simp [hx]))]
theorem sgnN_sep {r : List UInt8} (hr : Sep r) {s : List UInt8} (hs : s ≠ []) : sgnN (s ++ r) = sgnN s := by
  unfold sgnN
  rw [find_congr (fun g hg => sgn_sep hr hs hg)]
theorem sgnN_le (s : List UInt8) : sgnN s ≤ s.length := by
  unfold sgnN
  split
  · rename_i g h
    have := List.find?_some h
    exact (List.isPrefixOf_iff_prefix.1 this).length_le
  · exact Nat.zero_le _
theorem drop_sep {s r : List UInt8} {n : Nat} (h : n ≤ s.length) : (s ++ r).drop n = s.drop n ++ r := by
  rw [List.drop_append, Nat.sub_eq_zero_of_le h, List.drop_zero]
theorem take_sep {s r : List UInt8} {n : Nat} (h : n ≤ s.length) : (s ++ r).take n = s.take n := by
  rw [List.take_append, Nat.sub_eq_zero_of_le h, List.take_zero, List.append_nil]
theorem numT_sep {pre q : Nat} {p : UInt8 → Bool} (h1 : p 10 = false) (h2 : p 32 = false) {r : List UInt8} (hr : Sep r) {s : List UInt8} (hs : pre ≤ s.length) : numT pre p q (s ++ r) = numT pre p q s := by
  have hd := drop_sep (r := r) hs
  have hp := spn_sep h1 h2 hr (s.drop pre)
  have hl := spn_le p (s.drop pre)
  rw [List.length_drop] at hl
  have hd2 : (s ++ r).drop (pre + spn p (s.drop pre)) = s.drop (pre + spn p (s.drop pre)) ++ r := drop_sep (by omega)
  have ht : (s.drop pre ++ r).take (spn p (s.drop pre)) = (s.drop pre).take (spn p (s.drop pre)) := take_sep (by rw [List.length_drop]; omega)
  unfold numT
  rw [hd, hp, hd2, ht]
  cases hD : s.drop (pre + spn p (s.drop pre)) with
  | cons b t => rfl
  | nil =>
    rw [List.nil_append]
    rcases hr with rfl | ⟨z, q, rfl, rfl | rfl⟩
    · rfl
    · simp [show stick 10 = false by decide]
    · simp [show stick 32 = false by decide]
theorem hx_len {s : List UInt8} (h : hdOf s = .hx) : 2 ≤ s.length := by
  unfold hdOf at h
  split at h
  · cases h
  · rename_i b q
    repeat' split at h
    all_goals first | (cases h; done) | skip
    rename_i g
    have := (List.isPrefixOf_iff_prefix.1 g).length_le
    simpa using this
theorem tokH_sep {r : List UInt8} (hr : Sep r) {s : List UInt8} (hs : s ≠ []) : tokH (hdOf s) (s ++ r) = tokH (hdOf s) s := by
  have e1 := spn_sep (p := inW) (by decide) (by decide) hr s
  have e2 := sgnN_sep hr hs
  have e3 := numT_sep (pre := 0) (q := 10) (p := isDg) (by decide) (by decide) hr (s := s) (Nat.zero_le _)
  cases h : hdOf s with
  | wd =>
    simp only [tokH]
    rw [e1, take_sep (spn_le _ _)]
  | hx =>
    simp only [tokH]
    rw [numT_sep (by decide) (by decide) hr (hx_len h)]
  | dg => simp only [tokH]; rw [e3]
  | sg => simp only [tokH]; rw [e2]
  | fin => rfl
  | nl => rfl
  | bl => rfl
  | cm => rfl
theorem numT_len {pre q : Nat} {p : UInt8 → Bool} {s : List UInt8} {n : Nat} {v : Int} (h : numT pre p q s = some (n, v)) : n = pre + spn p (s.drop pre) ∧ spn p (s.drop pre) ≠ 0 := by
  unfold numT at h
  split at h
  · cases h
  · rename_i h0
    split at h
    · cases h
    · split at h
      · split at h
        · cases h
        · exact ⟨by injection h with h; injection h with h1 h2; exact h1.symm, h0⟩
      · exact ⟨by injection h with h; injection h with h1 h2; exact h1.symm, h0⟩
theorem wd_head {s : List UInt8} (h : hdOf s = .wd) : ∃ b q, s = b :: q ∧ stW b = true := by
  unfold hdOf at h
  split at h
  · cases h
  · rename_i b q
    repeat' split at h
    all_goals first | (cases h; done) | skip
    exact ⟨b, q, rfl, by assumption⟩
theorem tokH_len {s : List UInt8} {k v : Int} {n : Nat} (h : tokH (hdOf s) s = some (k, n, v)) : 0 < n ∧ n ≤ s.length := by
  cases hh : hdOf s with
  | wd =>
    rw [hh] at h
    simp only [tokH, Option.some.injEq, Prod.mk.injEq] at h
    obtain ⟨b, q, rfl, hb⟩ := wd_head hh
    have : spn inW (b :: q) = spn inW q + 1 := spn_cons_t (by unfold inW; rw [hb]; rfl)
    have l := spn_le inW (b :: q)
    omega
  | hx =>
    rw [hh] at h
    simp only [tokH, Option.map_eq_some_iff] at h
    obtain ⟨⟨a, b⟩, h1, h2⟩ := h
    obtain ⟨e, h0⟩ := numT_len h1
    simp only [Prod.mk.injEq] at h2
    have l := spn_le isHx (s.drop 2)
    have := hx_len hh
    rw [List.length_drop] at l
    omega
  | dg =>
    rw [hh] at h
    simp only [tokH, Option.map_eq_some_iff] at h
    obtain ⟨⟨a, b⟩, h1, h2⟩ := h
    obtain ⟨e, h0⟩ := numT_len h1
    simp only [Prod.mk.injEq] at h2
    have l := spn_le isDg (s.drop 0)
    rw [List.length_drop] at l
    omega
  | sg =>
    rw [hh] at h
    simp only [tokH] at h
    split at h
    · cases h
    · rename_i h0
      simp only [Option.some.injEq, Prod.mk.injEq] at h
      have := sgnN_le s
      omega
  | fin => rw [hh] at h; cases h
  | nl => rw [hh] at h; cases h
  | bl => rw [hh] at h; cases h
  | cm => rw [hh] at h; cases h
/-! ### fuel -/
theorem bl_pos {s : List UInt8} (h : hdOf s = .bl) : 0 < spn isBl s := by
  unfold hdOf at h
  split at h
  · cases h
  · rename_i b q
    repeat' split at h
    all_goals first | (cases h; done) | skip
    rw [spn_cons_t (by assumption)]
    omega
theorem cm_pos {s : List UInt8} (h : hdOf s = .cm) : 0 < spn noNl s := by
  unfold hdOf at h
  split at h
  · cases h
  · rename_i b q
    repeat' split at h
    all_goals first | (cases h; done) | skip
    rename_i g _ _
    rw [spn_cons_t (by unfold noNl; simpa using g)]
    omega
theorem hd_ne {s : List UInt8} (h : hdOf s ≠ .fin) : s ≠ [] := fun e => h (by rw [e]; rfl)
theorem lexF_more : ∀ (f : Nat) (s : List UInt8) (l c : Int), s.length ≤ f → lexF f s l c = lexF (f + 1) s l c
  | 0, s, l, c, h => by
    have : s = [] := List.eq_nil_of_length_eq_zero (by omega)
    subst this
    rfl
  | f + 1, s, l, c, h => by
    rw [lexF, lexF]
    have ne : hdOf s ≠ .fin → 0 < s.length := fun g => List.length_pos_iff.2 (hd_ne g)
    cases hh : hdOf s with
    | fin => rfl
    | nl =>
      have := ne (by rw [hh]; decide)
      exact lexF_more f _ _ _ (by rw [List.length_drop]; omega)
    | bl =>
      have := bl_pos hh
      exact lexF_more f _ _ _ (by rw [List.length_drop]; omega)
    | cm =>
      have := cm_pos hh
      exact lexF_more f _ _ _ (by rw [List.length_drop]; omega)
    | wd | hx | dg | sg =>
      simp only
      cases ht : tokH _ s with
      | none => rfl
      | some x =>
        obtain ⟨k, n, v⟩ := x
        have := tokH_len (s := s) (by rw [hh]; exact ht)
        simp only
        rw [lexF_more f _ _ _ (by rw [List.length_drop]; omega)]
theorem lexF_fuel {s : List UInt8} {l c : Int} : ∀ {f : Nat}, s.length ≤ f → lexF f s l c = lexF s.length s l c
  | 0, h => by
    have : s.length = 0 := by omega
    rw [this]
  | f + 1, h => by
    by_cases e : s.length = f + 1
    · rw [e]
    · rw [← lexF_more f s l c (by omega), lexF_fuel (by omega)]
/-- The tokens of a text at a line and a column. -/
def Lex (s : List UInt8) (l c : Int) : Except (Int × Int) (List Tk) := lexF s.length s l c
def push (t : Tk) : Except (Int × Int) (List Tk) → Except (Int × Int) (List Tk)
  | .ok ts => .ok (t :: ts)
  | .error e => .error e
theorem Lex_step (s : List UInt8) (l c : Int) : Lex s l c = match hdOf s with
    | .fin => .ok []
    | .nl => Lex (s.drop 1) (l + 1) 1
    | .bl => Lex (s.drop (spn isBl s)) l (c + spn isBl s)
    | .cm => Lex (s.drop (spn noNl s)) l (c + spn noNl s)
    | h => match tokH h s with
      | none => .error (l, c)
      | some (k, n, v) => push ⟨k, s.take n, l, c, v⟩ (Lex (s.drop n) l (c + n)) := by
  unfold Lex
  cases hs : s.length with
  | zero =>
    have : s = [] := List.eq_nil_of_length_eq_zero hs
    subst this
    rfl
  | succ f =>
    have ne : hdOf s ≠ .fin → 0 < s.length := fun g => List.length_pos_iff.2 (hd_ne g)
    rw [lexF]
    cases hh : hdOf s with
    | fin => rfl
    | nl => exact lexF_fuel (by rw [List.length_drop]; omega)
    | bl =>
      have := bl_pos hh
      exact lexF_fuel (by rw [List.length_drop]; omega)
    | cm =>
      have := cm_pos hh
      exact lexF_fuel (by rw [List.length_drop]; omega)
    | wd | hx | dg | sg =>
      simp only
      cases ht : tokH _ s with
      | none => rfl
      | some x =>
        obtain ⟨k, n, v⟩ := x
        have := tokH_len (s := s) (by rw [hh]; exact ht)
        simp only
        rw [lexF_fuel (f := f) (by rw [List.length_drop]; omega)]
        cases lexF (s.drop n).length (s.drop n) l (c + n) <;> rfl
theorem Lex_fin {s : List UInt8} {l c : Int} (h : hdOf s = .fin) : Lex s l c = .ok [] := by rw [Lex_step, h]
theorem Lex_nl {s : List UInt8} {l c : Int} (h : hdOf s = .nl) : Lex s l c = Lex (s.drop 1) (l + 1) 1 := by rw [Lex_step, h]
theorem Lex_bl {s : List UInt8} {l c : Int} (h : hdOf s = .bl) : Lex s l c = Lex (s.drop (spn isBl s)) l (c + spn isBl s) := by rw [Lex_step, h]
theorem Lex_cm {s : List UInt8} {l c : Int} (h : hdOf s = .cm) : Lex s l c = Lex (s.drop (spn noNl s)) l (c + spn noNl s) := by rw [Lex_step, h]
def IsTok (h : Hd) : Prop := h = .wd ∨ h = .hx ∨ h = .dg ∨ h = .sg
theorem Lex_no {s : List UInt8} {l c : Int} (h : IsTok (hdOf s)) (ht : tokH (hdOf s) s = none) : Lex s l c = .error (l, c) := by
  rw [Lex_step]
  rcases h with h | h | h | h <;> rw [h] at ht <;> simp only [h, ht]
theorem Lex_yes {s : List UInt8} {l c : Int} {k v : Int} {n : Nat} (ht : tokH (hdOf s) s = some (k, n, v)) : Lex s l c = push ⟨k, s.take n, l, c, v⟩ (Lex (s.drop n) l (c + n)) := by
  rw [Lex_step]
  cases h : hdOf s <;> rw [h] at ht <;> first | (cases ht; done) | simp only [ht]
end Lx
end Go.Proofs.YtlgkcjhoaecekaaDoor
