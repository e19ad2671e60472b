/-
  PLAIN FACTS: the text of a token is that token alone; tokens that are joined are split into the same; no program. Own work.
-/
import Derived.Test.YtlgkcjhoaecekaaDoorLxFacts
namespace Go.Proofs.YtlgkcjhoaecekaaDoor
namespace Lx
set_option linter.unusedVariables false

/-- A text that is one token, and nothing else. -/
def Whole (x : List UInt8) (k v : Int) : Prop := tokH (hdOf x) x = some (k, x.length, v)
theorem hd_tok {s : List UInt8} {k v : Int} {n : Nat} (h : tokH (hdOf s) s = some (k, n, v)) : IsTok (hdOf s) := by
  cases e : hdOf s with
  | wd => exact .inl rfl
  | hx => exact .inr (.inl rfl)
  | dg => exact .inr (.inr (.inl rfl))
  | sg => exact .inr (.inr (.inr rfl))
  | fin | nl | bl | cm => rw [e] at h; cases h
/-- What the eight heads say of the first byte, and of what follows. -/
theorem hd_cons (b : UInt8) (q : List UInt8) : hdOf (b :: q) = if b = 10 then .nl else if isBl b then .bl else if [47, 47].isPrefixOf (b :: q) then .cm else if stW b then .wd else if [48, 120].isPrefixOf (b :: q) then .hx else if isDg b then .dg else .sg := rfl
theorem hd_wd {b : UInt8} {q : List UInt8} : hdOf (b :: q) = .wd ↔ b ≠ 10 ∧ isBl b = false ∧ [47, 47].isPrefixOf (b :: q) = false ∧ stW b = true := by
  rw [hd_cons]
  generalize [47, 47].isPrefixOf (b :: q) = u
  generalize [48, 120].isPrefixOf (b :: q) = v
  by_cases h : b = 10 <;> cases isBl b <;> cases u <;> cases stW b <;> cases v <;> cases isDg b <;> simp [h]
theorem hd_hx {b : UInt8} {q : List UInt8} : hdOf (b :: q) = .hx ↔ b ≠ 10 ∧ isBl b = false ∧ [47, 47].isPrefixOf (b :: q) = false ∧ stW b = false ∧ [48, 120].isPrefixOf (b :: q) = true := by
  rw [hd_cons]
  generalize [47, 47].isPrefixOf (b :: q) = u
  generalize [48, 120].isPrefixOf (b :: q) = v
  by_cases h : b = 10 <;> cases isBl b <;> cases u <;> cases stW b <;> cases v <;> cases isDg b <;> simp [h]
theorem hd_dg {b : UInt8} {q : List UInt8} : hdOf (b :: q) = .dg ↔ b ≠ 10 ∧ isBl b = false ∧ [47, 47].isPrefixOf (b :: q) = false ∧ stW b = false ∧ [48, 120].isPrefixOf (b :: q) = false ∧ isDg b = true := by
  rw [hd_cons]
  generalize [47, 47].isPrefixOf (b :: q) = u
  generalize [48, 120].isPrefixOf (b :: q) = v
  by_cases h : b = 10 <;> cases isBl b <;> cases u <;> cases stW b <;> cases v <;> cases isDg b <;> simp [h]
theorem pre_take {g s : List UInt8} {n : Nat} (h : g.isPrefixOf (s.take n) = true) : g.isPrefixOf s = true :=
  List.isPrefixOf_iff_prefix.2 ((List.isPrefixOf_iff_prefix.1 h).trans (List.take_prefix n s))
theorem pre_take_f {g s : List UInt8} {n : Nat} (h : g.isPrefixOf s = false) : g.isPrefixOf (s.take n) = false := by
  cases e : g.isPrefixOf (s.take n) with
  | false => rfl
  | true => rw [pre_take e] at h; cases h
theorem take_cons {b : UInt8} {q : List UInt8} {n : Nat} (h : 0 < n) : (b :: q).take n = b :: q.take (n - 1) := by
  cases n with
  | zero => omega
  | succ n => rfl
theorem spn_take (p : UInt8 → Bool) : ∀ s : List UInt8, spn p (s.take (spn p s)) = spn p s
  | [] => rfl
  | b :: s => by
    cases h : p b with
    | true => rw [spn_cons_t h, List.take_succ_cons, spn_cons_t h, spn_take p s]
    | false => rw [spn_cons_f h]; rfl
theorem spn_all {p : UInt8 → Bool} : ∀ {s : List UInt8}, (∀ b ∈ s, p b = true) → spn p s = s.length
  | [], _ => rfl
  | b :: s, h => by rw [spn_cons_t (h b (by simp)), spn_all (fun x hx => h x (by simp [hx])), List.length_cons]
theorem all_spn (p : UInt8 → Bool) : ∀ s : List UInt8, ∀ b ∈ s.take (spn p s), p b = true
  | [], b, h => by simp [spn_nil] at h
  | a :: s, b, h => by
    cases e : p a with
    | true =>
      rw [spn_cons_t e, List.take_succ_cons, List.mem_cons] at h
      rcases h with rfl | h
      · exact e
      · exact all_spn p s b h
    | false => rw [spn_cons_f e] at h; simp at h
theorem sgn_self : ∀ g ∈ sgnL, hdOf g = .sg ∧ sgnN g = g.length := by decide
theorem sgn_text {s : List UInt8} (h : sgnN s ≠ 0) : s.take (sgnN s) ∈ sgnL ∧ (s.take (sgnN s)).length = sgnN s := by
  unfold sgnN at h ⊢
  cases e : sgnL.find? (fun g => g.isPrefixOf s) with
  | none => rw [e] at h; exact absurd rfl h
  | some g =>
    have hp := List.find?_some e
    obtain ⟨t, rfl⟩ := List.isPrefixOf_iff_prefix.1 hp
    have ht : (g ++ t).take g.length = g := List.take_left
    simp only [ht]
    exact ⟨List.mem_of_find?_eq_some e, trivial⟩
theorem numT_cut {pre q : Nat} {p : UInt8 → Bool} {s : List UInt8} {n : Nat} {v : Int} (h : numT pre p q s = some (n, v)) (hs : pre ≤ s.length) : numT pre p q (s.take n) = some (n, v) := by
  obtain ⟨e, h0⟩ := numT_len h
  have hl := spn_le p (s.drop pre)
  rw [List.length_drop] at hl
  have d1 : (s.take n).drop pre = (s.drop pre).take (spn p (s.drop pre)) := by rw [List.drop_take, e]; congr 1; omega
  have d2 : (s.take n).drop (pre + spn p (s.drop pre)) = [] := by rw [← e]; simp
  have hv : numT pre p q s = some (n, v) := h
  unfold numT at h ⊢
  rw [d1, spn_take, d2, if_neg h0]
  have t2 : ((s.drop pre).take (spn p (s.drop pre))).take (spn p (s.drop pre)) = (s.drop pre).take (spn p (s.drop pre)) := by rw [List.take_take, Nat.min_self]
  rw [t2]
  rw [if_neg h0] at h
  split at h
  · cases h
  · rename_i hbig
    rw [if_neg hbig]
    split at h
    · split at h
      · cases h
      · exact h
    · exact h
theorem cut {s : List UInt8} {k v : Int} {n : Nat} (h : tokH (hdOf s) s = some (k, n, v)) : hdOf (s.take n) = hdOf s ∧ Whole (s.take n) k v ∧ (s.take n).length = n := by
  have hlen := tokH_len h
  have hl : (s.take n).length = n := by rw [List.length_take]; omega
  have key : hdOf (s.take n) = hdOf s ∧ tokH (hdOf s) (s.take n) = some (k, n, v) := by
    cases e : hdOf s with
    | wd =>
      rw [e] at h
      simp only [tokH, Option.some.injEq, Prod.mk.injEq] at h
      obtain ⟨hk, hn, hv⟩ := h
      constructor
      · cases s with
        | nil => cases e
        | cons b q =>
          have g := hd_wd.1 e
          have := pre_take_f (n := n) g.2.2.1
          rw [take_cons hlen.1] at this ⊢
          exact hd_wd.2 ⟨g.1, g.2.1, this, g.2.2.2⟩
      · simp only [tokH]
        rw [← hn, spn_take, List.take_take, Nat.min_self, hk, hv]
    | hx =>
      rw [e] at h
      simp only [tokH, Option.map_eq_some_iff] at h
      obtain ⟨⟨a, b⟩, h1, h2⟩ := h
      simp only [Prod.mk.injEq] at h2
      obtain ⟨hk, rfl, rfl⟩ := h2
      have h2 := hx_len e
      constructor
      · cases s with
        | nil => cases e
        | cons x q =>
          have g := hd_hx.1 e
          have f := pre_take_f (n := a) g.2.2.1
          have f2 : [48, 120].isPrefixOf ((x :: q).take a) = true := by
            obtain ⟨e1, e0⟩ := numT_len h1
            obtain ⟨t, ht⟩ := List.isPrefixOf_iff_prefix.1 g.2.2.2.2
            rw [← ht, List.isPrefixOf_iff_prefix]
            exact ⟨t.take (a - 2), by
              obtain ⟨j, rfl⟩ : ∃ j, a = j + 2 := ⟨a - 2, by omega⟩
              simp⟩
          rw [take_cons hlen.1] at f f2 ⊢
          exact hd_hx.2 ⟨g.1, g.2.1, f, g.2.2.2.1, f2⟩
      · simp only [tokH]
        rw [numT_cut h1 h2, ← hk]
        rfl
    | dg =>
      rw [e] at h
      simp only [tokH, Option.map_eq_some_iff] at h
      obtain ⟨⟨a, b⟩, h1, h2⟩ := h
      simp only [Prod.mk.injEq] at h2
      obtain ⟨hk, rfl, rfl⟩ := h2
      constructor
      · cases s with
        | nil => cases e
        | cons x q =>
          have g := hd_dg.1 e
          have f := pre_take_f (n := a) g.2.2.1
          have f2 := pre_take_f (n := a) g.2.2.2.2.1
          rw [take_cons hlen.1] at f f2 ⊢
          exact hd_dg.2 ⟨g.1, g.2.1, f, g.2.2.2.1, f2, g.2.2.2.2.2⟩
      · simp only [tokH]
        rw [numT_cut h1 (Nat.zero_le _), ← hk]
        rfl
    | sg =>
      rw [e] at h
      simp only [tokH] at h
      split at h
      · cases h
      · rename_i h0
        simp only [Option.some.injEq, Prod.mk.injEq] at h
        obtain ⟨hk, rfl, hv⟩ := h
        obtain ⟨hm, hm2⟩ := sgn_text h0
        have := sgn_self _ hm
        refine ⟨this.1, ?_⟩
        simp only [tokH]
        rw [this.2, hm2, if_neg h0, hk, hv]
    | fin | nl | bl | cm => rw [e] at h; cases h
  refine ⟨key.1, ?_, hl⟩
  unfold Whole
  rw [key.1, key.2, hl]
theorem Whole.ne {x : List UInt8} {k v : Int} (h : Whole x k v) : x ≠ [] := fun e => by subst e; cases h
theorem Lex_whole {x : List UInt8} {k v : Int} (h : Whole x k v) {r : List UInt8} (hr : Sep r) (l c : Int) : Lex (x ++ r) l c = push ⟨k, x, l, c, v⟩ (Lex r l (c + x.length)) := by
  have e := hdOf_sep hr h.ne
  have t := tokH_sep hr h.ne
  have : tokH (hdOf (x ++ r)) (x ++ r) = some (k, x.length, v) := by rw [e, t]; exact h
  rw [Lex_yes this]
  simp
/-- Each token's text is that token. -/
theorem Lex_wholes : ∀ (n : Nat) {s : List UInt8} {l c : Int} {ts : List Tk}, s.length ≤ n → Lex s l c = .ok ts → ∀ t ∈ ts, Whole t.t t.k t.n
  | n, s, l, c, ts, hn, h => by
    have ne : hdOf s ≠ .fin → 0 < s.length := fun g => List.length_pos_iff.2 (hd_ne g)
    rw [Lex_step] at h
    cases e : hdOf s with
    | fin => rw [e] at h; injection h with h; subst h; intro t ht; cases ht
    | nl =>
      rw [e] at h
      have := ne (by rw [e]; decide)
      exact Lex_wholes (n - 1) (by rw [List.length_drop]; omega) h
    | bl =>
      rw [e] at h
      have := bl_pos e
      have := ne (by rw [e]; decide)
      exact Lex_wholes (n - 1) (by rw [List.length_drop]; omega) h
    | cm =>
      rw [e] at h
      have := cm_pos e
      have := ne (by rw [e]; decide)
      exact Lex_wholes (n - 1) (by rw [List.length_drop]; omega) h
    | wd | hx | dg | sg =>
      rw [e] at h
      simp only at h
      split at h
      · cases h
      · rename_i k m v ht
        rw [← e] at ht
        have hl := tokH_len ht
        unfold push at h
        split at h
        · rename_i us hu
          injection h with h
          subst h
          intro t hm
          rw [List.mem_cons] at hm
          rcases hm with rfl | hm
          · exact (cut ht).2.1
          · exact Lex_wholes (n - 1) (by rw [List.length_drop]; omega) hu t hm
        · cases h
termination_by n s => s.length
decreasing_by all_goals (simp only [List.length_drop]; omega)
/-- Texts, separated by one blank. -/
def joinL : List (List UInt8) → List UInt8
  | [] => []
  | [x] => x
  | x :: y :: r => x ++ 32 :: joinL (y :: r)
theorem whole_head {x : List UInt8} {k v : Int} (h : Whole x k v) : ∃ b q, x = b :: q ∧ isBl b = false := by
  cases x with
  | nil => exact absurd rfl h.ne
  | cons b q =>
    refine ⟨b, q, rfl, ?_⟩
    cases e : isBl b with
    | false => rfl
    | true =>
      unfold Whole at h
      have : hdOf (b :: q) = .nl ∨ hdOf (b :: q) = .bl := by
        unfold hdOf
        by_cases e2 : b = 10
        · left; simp [e2]
        · right; simp [e2, e]
      rcases this with g | g <;> rw [g] at h <;> cases h
theorem join_head : ∀ {xs : List (List UInt8)} {x : List UInt8} {k v : Int}, Whole x k v → ∃ b q, joinL (x :: xs) = b :: q ∧ isBl b = false
  | [], x, k, v, h => whole_head h
  | y :: xs, x, k, v, h => by
    obtain ⟨b, q, rfl, hb⟩ := whole_head h
    exact ⟨b, q ++ 32 :: joinL (y :: xs), rfl, hb⟩
theorem Lex_blank {b : UInt8} {q : List UInt8} (h : isBl b = false) (l c : Int) : Lex (32 :: b :: q) l c = Lex (b :: q) l (c + 1) := by
  have e : hdOf (32 :: b :: q) = .bl := by unfold hdOf; simp [show isBl 32 = true by decide]
  have n : spn isBl (32 :: b :: q) = 1 := by rw [spn_cons_t (by decide), spn_cons_f h]
  rw [Lex_bl e, n]
  rfl
def bare (t : Tk) : Int × List UInt8 × Int := (t.k, t.t, t.n)
theorem Lex_join : ∀ (ts : List Tk), (∀ t ∈ ts, Whole t.t t.k t.n) → ∀ l c, ∃ us, Lex (joinL (ts.map (·.t))) l c = .ok us ∧ us.map bare = ts.map bare
  | [], _, l, c => ⟨[], rfl, rfl⟩
  | [t], h, l, c => by
    refine ⟨[⟨t.k, t.t, l, c, t.n⟩], ?_, rfl⟩
    have := Lex_whole (h t (by simp)) Sep.nil l c
    rw [List.append_nil] at this
    show Lex t.t l c = _
    rw [this]
    rfl
  | t :: u :: ts, h, l, c => by
    obtain ⟨us, h1, h2⟩ := Lex_join (u :: ts) (fun x hx => h x (by simp [hx])) l (c + t.t.length + 1)
    refine ⟨⟨t.k, t.t, l, c, t.n⟩ :: us, ?_, by rw [List.map_cons, h2]; rfl⟩
    show Lex (t.t ++ 32 :: joinL ((u :: ts).map (·.t))) l c = _
    rw [Lex_whole (h t (by simp)) (Sep.bl _)]
    obtain ⟨b, q, hj, hb⟩ := join_head (xs := ts.map (·.t)) (h u (by simp))
    rw [List.map_cons] at h1 ⊢
    rw [hj] at h1 ⊢
    rw [Lex_blank hb, h1]
    rfl
end Lx
end Go.Proofs.YtlgkcjhoaecekaaDoor
