/-
  PLAIN FACTS: what LexBack leans on: the joined text's length, the same tokens again, the place of each. No program. Own work.
-/
import Derived.Test.YtlgkcjhoaecekaaDoorLxPos
namespace Go.Proofs.YtlgkcjhoaecekaaDoor
namespace Lx
set_option linter.unusedVariables false

/-- All tokens' bytes. -/
def sumT (ts : List Tk) : Nat := (ts.map (fun t => t.t.length)).sum
theorem join_len : ∀ ts : List Tk, (joinL (ts.map (·.t))).length ≤ sumT ts + ts.length
  | [] => Nat.zero_le _
  | [t] => by simp [joinL, sumT]
  | t :: u :: r => by
    have h := join_len (u :: r)
    have e : joinL ((t :: u :: r).map (·.t)) = t.t ++ 32 :: joinL ((u :: r).map (·.t)) := rfl
    have e2 : sumT (t :: u :: r) = t.t.length + sumT (u :: r) := rfl
    rw [e, e2, List.length_append, List.length_cons, List.length_cons]
    omega
theorem Locd.sum : ∀ {a s : List UInt8} {ts : List Tk}, Locd a s ts → sumT ts ≤ s.length ∧ ts.length ≤ s.length
  | _, _, [], _ => ⟨Nat.zero_le _, Nat.zero_le _⟩
  | a, _, t :: ts, h => by
    obtain ⟨g, r, rfl, _, h3, h4⟩ := h
    have h5 := Locd.sum h4
    have h6 : 0 < t.t.length := List.length_pos_iff.2 h3
    have e2 : sumT (t :: ts) = t.t.length + sumT ts := rfl
    rw [e2]
    simp only [List.length_append, List.length_cons]
    omega
/-- The same tokens again, but for their places. -/
theorem back_again {s : List UInt8} {ts : List Tk} (h : Lex s 1 1 = .ok ts) : (joinL (ts.map (·.t))).length ≤ 2 * s.length ∧ ∃ us, Lex (joinL (ts.map (·.t))) 1 1 = .ok us ∧ us.map bare = ts.map bare := by
  have hl := ((Lex_locd s.length (a := []) (Nat.le_refl _) rfl).1 ts h).sum
  have hj := join_len ts
  exact ⟨by omega, Lex_join ts (Lex_wholes s.length (Nat.le_refl _) h) 1 1⟩
theorem back_err {s : List UInt8} {x y : Int} (h : Lex s 1 1 = .error (x, y)) : 1 ≤ x ∧ 1 ≤ y := (Lex_locd s.length (a := []) (Nat.le_refl _) rfl).2 x y h
theorem bare_at {us ts : List Tk} (h : us.map bare = ts.map bare) {i : Nat} (hi : i < ts.length) : (us.getD i t0).k = (ts.getD i t0).k ∧ (us.getD i t0).t = (ts.getD i t0).t ∧ (us.getD i t0).n = (ts.getD i t0).n := by
  have hlen : us.length = ts.length := by simpa using congrArg List.length h
  have h1 := congrArg (fun l => l[i]?) h
  simp only [List.getElem?_map, List.getElem?_eq_getElem hi, List.getElem?_eq_getElem (hlen ▸ hi : i < us.length), Option.map_some, Option.some.injEq] at h1
  rw [List.getD_eq_getElem?_getD, List.getD_eq_getElem?_getD, List.getElem?_eq_getElem hi, List.getElem?_eq_getElem (hlen ▸ hi : i < us.length)]
  simp only [Option.getD_some]
  unfold bare at h1
  simp only [Prod.mk.injEq] at h1
  exact h1
/-- Where a search stands: ahead of the token's place the line and column are others. -/
theorem place_not {a g : List UInt8} {l c : Int} (h : posL (a ++ g) = (l, c)) {j : Nat} (hj : j < g.length) : posL (a ++ g.take j) ≠ (l, c) := fun e => by
  have h1 : a ++ g = (a ++ g.take j) ++ g.drop j := by rw [List.append_assoc, List.take_append_drop]
  rw [← e, h1] at h
  have h2 := posL_inj h
  have h3 : (g.drop j).length = 0 := by rw [h2]; rfl
  rw [List.length_drop] at h3
  omega
/-- One token on in the source. -/
theorem step_facts {s g x r : List UInt8} {p : Nat} (h : s.drop p = g ++ x ++ r) (hp : p ≤ s.length) :
    s.length = p + g.length + x.length + r.length ∧ (∀ j, j ≤ g.length → s.take (p + j) = s.take p ++ g.take j) ∧ s.take (p + g.length + x.length) = s.take p ++ g ++ x ∧ s.drop (p + g.length + x.length) = r ∧ (s.drop (p + g.length)).take x.length = x := by
  have hl := congrArg List.length h
  simp only [List.length_drop, List.length_append] at hl
  have d1 : s.drop (p + g.length) = x ++ r := by rw [← List.drop_drop, h, List.append_assoc, List.drop_left]
  refine ⟨by omega, fun j hj => ?_, ?_, ?_, by rw [d1, List.take_left]⟩
  · rw [List.take_add, h, List.append_assoc, List.take_append_of_le_length hj]
  · rw [Nat.add_assoc, List.take_add, h, ← List.length_append, List.take_left, List.append_assoc]
  · rw [← List.drop_drop, d1, List.drop_left]
theorem drop_getD {l : List Tk} {k : Nat} (h : k < l.length) : l.drop k = l.getD k t0 :: l.drop (k + 1) := by
  rw [List.drop_eq_getElem_cons h, List.getD_eq_getElem?_getD, List.getElem?_eq_getElem h]
  rfl
end Lx
end Go.Proofs.YtlgkcjhoaecekaaDoor
