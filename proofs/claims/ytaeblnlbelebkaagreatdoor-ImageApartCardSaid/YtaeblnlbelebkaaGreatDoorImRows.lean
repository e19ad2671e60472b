/-
  PLAIN FACTS: rows that a call owns, as an image's lists; a row behind stores elsewhere. Own work.
-/
import Derived.Test.YtaeblnlbelebkaaGreatDoorImListA
namespace Go.Proofs.YtaeblnlbelebkaaGreatDoor
namespace Im
open Go.RowKit Go
open Co (Kp ret_int ret_bool ret2_int In in0 IIn Ics Wf)
open Ln (VIn Vcs)

theorem flat_get {α : Type} (f : α → List Value) (c : Nat) (hf : ∀ x, (f x).length = c) : ∀ (l : List α) (i j : Nat) (x : α), j < c → l[i]? = some x → (l.flatMap f)[i * c + j]? = (f x)[j]?
  | [], i, j, x, _, h => by simp at h
  | y :: l, 0, j, x, hj, h => by
    rw [List.getElem?_cons_zero] at h
    obtain rfl := Option.some.inj h
    rw [List.flatMap_cons, List.getElem?_append_left (by rw [hf]; omega)]
    congr 1
    omega
  | y :: l, i + 1, j, x, hj, h => by
    rw [List.getElem?_cons_succ] at h
    rw [List.flatMap_cons, List.getElem?_append_right (by rw [hf, Nat.succ_mul]; omega), ← flat_get f c hf l i j x hj h, hf]
    congr 1
    rw [Nat.succ_mul]
    omega
theorem flat_len {α : Type} (f : α → List Value) (c : Nat) (hf : ∀ x, (f x).length = c) : ∀ (l : List α), (l.flatMap f).length = l.length * c
  | [] => by simp
  | y :: l => by rw [List.flatMap_cons, List.length_append, hf, flat_len f c hf l, List.length_cons, Nat.succ_mul, Nat.add_comm]
/-- What a row looks like. -/
theorem own_form {w : World} {B : Nat} {T : TypeId} {c n : Nat} {v : Value} {xs : List Value} (h : w.ownsRow B T c v n xs) : ∃ ao cap, v = .slice ao n cap ∧ n ≤ cap ∧ cap ≤ 9223372036854775807 ∧ ∀ a, ao = some a → ∃ g, a = ⟨g, 0, none⟩ ∧ B ≤ g ∧ g < w.heap.size := by
  rcases h.2 with ⟨rfl, rfl⟩ | ⟨g, cap, cur, rfl, hb, hg, hn, hm, _⟩
  · exact ⟨none, 0, rfl, Nat.le_refl _, by omega, fun a e => by cases e⟩
  · refine ⟨some ⟨g, 0, none⟩, cap, rfl, hn, by unfold maxLen at hm; omega, fun a e => ?_⟩
    cases e
    refine ⟨g, rfl, hb, ?_⟩
    rcases Nat.lt_or_ge g w.heap.size with hlt | hge
    · exact hlt
    · rw [Array.getElem?_eq_none hge] at hg; cases hg
/-- A row's cells. -/
theorem own_cells {w : World} {B : Nat} {T : TypeId} {c n cap : Nat} {ao : Option Addr} {α : Type} {l : List α} {f : α → List Value} (hf : ∀ x, (f x).length = c) (hc : 0 < c) (h : w.ownsRow B T c (.slice ao n cap) n (l.flatMap f)) :
    n = l.length ∧ (l.length = 0 ∨ ∃ g, ao = some ⟨g, 0, none⟩ ∧ g < w.heap.size ∧ ∀ i j x u, j < c → l[i]? = some x → (f x)[j]? = some u → w.cell? ⟨g, 0 + i * c + j, none⟩ = some u) := by
  have hl : n = l.length := by
    have := h.1
    rw [flat_len f c hf] at this
    exact (Nat.eq_of_mul_eq_mul_right hc this).symm
  refine ⟨hl, ?_⟩
  obtain ⟨ao', cap', e, _, _, ha⟩ := own_form h
  rcases h.2 with ⟨_, h0⟩ | ⟨g, cap2, cur, e2, _⟩
  · exact .inl (by omega)
  · right
    simp only [Value.slice.injEq] at e e2
    obtain ⟨rfl, -, -⟩ := e
    obtain ⟨rfl, -, -⟩ := e2
    obtain ⟨g', eg, _, hlt⟩ := ha _ rfl
    have eg' : g = g' := congrArg Addr.block eg
    subst eg'
    refine ⟨g, rfl, hlt, fun i j x u hj hx hu => ?_⟩
    have := h.cells (g := g) rfl (i * c + j) u (by rw [flat_get f c hf l i j x hj hx]; exact hu)
    rw [← this]
    congr 1
    simp [Addr.add]
theorem getD_some {α : Type} {l : List α} {d : α} {i : Nat} (hi : i < l.length) : l[i]? = some (l.getD i d) := by
  rw [List.getD_eq_getElem?_getD, List.getElem?_eq_getElem hi]; rfl
theorem row_F {w : World} {B n cap : Nat} {T : TypeId} {ao : Option Addr} {l : List Fn} (h : w.ownsRow B T 3 (.slice ao n cap) n (l.flatMap celF)) : FIn w ao l := by
  obtain ⟨_, h0 | ⟨g, e, hg, hc⟩⟩ := own_cells (c := 3) (fun _ => rfl) (by decide) h
  · exact .inl h0
  · exact .inr ⟨g, 0, e, hg, fun i hi => hc i 0 _ _ (by omega) (getD_some hi) rfl, fun i hi => hc i 1 _ _ (by omega) (getD_some hi) rfl, fun i hi => hc i 2 _ _ (by omega) (getD_some hi) rfl⟩
theorem row_C {w : World} {B n cap : Nat} {T : TypeId} {ao : Option Addr} {l : List In} (h : w.ownsRow B T 4 (.slice ao n cap) n (l.flatMap celC)) : CIn w ao l := by
  obtain ⟨_, h0 | ⟨g, e, hg, hc⟩⟩ := own_cells (c := 4) (fun _ => rfl) (by decide) h
  · exact .inl h0
  · exact .inr ⟨g, 0, e, hg, fun i hi => hc i 0 _ _ (by omega) (getD_some hi) rfl, fun i hi => hc i 1 _ _ (by omega) (getD_some hi) rfl, fun i hi => hc i 2 _ _ (by omega) (getD_some hi) rfl, fun i hi => hc i 3 _ _ (by omega) (getD_some hi) rfl⟩
theorem row_P {w : World} {B n cap : Nat} {T : TypeId} {ao : Option Addr} {l : List Pt} (h : w.ownsRow B T 2 (.slice ao n cap) n (l.flatMap celP)) : PIn w ao l := by
  obtain ⟨_, h0 | ⟨g, e, hg, hc⟩⟩ := own_cells (c := 2) (fun _ => rfl) (by decide) h
  · exact .inl h0
  · exact .inr ⟨g, 0, e, hg, fun i hi => hc i 0 _ _ (by omega) (getD_some hi) rfl, fun i hi => hc i 1 _ _ (by omega) (getD_some hi) rfl⟩
theorem row_U {w : World} {B n cap : Nat} {T : TypeId} {ao : Option Addr} {l : List Int} (h : w.ownsRow B T 1 (.slice ao n cap) n (l.flatMap celU)) : UIn w ao l := by
  obtain ⟨_, h0 | ⟨g, e, hg, hc⟩⟩ := own_cells (c := 1) (fun _ => rfl) (by decide) h
  · exact .inl h0
  · exact .inr ⟨g, 0, e, hg, fun i hi => by have := hc i 0 _ _ (by omega) (getD_some (d := 0) hi) rfl; simpa using this⟩
theorem row_V {w : World} {B n cap : Nat} {T : TypeId} {ao : Option Addr} {l : List Ln.Vc} (h : w.ownsRow B T 3 (.slice ao n cap) n (l.flatMap celV)) : VIn w ao (fun k => l.getD k v0) l.length := by
  obtain ⟨_, h0 | ⟨g, e, hg, hc⟩⟩ := own_cells (c := 3) (fun _ => rfl) (by decide) h
  · exact .inl h0
  · exact .inr ⟨g, 0, e, hg, fun i hi => hc i 0 _ _ (by omega) (getD_some hi) rfl, fun i hi => hc i 1 _ _ (by omega) (getD_some hi) rfl, fun i hi => hc i 2 _ _ (by omega) (getD_some hi) rfl⟩
theorem LaR.gx {a w w' : World} {R B : Nat} {v : Value} {vs : List Value} {ls : List (List Int)} (h : LaR a w R v vs ls) (k : Gx B w w') (hB : B < a.heap.size) : LaR a w' R v vs ls :=
  ⟨own_gx h.own k hB, fun i hi => (h.each i hi).gx k hB⟩
theorem row_A {a w : World} {R n cap : Nat} {ao : Option Addr} {vs : List Value} {ls : List (List Int)} (h : LaR a w R (.slice ao n cap) vs ls) : AIn w ao ls := by
  obtain ⟨ho, he⟩ := h
  have hl : vs.length = ls.length := by have := ho.1; simpa using this
  have hn : n = ls.length := by
    rcases ho.2 with ⟨e, h0⟩ | ⟨_, _, _, e, _⟩
    · simp only [Value.slice.injEq] at e; omega
    · simp only [Value.slice.injEq] at e; omega
  by_cases h0 : ls.length = 0
  · exact .inl h0
  · have hpos : 0 < ls.length := by omega
    obtain ⟨g, cap', e, _, hg⟩ := ho.form hpos
    simp only [Value.slice.injEq] at e
    obtain ⟨rfl, -, -⟩ := e
    refine .inr ⟨g, 0, rfl, hg, fun i hi => ?_⟩
    obtain ⟨aox, capx, ex, hin, _⟩ := he i hi
    refine ⟨aox, capx, ?_, hin⟩
    have := ho.cells (g := g) rfl i _ (getD_some (d := .slice none 0 0) (by omega))
    rw [ex] at this
    rw [← this]
    congr 1
    simp [Addr.add]
end Im
end Go.Proofs.YtaeblnlbelebkaaGreatDoor
