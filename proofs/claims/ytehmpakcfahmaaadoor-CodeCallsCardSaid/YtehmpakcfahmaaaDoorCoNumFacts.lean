/-
  PLAIN FACTS for the statement CodeNumbers: blanks in a text, which numbers a row names. Own work.
-/
import Derived.Test.YtehmpakcfahmaaaDoorCoBack
namespace Go.Proofs.YtehmpakcfahmaaaDoor
namespace Co
open Go.RowKit Go
set_option linter.unusedVariables false

def cnt (l : List UInt8) : Nat := (l.filter fun c => c == 32).length
theorem cnt_append (a b : List UInt8) : cnt (a ++ b) = cnt a + cnt b := by unfold cnt; rw [List.filter_append, List.length_append]
theorem cnt_le (l : List UInt8) : cnt l ≤ l.length := List.length_filter_le _ _
theorem cnt_one_yes {c : UInt8} (h : c = 32) : cnt [c] = 1 := by subst h; rfl
theorem cnt_one_no {c : UInt8} (h : c ≠ 32) : cnt [c] = 0 := by unfold cnt; simp [h]
theorem take_snoc (s : ByteArray) (k : Nat) (h : k < s.size) : s.data.toList.take (k + 1) = s.data.toList.take k ++ [s[k]] := by
  rw [List.take_succ_eq_append_getElem (by simpa using h)]; rfl
theorem cnt_clean {l : List UInt8} (h : clean l = true) : cnt l = 0 := by
  unfold cnt
  rw [List.length_eq_zero_iff, List.filter_eq_nil_iff]
  intro b hb
  have := clean_at h b hb
  intro e
  simp only [beq_iff_eq] at e
  subst e
  simp at this
theorem cnt_join : ∀ (ps : List (List UInt8)), (∀ p ∈ ps, clean p = true) → cnt (join ps) = ps.length - 1
  | [], _ => rfl
  | [x], h => by rw [join, cnt_clean (h x List.mem_cons_self)]; rfl
  | x :: y :: r, h => by
    have ih := cnt_join (y :: r) (fun p hp => h p (List.mem_cons_of_mem _ hp))
    rw [join, cnt_append, cnt_clean (h x List.mem_cons_self)]
    have e : cnt (32 :: join (y :: r)) = 1 + cnt (join (y :: r)) := by rw [show (32 :: join (y :: r)) = [32] ++ join (y :: r) from rfl, cnt_append]; rfl
    rw [e, ih]
    simp
    omega

/-- How many numbers an Op names. -/
def nK (op : Int) : Nat := if (rowAt op).c ≠ 0 then 3 else if (rowAt op).b ≠ 0 then 2 else if (rowAt op).a ≠ 0 then 1 else 0
theorem cnt_txt {i : In} (h : chk i = true) : cnt (txt i) = nK i.op := by
  obtain ⟨ps, hs, he⟩ := shape_of h
  rw [he, cnt_join ps (shape_clean (chk_parts h).1 hs)]
  unfold nK
  cases hs with
  | none h1 h2 h3 => rw [h1, h2, h3]; rfl
  | one h1 h2 h3 => rw [h2, h3, if_neg (by simp), if_neg (by simp), if_pos (by omega)]; rfl
  | two h1 h2 h3 => rw [h3, if_neg (by simp), if_pos (by omega)]; rfl
  | three h1 h2 h3 => rw [if_pos (by omega)]; rfl

theorem alw_neg {k : Int} (hk : 0 ≤ k ∧ k ≤ 8) : alw k (-1) = false := by
  have hk' : k = 0 ∨ k = 1 ∨ k = 2 ∨ k = 3 ∨ k = 4 ∨ k = 5 ∨ k = 6 ∨ k = 7 ∨ k = 8 := by omega
  rcases hk' with rfl | rfl | rfl | rfl | rfl | rfl | rfl | rfl | rfl <;> decide
theorem neg_a {op y z : Int} : chk ⟨op, -1, y, z⟩ = false := by
  unfold chk; simp only [alw_neg ⟨(kinds_in op).1.1, (kinds_in op).1.2⟩]; simp
theorem neg_b {op x z : Int} : chk ⟨op, x, -1, z⟩ = false := by
  unfold chk; simp only [alw_neg ⟨(kinds_in op).2.1.1, (kinds_in op).2.1.2⟩]; simp
theorem neg_c {op x y : Int} : chk ⟨op, x, y, -1⟩ = false := by
  unfold chk; simp only [alw_neg ⟨(kinds_in op).2.2.1.1, (kinds_in op).2.2.1.2⟩]; simp
theorem with_a {op x y z : Int} (h : chk ⟨op, x, y, z⟩ = true) (v : Int) : chk ⟨op, v, y, z⟩ = alw (rowAt op).a v := by
  obtain ⟨h1, _, h3, h4⟩ := chk_parts h
  simp only at h1 h3 h4
  unfold chk
  simp only [h3, h4]
  have : decide (1 ≤ op ∧ op ≤ 24) = true := by simpa using h1
  rw [this]
  simp
theorem with_b {op x y z : Int} (h : chk ⟨op, x, y, z⟩ = true) (v : Int) : chk ⟨op, x, v, z⟩ = alw (rowAt op).b v := by
  obtain ⟨h1, h2, _, h4⟩ := chk_parts h
  simp only at h1 h2 h4
  unfold chk
  simp only [h2, h4]
  have : decide (1 ≤ op ∧ op ≤ 24) = true := by simpa using h1
  rw [this]
  simp
theorem with_c {op x y z : Int} (h : chk ⟨op, x, y, z⟩ = true) (v : Int) : chk ⟨op, x, y, v⟩ = alw (rowAt op).c v := by
  obtain ⟨h1, h2, h3, _⟩ := chk_parts h
  simp only at h1 h2 h3
  unfold chk
  simp only [h2, h3]
  have : decide (1 ≤ op ∧ op ≤ 24) = true := by simpa using h1
  rw [this]
  simp
theorem num_fin : ∀ n : Fin 25, 1 ≤ n.val → (alw (rowAt n.val).a 1 = true ∧ alw (rowAt n.val).b 8 = false ∧ alw (rowAt n.val).c 8 = false ∧ nK n.val = 1) ∨ (alw (rowAt n.val).a 1 = false ∧ alw (rowAt n.val).a 0 = false ∧ alw (rowAt n.val).b 8 = false ∧ alw (rowAt n.val).c 8 = false ∧ nK n.val = 1) ∨
    (alw (rowAt n.val).a 1 = false ∧ alw (rowAt n.val).a 0 = true ∧ alw (rowAt n.val).b 8 = false ∧ alw (rowAt n.val).c 8 = false ∧ nK n.val = 0) ∨ (alw (rowAt n.val).a 1 = true ∧ alw (rowAt n.val).b 8 = true ∧ alw (rowAt n.val).c 8 = false ∧ nK n.val = 2) ∨
    (alw (rowAt n.val).a 1 = true ∧ alw (rowAt n.val).b 8 = true ∧ alw (rowAt n.val).c 8 = true ∧ nK n.val = 3) := by decide +kernel
theorem num_row {op : Int} (h : 1 ≤ op ∧ op ≤ 24) : (alw (rowAt op).a 1 = true ∧ alw (rowAt op).b 8 = false ∧ alw (rowAt op).c 8 = false ∧ nK op = 1) ∨ (alw (rowAt op).a 1 = false ∧ alw (rowAt op).a 0 = false ∧ alw (rowAt op).b 8 = false ∧ alw (rowAt op).c 8 = false ∧ nK op = 1) ∨
    (alw (rowAt op).a 1 = false ∧ alw (rowAt op).a 0 = true ∧ alw (rowAt op).b 8 = false ∧ alw (rowAt op).c 8 = false ∧ nK op = 0) ∨ (alw (rowAt op).a 1 = true ∧ alw (rowAt op).b 8 = true ∧ alw (rowAt op).c 8 = false ∧ nK op = 2) ∨
    (alw (rowAt op).a 1 = true ∧ alw (rowAt op).b 8 = true ∧ alw (rowAt op).c 8 = true ∧ nK op = 3) := by
  have := num_fin ⟨op.toNat, by omega⟩ (by simp; omega)
  simpa only [Int.toNat_of_nonneg (show 0 ≤ op by omega)] using this
/-- What an instruction pops and pushes does not depend on its first number, where each of 8 functions pops one word. -/
def oneN : Nat → Int := fun _ => 1
theorem eff_same {op x x' y z : Int} (h : effO ⟨op, x, y, z⟩ 8 = true) (h' : effO ⟨op, x', y, z⟩ 8 = true) : effT ⟨op, x, y, z⟩ oneN 8 = effT ⟨op, x', y, z⟩ oneN 8 ∧ effG ⟨op, x, y, z⟩ 8 = effG ⟨op, x', y, z⟩ 8 := by
  unfold effT effG
  rw [if_pos h, if_pos h', if_pos h, if_pos h']
  exact ⟨rfl, rfl⟩
theorem ones_in (w : World) : IIn (w.alloc (.cells #[.int .i64 1, .int .i64 1, .int .i64 1, .int .i64 1, .int .i64 1, .int .i64 1, .int .i64 1, .int .i64 1] 3)) (some ⟨w.heap.size, 0, none⟩) oneN 8 := by
  refine .inr ⟨_, _, rfl, by simp, fun i hi => ?_⟩
  obtain rfl | rfl | rfl | rfl | rfl | rfl | rfl | rfl : i = 0 ∨ i = 1 ∨ i = 2 ∨ i = 3 ∨ i = 4 ∨ i = 5 ∨ i = 6 ∨ i = 7 := by omega
  all_goals simp [oneN]
end Co
end Go.Proofs.YtehmpakcfahmaaaDoor
