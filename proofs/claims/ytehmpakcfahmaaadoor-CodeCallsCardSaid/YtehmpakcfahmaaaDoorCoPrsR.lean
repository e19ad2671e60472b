/-
  The document's own reading of a text (by the reference's way) is the code's. Own work; no walk.
-/
import Derived.Test.YtehmpakcfahmaaaDoorCoPieces
import Derived.Test.YtehmpakcfahmaaaDoorCoRefNum
import Derived.Test.YtehmpakcfahmaaaDoorCoRefSmall
namespace Go.Proofs.YtehmpakcfahmaaaDoor
namespace Co
open Go.RowKit Go
set_option linter.unusedVariables false

theorem fndFrom_sound (f : Int → List UInt8) (t : List UInt8) : ∀ (m : Nat) (n : Int), fndFrom f t m n = -1 ∨ (n ≤ fndFrom f t m n ∧ fndFrom f t m n < n + m ∧ f (fndFrom f t m n) = t)
  | 0, n => .inl rfl
  | m + 1, n => by
    by_cases h : f n = t
    · rw [fndFrom_stop m h]; exact .inr ⟨by omega, by omega, h⟩
    · rw [fndFrom_next m h]
      rcases fndFrom_sound f t m (n + 1) with e | ⟨a, b, c⟩
      · exact .inl e
      · exact .inr ⟨by omega, by omega, c⟩
theorem opOf_iff {k : Int} (h : 1 ≤ k ∧ k ≤ 24) (t : List UInt8) : opL k = t ↔ opOf t = k := by
  constructor
  · intro e; rw [← e]; exact opOf_op h
  · intro e
    rcases fndFrom_sound opL t 24 1 with e' | ⟨_, _, c⟩
    · have : opOf t = -1 := e'
      omega
    · have : opL (opOf t) = t := c
      rw [← e]; exact this
/-- The number of a name among the first k; 0: none. -/
def opK (t : List UInt8) (k : Nat) : Int := if 1 ≤ opOf t ∧ opOf t ≤ k then opOf t else 0
theorem opK_zero (t : List UInt8) : opK t 0 = 0 := by unfold opK; rw [if_neg (by omega)]
theorem opK_yes {t : List UInt8} {k : Nat} (hk : k < 24) (h : opL ((k : Int) + 1) = t) : opK t (k + 1) = (k : Int) + 1 := by
  have := (opOf_iff (k := (k : Int) + 1) (by omega) t).mp h
  unfold opK; rw [if_pos (by omega), this]
theorem opK_no {t : List UInt8} {k : Nat} (hk : k < 24) (h : opL ((k : Int) + 1) ≠ t) : opK t (k + 1) = opK t k := by
  have h1 : opOf t ≠ (k : Int) + 1 := fun e => h ((opOf_iff (k := (k : Int) + 1) (by omega) t).mpr e)
  unfold opK
  by_cases hc : 1 ≤ opOf t ∧ opOf t ≤ (k : Int)
  · rw [if_pos hc, if_pos (by omega)]
  · rw [if_neg hc, if_neg (by omega)]
theorem opK_in (t : List UInt8) (k : Nat) (hk : k ≤ 24) : 0 ≤ opK t k ∧ opK t k ≤ 24 := by unfold opK; split <;> omega

def kR (op : Int) (j : Nat) : Int := sel3 (rk (rowAt op).a) (rk (rowAt op).b) (rk (rowAt op).c) j
def fR (op : Int) (l : List (List UInt8)) (j : Nat) : Int := if j + 1 < l.length then numR (kR op j) (l.getD (j + 1) []) else 0
def rdR (s : List UInt8) : In := ⟨opK ((spl s).getD 0 []) 24, fR (opK ((spl s).getD 0 []) 24) (spl s) 0, fR (opK ((spl s).getD 0 []) 24) (spl s) 1, fR (opK ((spl s).getD 0 []) 24) (spl s) 2⟩
def prsR (s : List UInt8) : Option In := if chk (rdR s) = true ∧ txt (rdR s) = s then some (rdR s) else none

theorem fR_bd (op : Int) (l : List (List UInt8)) (j : Nat) : -1 ≤ fR op l j ∧ fR op l j ≤ 1000000000000 := by
  unfold fR
  split
  · exact numR_bds _ _
  · omega
theorem okp_fold : ∀ (t : List UInt8) (l : List (List UInt8)) (k : Nat), Okp l k → Okp (t.foldl stepP l) (k + t.length)
  | [], l, k, h => h
  | c :: r, l, k, h => by
    have := okp_fold r (stepP l c) (k + 1) (h.step c)
    rw [List.foldl_cons, List.length_cons, show k + (r.length + 1) = k + 1 + r.length by omega]
    exact this
theorem okp_spl (t : List UInt8) : Okp (spl t) t.length := by
  have := okp_fold t [[]] 0 Okp.start
  rwa [Nat.zero_add] at this
theorem spl_getD (t : List UInt8) (j : Nat) : ((spl t).getD j []).length ≤ t.length := by
  by_cases h : j < (spl t).length
  · rw [List.getD_eq_getElem?_getD, List.getElem?_eq_getElem h]
    exact (okp_spl t).each _ (List.getElem_mem h)
  · rw [List.getD_eq_getElem?_getD, List.getElem?_eq_none (by omega)]
    exact Nat.zero_le _

theorem spl_run (L : List (List UInt8)) : ∀ (x cur : List UInt8), (∀ b ∈ x, b ≠ 32) → x.foldl stepP (L ++ [cur]) = L ++ [cur ++ x]
  | [], cur, _ => by simp
  | b :: r, cur, h => by
    rw [List.foldl_cons, stepP_no (h b List.mem_cons_self)]
    have e1 : (L ++ [cur]).dropLast = L := by simp
    have e2 : (L ++ [cur]).getLastD [] = cur := by simp
    rw [e1, e2, spl_run L r (cur ++ [b]) (fun y hy => h y (List.mem_cons_of_mem _ hy))]
    simp
theorem spl_joinL : ∀ (ps L : List (List UInt8)), ps ≠ [] → (∀ p ∈ ps, ∀ b ∈ p, b ≠ 32) → (join ps).foldl stepP (L ++ [[]]) = L ++ ps
  | [], L, h, _ => absurd rfl h
  | [x], L, _, h => by
    rw [join, spl_run L x [] (h x List.mem_cons_self)]
    rfl
  | x :: y :: r, L, _, h => by
    rw [join, List.foldl_append, spl_run L x [] (h x List.mem_cons_self), List.foldl_cons, stepP_yes rfl, spl_joinL (y :: r) (L ++ [[] ++ x]) (by simp) (fun p hp => h p (List.mem_cons_of_mem _ hp))]
    simp
theorem spl_join {ps : List (List UInt8)} (h : ps ≠ []) (hc : ∀ p ∈ ps, clean p = true) : spl (join ps) = ps := by
  have := spl_joinL ps [] h (fun p hp b hb e => by
    have := clean_at (hc p hp) b hb
    rw [e] at this
    exact absurd this.1 (by decide))
  simpa [spl] using this
theorem rk56 {k : Int} (hk : 1 ≤ k ∧ k ≤ 8) : (rk k = 5 ↔ k = 5) ∧ (rk k = 6 ↔ k = 6) := by
  unfold rk; split; omega; split; omega; split <;> omega
theorem numR_prt {k n : Int} (hk : 1 ≤ k ∧ k ≤ 8) (h : alw k n = true) : numR (rk k) (prt k n) = n := by
  obtain ⟨a, b⟩ := hk
  have hk' : k = 1 ∨ k = 2 ∨ k = 3 ∨ k = 4 ∨ k = 5 ∨ k = 6 ∨ k = 7 ∨ k = 8 := by omega
  rcases hk' with rfl | rfl | rfl | rfl | rfl | rfl | rfl | rfl
  · rw [alw_1] at h; simp only [decide_eq_true_eq] at h; exact numD_itoa (by omega) (by omega)
  · rw [alw_2] at h; simp only [decide_eq_true_eq] at h; exact numD_itoa (by omega) (by omega)
  · rw [alw_3] at h; simp only [decide_eq_true_eq] at h; exact numD_itoa (by omega) (by omega)
  · rw [alw_4] at h; simp only [decide_eq_true_eq] at h; exact numD_itoa (by omega) (by omega)
  · rw [alw_5] at h; simp only [decide_eq_true_eq] at h
    have := num_sign ⟨n.toNat, by omega⟩ (by simp; omega)
    simpa [prt, numR, rk, Int.toNat_of_nonneg (show 0 ≤ n by omega)] using this
  · rw [alw_6] at h; simp only [decide_eq_true_eq] at h
    have := num_name ⟨n.toNat, by omega⟩ (by simp; omega)
    simpa [prt, numR, rk, Int.toNat_of_nonneg (show 0 ≤ n by omega)] using this
  · rw [alw_7] at h; simp only [decide_eq_true_eq] at h; exact numD_itoa (by omega) (by omega)
  · rw [alw_8] at h; simp only [decide_eq_true_eq] at h; exact numD_itoa (by omega) (by omega)
theorem opK_opL {op : Int} (h : 1 ≤ op ∧ op ≤ 24) : opK (opL op) 24 = op := by
  have := opOf_op h
  unfold opK; rw [this, if_pos (by omega)]
theorem rdR_shape {i : In} {ps : List (List UInt8)} (hop : 1 ≤ i.op ∧ i.op ≤ 24) (h : Shape i ps) (hs : spl (join ps) = ps) : rdR (join ps) = i := by
  obtain ⟨op, a, b, c⟩ := i
  have ho := opK_opL hop
  unfold rdR
  rw [hs]
  cases h with
  | none h1 h2 h3 ha hb hc =>
    simp only at h1 h2 h3 ha hb hc ho ⊢
    subst ha hb hc
    simp [ho, fR]
  | one h1 h2 h3 ha hb hc =>
    simp only at h1 h2 h3 ha hb hc ho ⊢
    subst hb hc
    simp [ho, fR, kR, sel3, numR_prt h1 ha]
  | two h1 h2 h3 ha hb hc =>
    simp only at h1 h2 h3 ha hb hc ho ⊢
    subst hc
    simp [ho, fR, kR, sel3, numR_prt h1 ha, numR_prt h2 hb]
  | three h1 h2 h3 ha hb hc =>
    simp only at h1 h2 h3 ha hb hc ho ⊢
    simp [ho, fR, kR, sel3, numR_prt h1 ha, numR_prt h2 hb, numR_prt h3 hc]
theorem shape_some {i : In} {ps : List (List UInt8)} (h : Shape i ps) : ps ≠ [] := by
  cases h <;> simp
theorem rdR_txt {i : In} (h : chk i = true) : rdR (txt i) = i := by
  obtain ⟨ps, hs, ht⟩ := shape_of h
  have hop := (chk_parts h).1
  rw [ht]
  exact rdR_shape hop hs (spl_join (shape_some hs) (shape_clean hop hs))
/-- The two ways of reading agree. -/
theorem prs_eq (s : List UInt8) : prs s = prsR s := by
  cases hp : prs s with
  | some i =>
    obtain ⟨hc, ht⟩ := prs_sound hp
    have e : rdR s = i := by rw [← ht]; exact rdR_txt hc
    unfold prsR
    rw [e, if_pos ⟨hc, ht⟩]
  | none =>
    unfold prsR
    by_cases h : chk (rdR s) = true ∧ txt (rdR s) = s
    · have := prs_txt h.1
      rw [h.2, hp] at this
      cases this
    · rw [if_neg h]
end Co
end Go.Proofs.YtehmpakcfahmaaaDoor
