/-
  PLAIN FACTS of vectors in reverse order, and of a set without a line. No walk. Own work.
-/
import Derived.Test.YtlhbpklilfabnaaDoorLinTakesFacts
namespace Go.Proofs.YtlhbpklilfabnaaDoor
namespace Ln
open Go.RowKit Go

/-- The vectors in reverse order. -/
def rvs (vs : Nat → Vc) (n : Nat) (i : Nat) : Vc := vs (n - 1 - i)
theorem rvs_good {vs : Nat → Vc} {n : Nat} (h : Good vs n) : Good (rvs vs n) n := fun i hi => by
  refine ⟨(h (n - 1 - i) (by omega)).1, fun j hj e => ?_⟩
  exact (h (n - 1 - j) (by omega)).2 (n - 1 - i) (by omega) e.symm
theorem rvs_none {p e lv ac : Int} {vs : Nat → Vc} {n : Nat} (hn : n ≤ 32) (hg : Good vs n) (h : tk p e lv ac vs n = none) : tk p e lv ac (rvs vs n) n = none := by
  cases h2 : tk p e lv ac (rvs vs n) n with
  | none => rfl
  | some m =>
    obtain ⟨_, _, hm, a, b, x, y, _⟩ := tk_some h2
    have := tk_none hn hg h (n - 1 - m) (by omega)
    rw [show vs (n - 1 - m) = rvs vs n m from rfl, rdy_iff.2 ⟨a, b, x, y⟩] at this
    cases this
theorem rvs_some {p e lv ac : Int} {vs : Nat → Vc} {n c : Nat} (h : tk p e lv ac vs n = some c) : ∃ m, tk p e lv ac (rvs vs n) n = some m ∧ m < n ∧ rvs vs n m = vs c := by
  obtain ⟨hn, hg, hc, a, b, x, y, best⟩ := tk_some h
  have hr : rdy p e lv ac (rvs vs n (n - 1 - c)) = true := by
    have e1 : rvs vs n (n - 1 - c) = vs c := by unfold rvs; rw [show n - 1 - (n - 1 - c) = c by omega]
    rw [e1]; exact rdy_iff.2 ⟨a, b, x, y⟩
  cases h2 : tk p e lv ac (rvs vs n) n with
  | none => rw [tk_none hn (rvs_good hg) h2 (n - 1 - c) (by omega)] at hr; cases hr
  | some m =>
    obtain ⟨_, _, hm, a2, b2, x2, y2, best2⟩ := tk_some h2
    have k1 := best2 (n - 1 - c) (by omega) hr
    have e1 : rvs vs n (n - 1 - c) = vs c := by unfold rvs; rw [show n - 1 - (n - 1 - c) = c by omega]
    rw [e1] at k1
    have k2 := best (n - 1 - m) (by omega) (rdy_iff.2 ⟨a2, b2, x2, y2⟩)
    have e2 : n - 1 - m = c := good_one hg (by omega) hc (beB_both k2 k1).1
    exact ⟨m, rfl, hm, by unfold rvs; rw [e2]⟩
/-- Find finds the one vector with that line. -/
theorem fnd_none {vs : Nat → Vc} {x : Int} : ∀ {k : Nat}, (∀ j, j < k → (vs j).l ≠ x) → fnd vs x k = none
  | 0, _ => rfl
  | k + 1, h => fnd_no (fnd_none fun j hj => h j (by omega)) (h k (by omega))
theorem fnd_at {vs : Nat → Vc} {n c : Nat} (hg : Good vs n) (hc : c < n) : fnd vs (vs c).l n = some c :=
  fnd_hit (fnd_none (hg c hc).2) rfl n hc
/-- The set of one line. -/
theorem set_one {x : Int} (h0 : 0 ≤ x) (h1 : x < 32) : ofV (fun _ => x) 1 = bitV x ∧ ofE (fun _ => x) 1 = 0 := by
  have ha : AllEx (fun _ : Nat => x) 1 := fun i _ => ⟨h0, h1⟩
  have hb := bitV_bd h0 h1
  refine ⟨?_, ofE_yes ha⟩
  rw [ofV_yes ha]
  show bits .or .u32 0 (bitV x) = bitV x
  rw [u32_or _ _ (by omega) (by omega) (by omega) (by omega)]
  simp; omega
/-- A set without a line. -/
theorem andNot_bd {a b : Int} (ha : 0 ≤ a) (ha' : a < 4294967296) (hb : 0 ≤ b) (hb' : b < 4294967296) : 0 ≤ bits .andNot .u32 a b ∧ bits .andNot .u32 a b < 4294967296 := by
  rw [u32_andNot _ _ ha ha' hb hb']
  have : a.toNat &&& (4294967295 - b.toNat) < 2 ^ 32 := Nat.and_lt_two_pow _ (by omega)
  omega
theorem hasB_andNot {a b : Int} (ha : 0 ≤ a) (ha' : a < 4294967296) (hb : 0 ≤ b) (hb' : b < 4294967296) (x : Int) : hasB (bits .andNot .u32 a b) x = (hasB a x && !hasB b x) := by
  rw [u32_andNot _ _ ha ha' hb hb']
  unfold hasB
  rw [Int.toNat_natCast, Nat.testBit_and]
  by_cases hx : 0 ≤ x ∧ x < 32
  · have e : (4294967295 - b.toNat).testBit x.toNat = !b.toNat.testBit x.toNat := by
      have := @Nat.testBit_two_pow_sub_succ b.toNat 32 (by omega) x.toNat
      rw [show (4294967295 - b.toNat) = 2 ^ 32 - (b.toNat + 1) by omega, this]
      have : decide (x.toNat < 32) = true := by simp; omega
      rw [this]; rfl
    rw [e]; simp [hx]
  · have : decide (0 ≤ x ∧ x < 32) = false := by simpa using hx
    rw [this]; rfl
theorem tk_less {p e lv ac : Int} {vs : Nat → Vc} {n c d : Nat} (hp : 0 ≤ p) (hp' : p < 4294967296) (h : tk p e lv ac vs n = some c) (h2 : tk (bits .andNot .u32 p (bitV (vs c).l)) e lv ac vs n = some d) :
    d < n ∧ d ≠ c ∧ (vs d).p ≤ (vs c).p := by
  obtain ⟨hn, hg, hc, a, b, x, y, best⟩ := tk_some h
  obtain ⟨_, _, hd, a2, b2, x2, y2, _⟩ := tk_some h2
  have hl := hg.line hc
  have hb := bitV_bd hl.1 hl.2
  rw [hasB_andNot hp hp' (by omega) (by omega), hasB_bitV hl.1 hl.2, Bool.and_eq_true] at a2
  refine ⟨hd, fun e1 => ?_, ?_⟩
  · subst e1; simp at a2
  · have := beB_no.1 (best d hd (rdy_iff.2 ⟨a2.1, b2, x2, y2⟩))
    omega

/-- The cells of k vectors. -/
def vcs (vs : Nat → Vc) : Nat → List Value
  | 0 => []
  | k + 1 => vcs vs k ++ [.int .i64 (vs k).l, .int .i64 (vs k).p, .int .i64 (vs k).f]
theorem vcs_length (vs : Nat → Vc) : ∀ k, (vcs vs k).length = k * 3
  | 0 => rfl
  | k + 1 => by rw [vcs, List.length_append, vcs_length vs k]; simp; omega
theorem vcs_at (vs : Nat → Vc) : ∀ (k i : Nat), i < k → (vcs vs k)[i * 3]? = some (.int .i64 (vs i).l) ∧ (vcs vs k)[i * 3 + 1]? = some (.int .i64 (vs i).p) ∧ (vcs vs k)[i * 3 + 2]? = some (.int .i64 (vs i).f)
  | 0, i, h => absurd h (Nat.not_lt_zero i)
  | k + 1, i, h => by
    have hl := vcs_length vs k
    rw [vcs]
    rcases Nat.lt_succ_iff_lt_or_eq.1 h with h1 | h1
    · have ih := vcs_at vs k i h1
      rw [List.getElem?_append_left (by omega), List.getElem?_append_left (by omega), List.getElem?_append_left (by omega)]
      exact ih
    · subst h1
      rw [List.getElem?_append_right (by omega), List.getElem?_append_right (by omega), List.getElem?_append_right (by omega), hl]
      rw [show i * 3 - i * 3 = 0 by omega, show i * 3 + 1 - i * 3 = 1 by omega, show i * 3 + 2 - i * 3 = 2 by omega]
      exact ⟨rfl, rfl, rfl⟩
end Ln
end Go.Proofs.YtlhbpklilfabnaaDoor
