/-
  PLAIN FACTS of what is taken: more lines, a higher level. No walk. Own work.
-/
import Derived.Test.YtlhbpklilfabnaaDoorLinSem
namespace Go.Proofs.YtlhbpklilfabnaaDoor
namespace Ln
open Go.RowKit Go

theorem tk_some {p e lv ac : Int} {vs : Nat → Vc} {n c : Nat} (h : tk p e lv ac vs n = some c) :
    n ≤ 32 ∧ Good vs n ∧ c < n ∧ hasB p (vs c).l = true ∧ hasB e (vs c).l = true ∧ lv < (vs c).p ∧ ac < (vs c).p ∧ ∀ i, i < n → rdy p e lv ac (vs i) = true → beB (vs i) (vs c) = false := by
  unfold tk at h
  by_cases hg : n ≤ 32 ∧ Good vs n
  · rw [if_pos hg] at h
    obtain ⟨a, b, d⟩ := best_spec h
    obtain ⟨b1, b2, b3, b4⟩ := rdy_iff.1 b
    exact ⟨hg.1, hg.2, a, b1, b2, b3, b4, d⟩
  · rw [if_neg hg] at h; cases h
theorem tk_none {p e lv ac : Int} {vs : Nat → Vc} {n : Nat} (hn : n ≤ 32) (hg : Good vs n) (h : tk p e lv ac vs n = none) : ∀ i, i < n → rdy p e lv ac (vs i) = false := by
  rw [tk_ok hn hg] at h; exact best_none h
/-- Of two that are each not ahead of the other, the lines and priorities are the same. -/
theorem beB_both {v u : Vc} (h : beB v u = false) (g : beB u v = false) : v.l = u.l ∧ v.p = u.p := by
  have a := beB_no.1 h
  have b := beB_no.1 g
  omega
theorem good_one {vs : Nat → Vc} {n c d : Nat} (hg : Good vs n) (hc : c < n) (hd : d < n) (h : (vs c).l = (vs d).l) : c = d := by
  rcases Nat.lt_trichotomy c d with h1 | h1 | h1
  · exact absurd h ((hg d hd).2 c h1)
  · exact h1
  · exact absurd h.symm ((hg c hc).2 d h1)
theorem has_more {s m x : Int} (hs : 0 ≤ s) (hs' : s < 4294967296) (hm : 0 ≤ m) (hm' : m < 4294967296) (h : hasB s x = true) : hasB (bits .or .u32 s m) x = true := by
  rw [hasB_or hs hs' hm hm', h]; rfl
/-- With more lines pending and enabled one with at least that priority is taken. -/
theorem tk_more {p e m lv ac : Int} {vs : Nat → Vc} {n c : Nat} (hp : 0 ≤ p) (hp' : p < 4294967296) (he : 0 ≤ e) (he' : e < 4294967296) (hm : 0 ≤ m) (hm' : m < 4294967296) (h : tk p e lv ac vs n = some c) :
    ∃ d, tk (bits .or .u32 p m) (bits .or .u32 e m) lv ac vs n = some d ∧ d < n ∧ (vs c).p ≤ (vs d).p := by
  obtain ⟨h32, hg, hc, a, b, x, y, _⟩ := tk_some h
  have hr : rdy (bits .or .u32 p m) (bits .or .u32 e m) lv ac (vs c) = true := rdy_iff.2 ⟨has_more hp hp' hm hm' a, has_more he he' hm hm' b, x, y⟩
  cases h2 : tk (bits .or .u32 p m) (bits .or .u32 e m) lv ac vs n with
  | none => rw [tk_none h32 hg h2 c hc] at hr; cases hr
  | some d =>
    obtain ⟨_, _, hd, _, _, _, _, best⟩ := tk_some h2
    have := beB_no.1 (best c hc hr)
    exact ⟨d, rfl, hd, by omega⟩
/-- With a higher level none is taken that was not above: what is still taken is the one. -/
theorem tk_higher {p e lv ac L U : Int} {vs : Nat → Vc} {n d : Nat} (hL : (if 1000 < lv then 1000 else lv) = L) (hU : 0 ≤ U) (h : tk p e (L + U) ac vs n = some d) :
    tk p e lv ac vs n = some d ∧ L + U < (vs d).p := by
  obtain ⟨h32, hg, hd, a, b, x, y, best⟩ := tk_some h
  have hv := vaB_iff.1 (hg d hd).1
  have hlv : L = lv := by
    by_cases h1 : 1000 < lv
    · rw [if_pos h1] at hL; omega
    · rw [if_neg h1] at hL; omega
  subst hlv
  have hr : rdy p e L ac (vs d) = true := rdy_iff.2 ⟨a, b, by omega, y⟩
  refine ⟨?_, x⟩
  cases h2 : tk p e L ac vs n with
  | none => rw [tk_none h32 hg h2 d hd] at hr; cases hr
  | some c =>
    obtain ⟨_, _, hc, a2, b2, x2, y2, best2⟩ := tk_some h2
    have k1 := best2 d hd hr
    have hp : (vs d).p ≤ (vs c).p := by have := beB_no.1 k1; omega
    have k2 := best c hc (rdy_iff.2 ⟨a2, b2, by omega, y2⟩)
    rw [good_one hg hc hd (beB_both k1 k2).1.symm]
end Ln
end Go.Proofs.YtlhbpklilfabnaaDoor
