/-
  PLAIN FACTS: a valid image with one instruction more that names what is not there, or that goes on at its end, is not valid; no program. Own work.
-/
import Derived.Test.YtaeblnlbelebkaaDoorImGraph
namespace Go.Proofs.YtaeblnlbelebkaaDoor
namespace Im
open Co (In in0)
open Ln (Vc)
set_option linter.unusedVariables false

/-- An image with another code. -/
def Im.wc (m : Im) (l : List In) : Im := ⟨l, m.funcs, m.vecs, m.main, m.init, m.ports, m.stack, m.atoms⟩
/-- One instruction more, ahead of the last one. -/
def moreB (m : Im) (x : In) : List In := m.code.take (m.code.length - 1) ++ [x] ++ [m.ins (m.code.length - 1)]
/-- One instruction more, behind the last one. -/
def moreE (m : Im) (x : In) : List In := m.code ++ [x]
theorem moreB_len {m : Im} (x : In) (h : 0 < m.code.length) : (moreB m x).length = m.code.length + 1 := by
  unfold moreB; simp; omega
theorem moreE_len (m : Im) (x : In) : (moreE m x).length = m.code.length + 1 := by
  unfold moreE; simp
theorem long_wc {m : Im} {l : List In} (h : ¬ Long m) (hl : l.length ≤ 16384) : ¬ Long (m.wc l) := by
  intro g
  apply h
  rcases g with g | g
  · refine .inl ?_
    unfold Large at g ⊢
    simp only [Im.wc] at g
    rcases g with g | g | g
    · exact .inl g
    · omega
    · exact .inr (.inr g)
  · exact .inr g
theorem to_wc {m : Im} {l : List In} (hF : FnsB m) : (m.wc l).to (m.funcs.length - 1) = l.length := by
  have := hF.1
  unfold Im.to
  rw [if_neg (by simp only [Im.wc]; omega)]
  rfl
theorem ref_body {m : Im} (hc : chkI m = 0) (hn : m.code.length ≤ 300) (x : In) (hx : ¬ InsOk (m.wc (moreB m x)) (m.funcs.length - 1) x) : chkI (m.wc (moreB m x)) = 2 := by
  obtain ⟨hl, hm, _⟩ := chkI_zero.1 hc
  have hp := hm.fns.code_pos
  have hlen := moreB_len (m := m) x hp
  refine chkI_may (long_wc hl (by omega)) (fun hM => hx ?_)
  have hf0 := hm.fns.1
  have hfl : m.funcs.length - 1 < m.funcs.length := by omega
  have hfr := hm.fns.step hfl
  have h0 := hm.fns.fr0 hfl
  rw [to_last (by omega)] at hfr
  have hto := to_wc (l := moreB m x) hm.fns
  have e : (m.wc (moreB m x)).fr (m.funcs.length - 1) = m.fr (m.funcs.length - 1) := rfl
  have hb := hM.ins (m.funcs.length - 1) hfl (m.code.length - 1 - (m.fr (m.funcs.length - 1)).toNat) (by rw [hto, e]; omega)
  rw [e] at hb
  have ei : (m.fr (m.funcs.length - 1)).toNat + (m.code.length - 1 - (m.fr (m.funcs.length - 1)).toNat) = m.code.length - 1 := by omega
  rw [ei] at hb
  have ex : (m.wc (moreB m x)).ins (m.code.length - 1) = x := by
    unfold Im.ins Im.wc moreB
    simp only
    rw [List.getD_eq_getElem?_getD, List.append_assoc, List.getElem?_append_right (by simp)]
    simp [Nat.min_def]
  rwa [ex] at hb
theorem ref_last {m : Im} (hc : chkI m = 0) (hn : m.code.length ≤ 300) (x : In) (hx : jmpO x = true) : chkI (m.wc (moreE m x)) = 2 := by
  obtain ⟨hl, hm, _⟩ := chkI_zero.1 hc
  have hlen := moreE_len m x
  refine chkI_may (long_wc hl (by omega)) (fun hM => ?_)
  have hf0 := hm.fns.1
  have hfl : m.funcs.length - 1 < m.funcs.length := by omega
  have hto := to_wc (l := moreE m x) hm.fns
  have hb := hM.last (m.funcs.length - 1) hfl
  unfold LastOk at hb
  have ex : (m.wc (moreE m x)).ins m.code.length = x := by
    unfold Im.ins Im.wc moreE
    simp [List.getD_eq_getElem?_getD]
  rw [hto, hlen, show ((m.code.length + 1 : Nat) : Int) - 1 = (m.code.length : Int) by omega, Int.toNat_natCast, ex, hx] at hb
  cases hb
theorem bad_find {m : Im} {f : Nat} {x : In} (h : ¬ Finds m f x) : ¬ InsOk m f x := fun g => h g.finds
/-- The eight. -/
def badI (m : Im) : List In := [⟨15, (m.code.length : Int) + 1, 0, 0⟩, ⟨4, m.init.length, 0, 0⟩, ⟨10, m.ports.length, 0, 0⟩, ⟨17, m.funcs.length, 0, 0⟩, ⟨23, m.atoms.length, 0, 0⟩, ⟨8, 64, 0, 0⟩, ⟨0, 0, 0, 0⟩, ⟨6, 0, (m.init.length : Int) + 1, 0⟩]
theorem bad_all {m : Im} (hc : chkI m = 0) (l : List In) (hl : (l.length : Int) = m.code.length + 1) (k : Nat) (hk : k < 8) : ¬ InsOk (m.wc l) (m.funcs.length - 1) ((badI m).getD k in0) := by
  obtain ⟨_, hm, _⟩ := chkI_zero.1 hc
  have hf0 := hm.fns.1
  have l64 := (hm.fns.2.2 (m.funcs.length - 1) (by omega)).l64
  match k, hk with
  | 0, _ =>
    intro g
    have hs := g.stays
    have hto := to_wc (l := l) hm.fns
    have hch := g.chk
    simp only [badI, List.getD_eq_getElem?_getD, List.getElem?_cons_zero, Option.getD_some] at hs hch
    have hj : jmpJ ⟨15, (m.code.length : Int) + 1, 0, 0⟩ = true := by unfold jmpJ; rw [hch]; rfl
    have ht : jmpT ⟨15, (m.code.length : Int) + 1, 0, 0⟩ = (m.code.length : Int) + 1 := by
      have : (Co.chk ⟨15, (m.code.length : Int) + 1, 0, 0⟩ && (Co.rowAt 15).jm) = true := by rw [hch]; rfl
      unfold jmpT; rw [if_pos this]
    rcases hs with hs | hs
    · rw [hj] at hs; cases hs
    · rw [ht, hto] at hs
      omega
  | 1, _ => exact bad_find (by simp [badI, Finds, Im.wc])
  | 2, _ => exact bad_find (by simp [badI, Finds, Im.wc])
  | 3, _ => exact bad_find (by simp [badI, Finds, Im.wc])
  | 4, _ => exact bad_find (by simp [badI, Finds, Im.wc])
  | 5, _ =>
    refine bad_find ?_
    have : ((m.wc l).fn (m.funcs.length - 1)).l = (m.fn (m.funcs.length - 1)).l := rfl
    simp [badI, Finds, this]
    omega
  | 6, _ => exact fun g => absurd (show Co.chk ⟨0, 0, 0, 0⟩ = true from g.chk) (by decide +kernel)
  | 7, _ =>
    refine bad_find ?_
    simp [badI, Finds, Im.wc]
theorem ref_o {m : Im} (hc : chkI m = 0) (hn : m.code.length ≤ 300) (k : Nat) (hk : k < 8) : chkI (m.wc (moreB m ((badI m).getD k in0))) = 2 := by
  have hp := (chkI_zero.1 hc).2.1.fns.code_pos
  exact ref_body hc hn _ (bad_all hc _ (by rw [moreB_len _ hp]; omega) k hk)
theorem ref_p {m : Im} (hc : chkI m = 0) (hn : m.code.length ≤ 300) : chkI (m.wc (moreE m ⟨22, 0, 0, 0⟩)) = 2 := ref_last hc hn _ (by decide +kernel)
end Im
end Go.Proofs.YtaeblnlbelebkaaDoor
