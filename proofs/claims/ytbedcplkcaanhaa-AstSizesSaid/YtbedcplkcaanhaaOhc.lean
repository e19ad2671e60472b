/-
  ORDERS, IN A FENCE, INSIDE A ROUND TOO, WITH A CONDITION ON THE WORLD THAT HOLDS UNTIL OPERATION c IS DONE: an operation that gives a value in every world that meets S goes first. No program. Own work.
-/
import Derived.OrdersIn
import Derived.TacticsIn
import Derived.WalkKit
import Derived.Test.YtbedcplkcaanhaaOh
namespace Go.Proofs.Ytbedcplkcaanhaa
namespace Ohc
open Go.RowKit Go Oh
set_option linter.unusedVariables false
variable {c : Nat} {F : Fence} {n : Nat} {P : Program} {ops : Array Oper} {Q : Exit → Act → World → Prop} {md : Region.Mode} {S : World → Prop}

/-- Whatever order is drawn from here on; S holds wherever one stands. -/
def AnyC (F : Fence) (n : Nat) (P : Program) (md : Region.Mode) (ops : Array Oper) (Q : Exit → Act → World → Prop) (S : World → Prop) (c : Nat) : Nat → Array Bool → Act → World → Prop
  | 0, l, a, w => (l.getD c true = false → S w) ∧ Region.ready md ops l = [] ∧ Q .normal a w
  | k + 1, l, a, w => (l.getD c true = false → S w) ∧ (Region.ready md ops l = [] → Q .normal a w) ∧ ∀ i ∈ Region.ready md ops l, wpOpIn F n P ops Q i (AnyC F n P md ops Q S c k (l.setIfInBounds i true)) a w
theorem AnyC.plain : ∀ (k : Nat) (l : Array Bool) (a : Act) (w : World), AnyC F n P md ops Q S c k l a w → wpAnyIn F n P md ops Q k l a w
  | 0, _, _, _, h => h.2
  | k + 1, l, _, _, h => ⟨h.2.1, fun i hi => wpOpIn_mono (fun a' w' h' => AnyC.plain k _ a' w' h') (h.2.2 i hi)⟩

theorem first_of {i : Nat} {oi oc : Oper} {v : Value} (ht : tame ops = true) (hi : ops[i]? = some oi) (hc : ops[c]? = some oc) (hdep : (oc.after.any fun e => Region.binds md e && e.on == i) = true) (hic : i ≠ c) (hQ : ∀ c a w, Q (.panic c) (a.put oi.dst v) w → Q (.panic c) a w) :
    ∀ (k : Nat) (l : Array Bool) (a : Act) (w : World), l.getD c true = false → Region.free md ops l i = true → i ∈ Region.ready md ops l → Gives P ops S oi v a →
      AnyC F n P md ops Q S c k (l.setIfInBounds i true) (a.put oi.dst v) w → AnyC F n P md ops Q S c (k + 1) l a w := by
  intro k
  induction k with
  | zero =>
    intro l a w hlc _ hr g H
    have hS : S w := H.1 (by rw [getD_set_ne true hic]; exact hlc)
    refine ⟨fun _ => hS, fun h => (by rw [h] at hr; cases hr), fun j hj => ?_⟩
    by_cases hji : j = i
    · subst hji; exact g.op ht hi hS H
    · exact absurd (ready_mono hj hji) (by rw [H.2.1]; simp)
  | succ k ih =>
    intro l a w hlc hf hr g H
    have hS : S w := H.1 (by rw [getD_set_ne true hic]; exact hlc)
    refine ⟨fun _ => hS, fun h => (by rw [h] at hr; cases hr), fun j hj => ?_⟩
    by_cases hji : j = i
    · subst hji; exact g.op ht hi hS H
    obtain ⟨hun, oj, hoj, hall⟩ := mem_ready.1 hj
    have hiun := (mem_ready.1 hr).1
    have hnot : ∀ e ∈ oj.after, Region.binds md e = true → e.on ≠ i := fun e he hb heq => by
      have h1 := hall e he hb
      rw [heq] at h1
      rcases Nat.lt_or_ge i l.size with g' | g'
      · simp [g'] at hiun h1; rw [hiun] at h1; cases h1
      · simp [Array.getElem?_eq_none g'] at h1
    have hjc : j ≠ c := fun e => by
      subst e
      rw [hc] at hoj
      cases hoj
      obtain ⟨q, hq, hp⟩ := Array.any_eq_true.1 hdep
      simp only [Bool.and_eq_true, beq_iff_eq] at hp
      exact hnot _ (Array.getElem_mem hq) hp.1 hp.2
    have hs := slide ht hi hoj (Region.free_spec hi hf j oj hoj hji hun hnot) hQ g (H.2.2 j (ready_mono hj hji))
    have hf' : Region.free md ops (l.setIfInBounds j true) i = true := by
      simp only [Region.free, hi, List.all_eq_true, List.mem_range] at hf ⊢
      intro m hm
      have := hf m hm
      by_cases hjm : j = m
      · subst hjm
        have : (l.setIfInBounds j true).getD j true = true := by
          rcases Nat.lt_or_ge j l.size with g' | g'
          · simp [g']
          · simp [Nat.not_lt.2 g']
        simp [this]
      · rw [getD_set_ne true hjm]; exact this
    refine wpOpIn_mono (fun a' w' h3 => ih (l.setIfInBounds j true) a' w' (by rw [getD_set_ne true hjc]; exact hlc) hf' (ready_mono hr (Ne.symm hji)) h3.1 ?_) hs
    rw [Array.setIfInBounds_comm _ _ hji]
    exact h3.2

/-- Number i goes first. -/
theorem take {i : Nat} {oi oc : Oper} {v : Value} {k : Nat} {l : Array Bool} {a : Act} {w : World} (hi : ops[i]? = some oi) (hc : ops[c]? = some oc) (hdep : (oc.after.any fun e => Region.binds md e && e.on == i) = true) (hic : i ≠ c) (hlc : l.getD c true = false) (ht : tame ops = true) (hf : Region.free md ops l i = true) (hr : (Region.ready md ops l).contains i = true)
    (hQ : ∀ c a w, Q (.panic c) (a.put oi.dst v) w → Q (.panic c) a w) (g : Gives P ops S oi v a)
    (h : AnyC F n P md ops Q S c k (l.setIfInBounds i true) (a.put oi.dst v) w) : AnyC F n P md ops Q S c (k + 1) l a w :=
  first_of ht hi hc hdep hic hQ k l a w hlc hf (by simpa using hr) g h
/-- There is one that may come up, and it is no value's giver. -/
theorem only {i : Nat} {o : Oper} {k : Nat} {l : Array Bool} {a : Act} {w : World} (hi : ops[i]? = some o) (hr : Region.ready md ops l = [i]) (hS : l.getD c true = false → S w)
    (h : ∀ K' : Act → World → Prop, (∀ a w, AnyC F n P md ops Q S c k (l.setIfInBounds i true) a w → K' a w) → if Region.wanted o (yielded ops a.tmps) = true then Oper.wpIn F n P o a w K' Q else (∀ f, o.about P w a.eval = some f → F.fn f) ∧ K' (a.put o.dst undef) w) : AnyC F n P md ops Q S c (k + 1) l a w :=
  ⟨hS, fun e => (by rw [hr] at e; cases e), fun j hj => by
    rw [hr] at hj
    obtain rfl := List.mem_singleton.1 hj
    exact wpOpIn_step hi (fun K' hK => h K' hK)⟩
theorem done {k : Nat} {l : Array Bool} {a : Act} {w : World} (hr : Region.ready md ops l = []) (hS : l.getD c true = false → S w) (h : Q .normal a w) : AnyC F n P md ops Q S c k l a w := by
  cases k with
  | zero => exact ⟨hS, hr, h⟩
  | succ k => exact ⟨hS, fun _ => h, by rw [hr]; simp⟩
/-- The beginning: a region that draws its order. -/
theorem begins {id : Nat} {a : Act} {w : World} (S : World → Prop) (hm : P.follows .mixedOrders = true) (h : AnyC F n P .any ops Q S c ops.size (Array.replicate ops.size false) a w.drew) : (Code.region id ops true).wpIn F n P Q a w :=
  wpIn_region_any hm (AnyC.plain _ _ _ _ h)
/-- The one that may come up leaves a value, and this world. -/
theorem value {i : Nat} {o : Oper} {v : Value} {w' : World} {k : Nat} {l : Array Bool} {a : Act} {w : World} (hi : ops[i]? = some o) (ht : tame ops = true) (hr : Region.ready md ops l = [i]) (hS : l.getD c true = false → S w) (hab : o.about P w a.eval = none) (hw : Region.wanted o (yielded ops a.tmps) = true)
    (hrun : (execOp a.eval o).run P w = .ok (.value v) w') (h : AnyC F n P md ops Q S c k (l.setIfInBounds i true) (a.put o.dst v) w') : AnyC F n P md ops Q S c (k + 1) l a w :=
  ⟨hS, fun e => (by rw [hr] at e; cases e), fun j hj => by
    rw [hr] at hj
    obtain rfl := List.mem_singleton.1 hj
    simp only [wpOpIn, hi]
    rw [if_pos hw]
    refine ⟨fun f hf => (by rw [hab] at hf; cases hf), ?_⟩
    rw [(tame_at ht hi).2, hrun]
    exact h⟩
end Ohc
end Go.Proofs.Ytbedcplkcaanhaa
