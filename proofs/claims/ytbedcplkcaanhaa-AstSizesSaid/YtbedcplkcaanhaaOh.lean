/-
  ORDERS, IN A FENCE, INSIDE A ROUND TOO, WITH A CONDITION ON THE WORLD: an operation that gives a value in every world that meets S goes first. No program. Own work.
-/
import Derived.OrdersIn
import Derived.TacticsIn
import Derived.WalkKit
import Derived.Test.YtbedcplkcaanhaaProg
namespace Go.Proofs.Ytbedcplkcaanhaa
namespace Oh
open Go.RowKit Go
set_option linter.unusedVariables false
variable {F : Fence} {n : Nat} {P : Program} {ops : Array Oper} {Q : Exit → Act → World → Prop} {md : Region.Mode} {S : World → Prop}

/-- No select and no defer statement among them. -/
def tame (ops : Array Oper) : Bool := ops.all fun o => match o.op with | .select .. => false | .defer .. => false | _ => true
theorem tame_at (h : tame ops = true) {j : Nat} {o : Oper} (ho : ops[j]? = some o) : (∀ cs b, o.op ≠ .select cs b) ∧ ∀ r ρ, o.semAt r ρ = execOp ρ o := by
  have hm := Array.all_eq_true_iff_forall_mem.1 h o (Array.mem_of_getElem? ho)
  refine ⟨fun cs b e => by simp [e] at hm, fun r ρ => ?_⟩
  cases r with
  | none => rfl
  | some l => exact Oper.semAt_some l ρ o (fun c e => by simp [e] at hm)

/-- In the frame a, in every world that meets S, o leaves v behind and does nothing else. -/
structure Gives (P : Program) (ops : Array Oper) (S : World → Prop) (o : Oper) (v : Value) (a : Act) : Prop where
  quiet : ∀ w, o.about P w a.eval = none
  out : (Region.wanted o (yielded ops a.tmps) = true ∧ ∀ w, S w → (execOp a.eval o).run P w = .ok (.value v) w) ∨ (Region.wanted o (yielded ops a.tmps) = false ∧ v = undef)

theorem Gives.op {i : Nat} {o : Oper} {v : Value} {a : Act} {w : World} {K : Act → World → Prop} (ht : tame ops = true) (hi : ops[i]? = some o) (g : Gives P ops S o v a) (hS : S w) (h : K (a.put o.dst v) w) : wpOpIn F n P ops Q i K a w := by
  have hab : ∀ f, o.about P w a.eval = some f → F.fn f := fun f hf => by rw [g.quiet w] at hf; cases hf
  simp only [wpOpIn, hi]
  rcases g.out with ⟨hw, hv⟩ | ⟨hw, rfl⟩
  · rw [if_pos hw]
    refine ⟨hab, ?_⟩
    rw [(tame_at ht hi).2, hv w hS]
    exact h
  · rw [if_neg (by simp [hw])]
    exact ⟨hab, h⟩

/-- What the other operation does then, when the value is there already, it does the same without it. -/
theorem slide {i j : Nat} {oi oj : Oper} {v : Value} {a : Act} {w : World} {K : Act → World → Prop} (ht : tame ops = true) (hi : ops[i]? = some oi) (hj : ops[j]? = some oj) (hap : oi.apart ops oj = true)
    (hQ : ∀ c a w, Q (.panic c) (a.put oi.dst v) w → Q (.panic c) a w) (g : Gives P ops S oi v a) (h : wpOpIn F n P ops Q j K (a.put oi.dst v) w) :
    wpOpIn F n P ops Q j (fun a' w' => Gives P ops S oi v a' ∧ K (a'.put oi.dst v) w') a w := by
  obtain ⟨p1, p2, p3⟩ := Oper.apart_spec hap
  have si := (tame_at ht hi).1
  obtain ⟨sj, tj⟩ := tame_at ht hj
  have stillAt : ∀ (b : Act) (u : Value), Gives P ops S oi v b → Gives P ops S oi v (b.put oj.dst u) := fun b u g =>
    ⟨fun w => by rw [about_put oi w b oj.dst u p3]; exact g.quiet w, by rw [execOp_put oi si b oj.dst u p3, wanted_put oi b oj.dst u p3]; exact g.out⟩
  have still : ∀ (u : Value), Gives P ops S oi v (a.put oj.dst u) := fun u => stillAt a u g
  have swap : ∀ (b : Act) (u : Value), (b.put oj.dst u).put oi.dst v = (b.put oi.dst v).put oj.dst u := fun b u => (Act.put_comm b v u p2).symm
  simp only [wpOpIn, hj] at h ⊢
  rw [wanted_put oj a oi.dst v p1, about_put oj w a oi.dst v p1] at h
  by_cases hw : Region.wanted oj (yielded ops a.tmps) = true
  · rw [if_pos hw] at h ⊢
    refine ⟨by have := h.1; rwa [about_put oj w a oi.dst v p1] at this, ?_⟩
    have h := h.2
    rw [tj, execOp_put oj sj a oi.dst v p1] at h
    rw [tj]
    generalize (execOp a.eval oj).run P w = r at h ⊢
    have one : ∀ (u : Value) (w'' : World), K ((a.put oi.dst v).put oj.dst u) w'' → Gives P ops S oi v (a.put oj.dst u) ∧ K ((a.put oj.dst u).put oi.dst v) w'' := fun u w'' k => ⟨still u, by rw [swap]; exact k⟩
    cases r with
    | ok x w' =>
      cases x <;> simp only [Oper.uponIn] at h ⊢
      case value u => exact one u w' h
      case skip => exact one _ w' h
      case defer d =>
        refine ⟨stillAt _ _ ⟨fun w => g.quiet w, g.out⟩, ?_⟩
        rw [swap, ← Act.put_defers]
        exact h
      case enter f args =>
        refine ⟨h.1, CallsIn.mono h.2 fun e w'' he => ?_⟩
        cases e <;> first | exact one _ _ he | exact hQ _ _ _ he | exact he
      case row row args => exact ⟨h.1, RowsIn.mono h.2 fun u w'' he => one u w'' he⟩
      case round l f tmps assign body =>
        refine ⟨h.1, RoundIn.mono h.2 fun e w'' he => ?_⟩
        cases e <;> first | exact one _ _ he | exact hQ _ _ _ he | exact he
    | halt x w' =>
      cases x <;> simp only [Oper.uponIn] at h ⊢
      case panic u => exact hQ _ _ _ h
  · rw [if_neg hw] at h ⊢
    exact ⟨h.1, still undef, by rw [swap]; exact h.2⟩

/-- Whatever order is drawn from here on; S holds wherever one stands. -/
def AnyS (F : Fence) (n : Nat) (P : Program) (md : Region.Mode) (ops : Array Oper) (Q : Exit → Act → World → Prop) (S : World → Prop) : Nat → Array Bool → Act → World → Prop
  | 0, l, a, w => S w ∧ Region.ready md ops l = [] ∧ Q .normal a w
  | k + 1, l, a, w => S w ∧ (Region.ready md ops l = [] → Q .normal a w) ∧ ∀ i ∈ Region.ready md ops l, wpOpIn F n P ops Q i (AnyS F n P md ops Q S k (l.setIfInBounds i true)) a w
theorem AnyS.meets {k : Nat} {l : Array Bool} {a : Act} {w : World} (h : AnyS F n P md ops Q S k l a w) : S w := by cases k <;> exact h.1
theorem AnyS.plain : ∀ (k : Nat) (l : Array Bool) (a : Act) (w : World), AnyS F n P md ops Q S k l a w → wpAnyIn F n P md ops Q k l a w
  | 0, _, _, _, h => h.2
  | k + 1, l, _, _, h => ⟨h.2.1, fun i hi => wpOpIn_mono (fun a' w' h' => AnyS.plain k _ a' w' h') (h.2.2 i hi)⟩

theorem first_of {i : Nat} {oi : Oper} {v : Value} (ht : tame ops = true) (hi : ops[i]? = some oi) (hQ : ∀ c a w, Q (.panic c) (a.put oi.dst v) w → Q (.panic c) a w) :
    ∀ (k : Nat) (l : Array Bool) (a : Act) (w : World), Region.free md ops l i = true → i ∈ Region.ready md ops l → Gives P ops S oi v a →
      AnyS F n P md ops Q S k (l.setIfInBounds i true) (a.put oi.dst v) w → AnyS F n P md ops Q S (k + 1) l a w := by
  intro k
  induction k with
  | zero =>
    intro l a w _ hr g H
    refine ⟨H.1, fun h => (by rw [h] at hr; cases hr), fun j hj => ?_⟩
    by_cases hji : j = i
    · subst hji; exact g.op ht hi H.1 H
    · exact absurd (ready_mono hj hji) (by rw [H.2.1]; simp)
  | succ k ih =>
    intro l a w hf hr g H
    refine ⟨H.1, fun h => (by rw [h] at hr; cases hr), fun j hj => ?_⟩
    by_cases hji : j = i
    · subst hji; exact g.op ht hi H.1 H
    obtain ⟨hun, oj, hoj, hall⟩ := mem_ready.1 hj
    have hiun := (mem_ready.1 hr).1
    have hnot : ∀ e ∈ oj.after, Region.binds md e = true → e.on ≠ i := fun e he hb heq => by
      have h1 := hall e he hb
      rw [heq] at h1
      rcases Nat.lt_or_ge i l.size with g' | g'
      · simp [g'] at hiun h1; rw [hiun] at h1; cases h1
      · simp [Array.getElem?_eq_none g'] at h1
    have hs := slide ht hi hoj (Region.free_spec hi hf j oj hoj hji hun hnot) hQ g (H.2.2 j (ready_mono hj hji))
    have hf' : Region.free md ops (l.setIfInBounds j true) i = true := by
      simp only [Region.free, hi, List.all_eq_true, List.mem_range] at hf ⊢
      intro m hm
      have := hf m hm
      by_cases hjm : j = m
      · subst hjm
        have : (l.setIfInBounds j true).getD j true = true := by
          rcases Nat.lt_or_ge j l.size with g' | g'
          · simp [g']
          · simp [Nat.not_lt.2 g']
        simp [this]
      · rw [getD_set_ne true hjm]; exact this
    refine wpOpIn_mono (fun a' w' h3 => ih (l.setIfInBounds j true) a' w' hf' (ready_mono hr (Ne.symm hji)) h3.1 ?_) hs
    rw [Array.setIfInBounds_comm _ _ hji]
    exact h3.2

/-- Number i goes first. -/
theorem take {i : Nat} {oi : Oper} {v : Value} {k : Nat} {l : Array Bool} {a : Act} {w : World} (hi : ops[i]? = some oi) (ht : tame ops = true) (hf : Region.free md ops l i = true) (hr : (Region.ready md ops l).contains i = true)
    (hQ : ∀ c a w, Q (.panic c) (a.put oi.dst v) w → Q (.panic c) a w) (g : Gives P ops S oi v a)
    (h : AnyS F n P md ops Q S k (l.setIfInBounds i true) (a.put oi.dst v) w) : AnyS F n P md ops Q S (k + 1) l a w :=
  first_of ht hi hQ k l a w hf (by simpa using hr) g h
/-- There is one that may come up, and it is no value's giver. -/
theorem only {i : Nat} {o : Oper} {k : Nat} {l : Array Bool} {a : Act} {w : World} (hi : ops[i]? = some o) (hr : Region.ready md ops l = [i]) (hS : S w)
    (h : ∀ K' : Act → World → Prop, (∀ a w, AnyS F n P md ops Q S k (l.setIfInBounds i true) a w → K' a w) → if Region.wanted o (yielded ops a.tmps) = true then Oper.wpIn F n P o a w K' Q else (∀ f, o.about P w a.eval = some f → F.fn f) ∧ K' (a.put o.dst undef) w) : AnyS F n P md ops Q S (k + 1) l a w :=
  ⟨hS, fun e => (by rw [hr] at e; cases e), fun j hj => by
    rw [hr] at hj
    obtain rfl := List.mem_singleton.1 hj
    exact wpOpIn_step hi (fun K' hK => h K' hK)⟩
theorem done {k : Nat} {l : Array Bool} {a : Act} {w : World} (hr : Region.ready md ops l = []) (hS : S w) (h : Q .normal a w) : AnyS F n P md ops Q S k l a w := by
  cases k with
  | zero => exact ⟨hS, hr, h⟩
  | succ k => exact ⟨hS, fun _ => h, by rw [hr]; simp⟩
/-- The beginning: a region that draws its order. -/
theorem begins {id : Nat} {a : Act} {w : World} (S : World → Prop) (hm : P.follows .mixedOrders = true) (h : AnyS F n P .any ops Q S ops.size (Array.replicate ops.size false) a w.drew) : (Code.region id ops true).wpIn F n P Q a w :=
  wpIn_region_any hm (AnyS.plain _ _ _ _ h)
end Oh
end Go.Proofs.Ytbedcplkcaanhaa
