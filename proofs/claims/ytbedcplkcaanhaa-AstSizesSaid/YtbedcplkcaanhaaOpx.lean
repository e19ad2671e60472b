/-
  A REGION THAT DRAWS ITS ORDER (as XOp), with facts that may speak of several operations' values at once, and an invariant that may speak of values that are not there yet: for regions that make blocks and store into them. Nothing is used up here. No program. Own work.
-/
import Derived.Test.YtbedcplkcaanhaaOpg
namespace Go.Proofs.Ytbedcplkcaanhaa
namespace Opx
open Go.RowKit Go Oq Op
set_option linter.unusedVariables false
variable {P : Program} {ops : Array Oper} {Q : Exit → Act → World → Prop} {md : Region.Mode}

theorem upd_same (x : Nat → Value) (i : Nat) (v : Value) : upd x i v i = v := by simp [upd]
theorem upd_ne {x : Nat → Value} {i j : Nat} {v : Value} (h : j ≠ i) : upd x i v j = x j := by simp [upd, h]
/-- A store. -/
theorem stored {ops0 : Array Oper} (hO : ops = ops0) {i : Nat} {p : Go.Op} {d : Option Tmp} {w w' : World} {a : Act} {K : Act → World → Prop} (h : K (a.put d undef) w') (hrun : ∀ o : Oper, o.op = p → (execOp a.eval o).run P w = .ok .skip w')
    (ho : (ops0[i]?).map (fun o => (o.op, o.dst, o.guard)) = some (p, d, none)) : wpOp P ops Q i K a w := by
  subst hO
  obtain ⟨o, h1, h2⟩ := Opg.at_ ho
  simp only [Prod.mk.injEq] at h2
  obtain ⟨h2, h3, h4⟩ := h2
  simp only [wpOp, h1]
  rw [if_pos (Opg.wanted_none h4)]
  left
  unfold Oper.wp
  rw [hrun o h2, Oper.upon_skip, h3]
  exact h
/-- What stands in the slots before. -/
def own (ds : List (Option Tmp)) (a : Act) : Nat → Value := fun i => match ds.getD i none with | some s => a.tmps.getD s undef | none => undef
section
variable {a0 : Act} {S : (Nat → Value) → World → Prop} {Post : Nat → (Nat → Value) → World → Prop}
theorem any (hap : apart ops = true) (hor : ordered md ops = true)
    (step : ∀ i o, ops[i]? = some o → ∀ x w, S x w → (∀ j, needs md o j = true → Post j x w) → ∀ K : Act → World → Prop, (∀ v w', S (upd x i v) w' → Post i (upd x i v) w' → (∀ j, j ≠ i → (∀ oj, ops[j]? = some oj → needs md oj i = false) → Post j x w → Post j (upd x i v) w') → K ((fill ops a0 x).put o.dst v) w') → wpOp P ops Q i K (fill ops a0 x) w)
    (fin : ∀ x w, S x w → (∀ j, j < ops.size → Post j x w) → Q .normal (fill ops a0 x) w) :
    ∀ (fuel : Nat) (l : Array Bool) (x : Nat → Value) (w : World), l.size = ops.size → l.toList.count false ≤ fuel → S x w →
      (∀ j, l.getD j false = true → Post j x w) →
      (∀ k o, ops[k]? = some o → l.getD k false = true → ∀ j, needs md o j = true → l.getD j false = true) →
      wpAny P md ops Q fuel l (fill ops a0 x) w := by
  have lt_of : ∀ {l : Array Bool} {j : Nat}, l.size = ops.size → l.getD j false = true → j < ops.size := fun {l j} hs h => by
    rcases Nat.lt_or_ge j l.size with g | g
    · omega
    · simp [Nat.not_lt.2 g] at h
  have finish : ∀ {l : Array Bool} {x : Nat → Value} {w : World}, l.size = ops.size → S x w → (∀ j, l.getD j false = true → Post j x w) → (∀ j, j < ops.size → l.getD j false = true) → Q .normal (fill ops a0 x) w := fun {l x w} hs hS hP hall =>
    fin x w hS fun j hj => hP j (hall j hj)
  intro fuel
  induction fuel with
  | zero =>
    intro l x w hs hc hS hP hC
    have hall : ∀ j, j < ops.size → l.getD j false = true := fun j hj => all_of_count (by omega) (by omega)
    refine ⟨?_, finish hs hS hP hall⟩
    rw [List.eq_nil_iff_forall_not_mem]
    intro j hj
    obtain ⟨hun, o, ho, _⟩ := mem_ready.1 hj
    have hlt : j < ops.size := (Array.getElem?_eq_some_iff.1 ho).1
    have := hall j hlt
    have hl : j < l.size := by omega
    simp [hl] at hun this
    rw [hun] at this
    cases this
  | succ fuel ih =>
    intro l x w hs hc hS hP hC
    refine ⟨fun hr => finish hs hS hP fun j hj => ?_, fun i hi => ?_⟩
    · induction j using Nat.strongRecOn with
      | _ j ihj =>
        by_cases hlj : l.getD j false = true
        · exact hlj
        have hl : j < l.size := by omega
        have ho : ops[j]? = some ops[j] := Array.getElem?_eq_getElem hj
        have hm : j ∈ Region.ready md ops l := by
          refine mem_ready.2 ⟨by simp [hl] at hlj ⊢; exact hlj, ops[j], ho, fun e he hb => ?_⟩
          have h1 := List.all_eq_true.1 hor j (List.mem_range.2 hj)
          rw [ho] at h1
          have h2 := Array.all_eq_true_iff_forall_mem.1 h1 e he
          have h3 : e.on < j := by simpa [hb] using h2
          exact ihj e.on h3 (by omega)
        rw [hr] at hm
        cases hm
    · obtain ⟨hun, o, ho, hall⟩ := mem_ready.1 hi
      have hlt : i < ops.size := (Array.getElem?_eq_some_iff.1 ho).1
      have hl : i < l.size := by omega
      have hni : ¬ l.getD i false = true := by
        simp [hl] at hun ⊢
        exact hun
      have hdep : ∀ j, needs md o j = true → l.getD j false = true := fun j hj => by
        obtain ⟨e, he, hb⟩ := Array.any_eq_true'.1 hj
        simp only [Bool.and_eq_true, beq_iff_eq] at hb
        rw [← hb.2]
        exact hall e he hb.1
      refine step i o ho x w hS (fun j hj => hP j (hdep j hj)) _ fun v w' hS' hPi hkeep => ?_
      · have hd : o.dst = dstOf ops i := by unfold dstOf; rw [ho]; rfl
        rw [hd, fill_put hap hlt]
        have hget : ∀ j, (l.setIfInBounds i true).getD j false = true → j = i ∨ l.getD j false = true := fun j hj => by
          by_cases hji : j = i
          · exact .inl hji
          · right; rwa [getD_set_ne false (Ne.symm hji)] at hj
        have hset : ∀ j, l.getD j false = true → (l.setIfInBounds i true).getD j false = true := fun j hj => getD_set_true hj
        have hseti : (l.setIfInBounds i true).getD i false = true := by simp [hl]
        refine ih _ _ _ (by simpa using hs) (by have := count_set hl hun; omega) hS' (fun j hj => ?_) (fun k ok hok hk j hj => ?_)
        · rcases hget j hj with rfl | hj'
          · exact hPi
          · by_cases hji : j = i
            · subst hji; exact hPi
            exact hkeep j hji (fun oj hoj => by
              cases hnd : needs md oj i
              · rfl
              · exact absurd (hC j oj hoj hj' i hnd) hni) (hP j hj')
        · rcases hget k hk with rfl | hk'
          · rw [ho] at hok; cases hok
            exact hset j (hdep j hj)
          · exact hset j (hC k ok hok hk' j hj)
/-- A region that draws its order: by what each operation leaves behind. -/
theorem begins {id : Nat} {w : World} (S : (Nat → Value) → World → Prop) (Post : Nat → (Nat → Value) → World → Prop) (ds : List (Option Tmp)) (hds : ops.toList.map (·.dst) = ds) (hm : P.follows .mixedOrders = true) (hap : apart ops = true) (hor : ordered .any ops = true) (hS : S (own ds a0) w.drew)
    (step : ∀ i o, ops[i]? = some o → ∀ x w, S x w → (∀ j, needs .any o j = true → Post j x w) → ∀ K : Act → World → Prop, (∀ v w', S (upd x i v) w' → Post i (upd x i v) w' → (∀ j, j ≠ i → (∀ oj, ops[j]? = some oj → needs .any oj i = false) → Post j x w → Post j (upd x i v) w') → K ((fill ops a0 x).put o.dst v) w') → wpOp P ops Q i K (fill ops a0 x) w)
    (fin : ∀ x w, S x w → (∀ j, j < ops.size → Post j x w) → Q .normal (fill ops a0 x) w) : (Code.region id ops true).wp P Q a0 w := by
  refine wp_region_any hm ?_
  have hx : fill ops a0 (own ds a0) = a0 := by
    have e : own ds a0 = fun i => match dstOf ops i with | some s => a0.tmps.getD s undef | none => undef := by
      funext i
      unfold own dstOf
      subst hds
      rw [List.getD_eq_getElem?_getD, List.getElem?_map, Array.getElem?_toList]
      cases ops[i]? <;> rfl
    rw [e]
    exact fillTo_own a0 _
  rw [← hx]
  have hz : ∀ j, (Array.replicate ops.size false).getD j false = false := fun j => by
    rcases Nat.lt_or_ge j ops.size with g | g
    · simp [g]
    · simp [Nat.not_lt.2 g]
  refine any (S := S) (Post := Post) (a0 := a0) hap hor step fin _ _ (own ds a0) _ (by simp) ?_ hS (fun j hj => ?_) (fun k o _ hk => ?_)
  · exact Nat.le_trans List.count_le_length (by simp)
  · rw [hz] at hj; cases hj
  · rw [hz] at hk; cases hk
end
/-- A region that draws its order, its operations and its frame opaque in each step. -/
theorem starts {a0 : Act} {id : Nat} {w : World} (ds : List (Option Tmp)) (S : (Nat → Value) → World → Prop) (Post : Nat → (Nat → Value) → World → Prop) (m : Nat) (hm0 : ops.size = m) (hds : ops.toList.map (·.dst) = ds) (hm : P.follows .mixedOrders = true) (hap : apart ops = true) (hor : ordered .any ops = true) (hS : S (own ds a0) w.drew)
    (step : ∀ i, i < m → ∀ x w, S x w → (∀ j, dep ops i j = true → Post j x w) → ∀ (ops' : Array Oper) (Q' : Exit → Act → World → Prop) (a : Act) (K : Act → World → Prop), ops' = ops → a = fillD x ds 0 a0 → (∀ v w', S (upd x i v) w' → Post i (upd x i v) w' → (∀ j, j ≠ i → dep ops j i = false → Post j x w → Post j (upd x i v) w') → K (a.put (ds.getD i none) v) w') → wpOp P ops' Q' i K a w)
    (fin : ∀ x w, S x w → (∀ j, j < m → Post j x w) → Q .normal (fillD x ds 0 a0) w) : (Code.region id ops true).wp P Q a0 w := by
  subst hm0
  refine begins S Post ds hds hm hap hor hS (fun i o ho x w h1 h2 K h3 => ?_) (fun x w h1 h2 => ?_)
  · rw [fill_D x a0 hds] at h3 ⊢
    have hi : i < ops.size := (Array.getElem?_eq_some_iff.1 ho).1
    have hd : ds.getD i none = o.dst := by
      rw [← hds, List.getD_eq_getElem?_getD, List.getElem?_map, Array.getElem?_toList, ho]
      rfl
    refine step i hi x w h1 (fun j hj => h2 j ?_) ops Q _ K rfl rfl ?_
    · unfold dep at hj; rw [ho] at hj; exact hj
    · rw [hd]
      exact fun v w' k1 k2 k3 => h3 v w' k1 k2 fun j g1 g2 g3 => k3 j g1 (by
        unfold dep
        cases ho' : ops[j]? with
        | none => rfl
        | some oj => exact g2 oj ho') g3
  · rw [fill_D x a0 hds]
    exact fin x w h1 h2
end Opx
end Go.Proofs.Ytbedcplkcaanhaa
