/-
  A REGION THAT DRAWS ITS ORDER, BY WHAT EACH OPERATION LEAVES BEHIND (XOq), outside of a fence; and the frame by its slots alone. No program. Own work.
-/
import Derived.OrdersIn
import Derived.TacticsIn
import Derived.WalkKit
import Derived.Test.YtbedcplkcaanhaaProg
namespace Go.Proofs.Ytbedcplkcaanhaa
namespace Oq
open Go.RowKit Go
set_option linter.unusedVariables false
variable {F : Fence} {n : Nat} {P : Program} {ops : Array Oper} {Q : Exit → Act → World → Prop} {md : Region.Mode}

def dstOf (ops : Array Oper) (i : Nat) : Option Tmp := (ops[i]?).bind (·.dst)
def upd (x : Nat → Value) (i : Nat) (v : Value) : Nat → Value := fun j => if j = i then v else x j
def fillTo (ops : Array Oper) (x : Nat → Value) : Nat → Act → Act
  | 0, a => a
  | k + 1, a => (fillTo ops x k a).put (dstOf ops k) (x k)
/-- The frame a with each operation's value in its slot. -/
def fill (ops : Array Oper) (a : Act) (x : Nat → Value) : Act := fillTo ops x ops.size a
def needs (md : Region.Mode) (o : Oper) (j : Nat) : Bool := o.after.any fun e => Region.binds md e && e.on == j
/-- What it needs for more than the order of phases. -/
def wants (md : Region.Mode) (o : Oper) (j : Nat) : Bool := o.after.any fun e => Region.binds md e && (match e.ground with | .phase => false | _ => true) && e.on == j
theorem needs_of {md : Region.Mode} {o : Oper} {j : Nat} (h : wants md o j = true) : needs md o j = true := by
  obtain ⟨e, he, hb⟩ := Array.any_eq_true'.1 h
  refine Array.any_eq_true'.2 ⟨e, he, ?_⟩
  simp only [Bool.and_eq_true] at hb ⊢
  exact ⟨hb.1.1, hb.2⟩
/-- No two have one slot. -/
def apart (ops : Array Oper) : Bool := (List.range ops.size).all fun i => (List.range ops.size).all fun j => i == j || (match dstOf ops i, dstOf ops j with | some s, some t => s != t | _, _ => true)
/-- What must go before has a lower number. -/
def ordered (md : Region.Mode) (ops : Array Oper) : Bool := (List.range ops.size).all fun i => match ops[i]? with | some o => o.after.all (fun e => !Region.binds md e || decide (e.on < i)) | none => true
/-- What uses a fact up comes after all others that want it. -/
def spared (md : Region.Mode) (ops : Array Oper) (kills : Nat → Nat → Bool) : Bool :=
  (List.range ops.size).all fun k => match ops[k]? with | none => true | some ok => (List.range ops.size).all fun j => !kills k j || (List.range ops.size).all fun i => match ops[i]? with | none => true | some oi => !wants md oi j || (k == i || needs md ok i)

theorem put_put (a : Act) (d : Option Tmp) (u v : Value) : (a.put d u).put d v = a.put d v := by
  cases d with
  | none => rfl
  | some s => simp [Act.put, Array.setIfInBounds_setIfInBounds]
theorem apart_spec (h : apart ops = true) {i j : Nat} (hi : i < ops.size) (hj : j < ops.size) (hne : i ≠ j) : ∀ s, dstOf ops i = some s → dstOf ops j ≠ some s := by
  intro s h1 h2
  simp only [apart, List.all_eq_true, List.mem_range] at h
  have := h i hi j hj
  rw [h1, h2] at this
  simp [hne] at this
theorem fillTo_upd_ge {x : Nat → Value} {i : Nat} {v : Value} {a : Act} : ∀ k, k ≤ i → fillTo ops (upd x i v) k a = fillTo ops x k a
  | 0, _ => rfl
  | k + 1, h => by rw [fillTo, fillTo, fillTo_upd_ge k (by omega)]; simp [upd, show k ≠ i by omega]
theorem fillTo_put (h : apart ops = true) {x : Nat → Value} {i : Nat} {v : Value} {a : Act} (hi : i < ops.size) : ∀ k, i < k → k ≤ ops.size → (fillTo ops x k a).put (dstOf ops i) v = fillTo ops (upd x i v) k a
  | 0, h0, _ => by omega
  | k + 1, h1, h2 => by
    rw [fillTo, fillTo]
    by_cases hk : i = k
    · subst hk
      rw [put_put, fillTo_upd_ge i (Nat.le_refl _)]
      simp [upd]
    · rw [Act.put_comm _ _ _ (apart_spec h (by omega : k < ops.size) hi (Ne.symm hk)), fillTo_put h hi k (by omega) (by omega)]
      simp [upd, show k ≠ i by omega]
theorem fill_put (h : apart ops = true) {x : Nat → Value} {i : Nat} {v : Value} {a : Act} (hi : i < ops.size) : (fill ops a x).put (dstOf ops i) v = fill ops a (upd x i v) := fillTo_put h hi _ hi (Nat.le_refl _)
theorem put_own (a : Act) (d : Option Tmp) : a.put d (match d with | some s => a.tmps.getD s undef | none => undef) = a := by
  cases d with
  | none => rfl
  | some s =>
    unfold Act.put
    dsimp only
    have : a.tmps.setIfInBounds s (a.tmps.getD s undef) = a.tmps := by
      apply Array.ext
      · simp
      · intro i h1 h2
        rw [Array.getElem_setIfInBounds (by simpa using h2)]
        split
        · rename_i e; subst e; simp [h2]
        · rfl
    rw [this]
theorem fillTo_own (a : Act) : ∀ k, fillTo ops (fun i => match dstOf ops i with | some s => a.tmps.getD s undef | none => undef) k a = a
  | 0 => rfl
  | k + 1 => by rw [fillTo, fillTo_own a k]; exact put_own a _
theorem fill_own (a : Act) : ∃ x, fill ops a x = a := ⟨_, fillTo_own a _⟩

theorem count_set {l : Array Bool} {i : Nat} (hi : i < l.size) (h : l.getD i true = false) : (l.setIfInBounds i true).toList.count false + 1 = l.toList.count false := by
  have hg : l.toList[i]? = some false := by
    rw [Array.getElem?_toList, Array.getElem?_eq_getElem hi]
    simp [hi] at h
    rw [h]
  rw [Array.toList_setIfInBounds]
  generalize l.toList = m at hg
  clear h hi
  induction m generalizing i with
  | nil => simp at hg
  | cons b m ih =>
    cases i with
    | zero => simp at hg; subst hg; simp
    | succ i =>
      simp only [List.getElem?_cons_succ] at hg
      have := ih hg
      simp only [List.set_cons_succ, List.count_cons]
      omega
theorem all_of_count {l : Array Bool} (h : l.toList.count false = 0) {j : Nat} (hj : j < l.size) : l.getD j false = true := by
  have := List.count_eq_zero.1 h
  have hm : l.toList[j]'(by simpa using hj) ∈ l.toList := List.getElem_mem _
  simp only [Array.getElem_toList] at hm
  have hne : l[j] ≠ false := fun e => this (by rw [e] at hm; exact hm)
  simpa [hj] using hne

section
variable {a0 : Act} {S : World → Prop} {Post : Nat → Value → World → Prop} {kills : Nat → Nat → Bool}
theorem any (hap : apart ops = true) (hor : ordered md ops = true) (hsp : spared md ops kills = true)
    (step : ∀ i o, ops[i]? = some o → ∀ x w, S w → (∀ j, wants md o j = true → Post j (x j) w) → ∀ K : Act → World → Prop, (∀ v w', S w' → Post i v w' → (∀ j u, kills i j = false → j ≠ i → (∀ oj, ops[j]? = some oj → needs md oj i = false) → Post j u w → Post j u w') → K ((fill ops a0 x).put o.dst v) w') → wpOpIn F n P ops Q i K (fill ops a0 x) w)
    (fin : ∀ x w, S w → (∀ j, j < ops.size → (∀ k, k < ops.size → kills k j = false) → Post j (x j) w) → Q .normal (fill ops a0 x) w) :
    ∀ (fuel : Nat) (l : Array Bool) (x : Nat → Value) (w : World), l.size = ops.size → l.toList.count false ≤ fuel → S w →
      (∀ j, l.getD j false = true → (∀ k, l.getD k false = true → kills k j = false) → Post j (x j) w) →
      (∀ k o, ops[k]? = some o → l.getD k false = true → ∀ j, needs md o j = true → l.getD j false = true) →
      wpAnyIn F n P md ops Q fuel l (fill ops a0 x) w := by
  have lt_of : ∀ {l : Array Bool} {j : Nat}, l.size = ops.size → l.getD j false = true → j < ops.size := fun {l j} hs h => by
    rcases Nat.lt_or_ge j l.size with g | g
    · omega
    · simp [Nat.not_lt.2 g] at h
  have finish : ∀ {l : Array Bool} {x : Nat → Value} {w : World}, l.size = ops.size → S w → (∀ j, l.getD j false = true → (∀ k, l.getD k false = true → kills k j = false) → Post j (x j) w) → (∀ j, j < ops.size → l.getD j false = true) → Q .normal (fill ops a0 x) w := fun {l x w} hs hS hP hall =>
    fin x w hS fun j hj hk => hP j (hall j hj) fun k hk' => hk k (lt_of hs hk')
  intro fuel
  induction fuel with
  | zero =>
    intro l x w hs hc hS hP hC
    have hall : ∀ j, j < ops.size → l.getD j false = true := fun j hj => all_of_count (by omega) (by omega)
    refine ⟨?_, finish hs hS hP hall⟩
    rw [List.eq_nil_iff_forall_not_mem]
    intro j hj
    obtain ⟨hun, o, ho, _⟩ := mem_ready.1 hj
    have hlt : j < ops.size := (Array.getElem?_eq_some_iff.1 ho).1
    have := hall j hlt
    have hl : j < l.size := by omega
    simp [hl] at hun this
    rw [hun] at this
    cases this
  | succ fuel ih =>
    intro l x w hs hc hS hP hC
    refine ⟨fun hr => finish hs hS hP fun j hj => ?_, fun i hi => ?_⟩
    · induction j using Nat.strongRecOn with
      | _ j ihj =>
        by_cases hlj : l.getD j false = true
        · exact hlj
        have hl : j < l.size := by omega
        have ho : ops[j]? = some ops[j] := Array.getElem?_eq_getElem hj
        have hm : j ∈ Region.ready md ops l := by
          refine mem_ready.2 ⟨by simp [hl] at hlj ⊢; exact hlj, ops[j], ho, fun e he hb => ?_⟩
          have h1 := List.all_eq_true.1 hor j (List.mem_range.2 hj)
          rw [ho] at h1
          have h2 := Array.all_eq_true_iff_forall_mem.1 h1 e he
          have h3 : e.on < j := by simpa [hb] using h2
          exact ihj e.on h3 (by omega)
        rw [hr] at hm
        cases hm
    · obtain ⟨hun, o, ho, hall⟩ := mem_ready.1 hi
      have hlt : i < ops.size := (Array.getElem?_eq_some_iff.1 ho).1
      have hl : i < l.size := by omega
      have hni : ¬ l.getD i false = true := by
        simp [hl] at hun ⊢
        exact hun
      have hdep : ∀ j, needs md o j = true → l.getD j false = true := fun j hj => by
        obtain ⟨e, he, hb⟩ := Array.any_eq_true'.1 hj
        simp only [Bool.and_eq_true, beq_iff_eq] at hb
        rw [← hb.2]
        exact hall e he hb.1
      refine step i o ho x w hS (fun j hj => hP j (hdep j (needs_of hj)) fun k hk => ?_) _ fun v w' hS' hPi hkeep => ?_
      · cases hkj : kills k j
        · rfl
        exfalso
        have hklt := lt_of hs hk
        have hjlt := lt_of hs (hdep j (needs_of hj))
        have hok : ops[k]? = some ops[k] := Array.getElem?_eq_getElem hklt
        have h1 := List.all_eq_true.1 hsp k (List.mem_range.2 hklt)
        rw [hok] at h1
        have h2 := List.all_eq_true.1 h1 j (List.mem_range.2 hjlt)
        rw [hkj, Bool.not_true, Bool.false_or] at h2
        have h3 := List.all_eq_true.1 h2 i (List.mem_range.2 hlt)
        rw [ho] at h3
        dsimp only at h3
        rw [hj, Bool.not_true, Bool.false_or, Bool.or_eq_true, beq_iff_eq] at h3
        rcases h3 with rfl | h3
        · exact hni hk
        · exact hni (hC k _ hok hk i h3)
      · have hd : o.dst = dstOf ops i := by unfold dstOf; rw [ho]; rfl
        rw [hd, fill_put hap hlt]
        have hget : ∀ j, (l.setIfInBounds i true).getD j false = true → j = i ∨ l.getD j false = true := fun j hj => by
          by_cases hji : j = i
          · exact .inl hji
          · right; rwa [getD_set_ne false (Ne.symm hji)] at hj
        have hset : ∀ j, l.getD j false = true → (l.setIfInBounds i true).getD j false = true := fun j hj => getD_set_true hj
        have hseti : (l.setIfInBounds i true).getD i false = true := by simp [hl]
        refine ih _ _ _ (by simpa using hs) (by have := count_set hl hun; omega) hS' (fun j hj hk => ?_) (fun k ok hok hk j hj => ?_)
        · rcases hget j hj with rfl | hj'
          · simpa [upd] using hPi
          · by_cases hji : j = i
            · subst hji; simpa [upd] using hPi
            have := hkeep j (x j) (hk i hseti) hji (fun oj hoj => by
              cases hnd : needs md oj i
              · rfl
              · exact absurd (hC j oj hoj hj' i hnd) hni) (hP j hj' fun k hk' => hk k (hset k hk'))
            simpa [upd, hji] using this
        · rcases hget k hk with rfl | hk'
          · rw [ho] at hok; cases hok
            exact hset j (hdep j hj)
          · exact hset j (hC k ok hok hk' j hj)
/-- A region that draws its order: by what each operation leaves behind. -/
theorem begins {id : Nat} {w : World} (S : World → Prop) (Post : Nat → Value → World → Prop) (kills : Nat → Nat → Bool) (hm : P.follows .mixedOrders = true) (hap : apart ops = true) (hor : ordered .any ops = true) (hsp : spared .any ops kills = true) (hS : S w.drew)
    (step : ∀ i o, ops[i]? = some o → ∀ x w, S w → (∀ j, wants .any o j = true → Post j (x j) w) → ∀ K : Act → World → Prop, (∀ v w', S w' → Post i v w' → (∀ j u, kills i j = false → j ≠ i → (∀ oj, ops[j]? = some oj → needs .any oj i = false) → Post j u w → Post j u w') → K ((fill ops a0 x).put o.dst v) w') → wpOpIn F n P ops Q i K (fill ops a0 x) w)
    (fin : ∀ x w, S w → (∀ j, j < ops.size → (∀ k, k < ops.size → kills k j = false) → Post j (x j) w) → Q .normal (fill ops a0 x) w) : (Code.region id ops true).wpIn F n P Q a0 w := by
  refine wpIn_region_any hm ?_
  obtain ⟨x, hx⟩ := fill_own (ops := ops) a0
  rw [← hx]
  have hz : ∀ j, (Array.replicate ops.size false).getD j false = false := fun j => by
    rcases Nat.lt_or_ge j ops.size with g | g
    · simp [g]
    · simp [Nat.not_lt.2 g]
  refine any (Post := Post) hap hor hsp step fin _ _ x _ (by simp) ?_ hS (fun j hj => ?_) (fun k o _ hk => ?_)
  · exact Nat.le_trans List.count_le_length (by simp)
  · rw [hz] at hj; cases hj
  · rw [hz] at hk; cases hk
end
/-- A value's giver. -/
theorem value {i : Nat} {o : Oper} {v : Value} {w w' : World} {a : Act} {K : Act → World → Prop} (hi : ops[i]? = some o) (hat : ∀ r, o.semAt r a.eval = execOp a.eval o) (hab : o.about P w a.eval = none) (hw : Region.wanted o (yielded ops a.tmps) = true) (hrun : (execOp a.eval o).run P w = .ok (.value v) w') (h : K (a.put o.dst v) w') : wpOpIn F n P ops Q i K a w := by
  simp only [wpOpIn, hi]
  rw [if_pos hw]
  refine ⟨fun f hf => (by rw [hab] at hf; cases hf), ?_⟩
  rw [hat, hrun]
  exact h
/-- One that is not wanted. -/
theorem idle {i : Nat} {o : Oper} {w : World} {a : Act} {K : Act → World → Prop} (hi : ops[i]? = some o) (hab : o.about P w a.eval = none) (hw : Region.wanted o (yielded ops a.tmps) = false) (h : K (a.put o.dst undef) w) : wpOpIn F n P ops Q i K a w := by
  simp only [wpOpIn, hi]
  rw [if_neg (by simp [hw])]
  exact ⟨fun f hf => (by rw [hab] at hf; cases hf), h⟩
end Oq
end Go.Proofs.Ytbedcplkcaanhaa
namespace Go.Proofs.Ytbedcplkcaanhaa
namespace Op
open Go.RowKit Go Oq
set_option linter.unusedVariables false
variable {P : Program} {ops : Array Oper} {Q : Exit → Act → World → Prop} {md : Region.Mode}

/-- Values into slots. -/
def fillD (x : Nat → Value) : List (Option Tmp) → Nat → Act → Act
  | [], _, a => a
  | d :: ds, i, a => fillD x ds (i + 1) (a.put d (x i))
theorem fillD_one (x : Nat → Value) (d : Option Tmp) : ∀ (ds : List (Option Tmp)) (i : Nat) (a : Act), fillD x (ds ++ [d]) i a = (fillD x ds i a).put d (x (i + ds.length))
  | [], i, a => rfl
  | c :: ds, i, a => by
    rw [List.cons_append, fillD, fillD, fillD_one x d ds (i + 1)]
    simp [Nat.add_comm, Nat.add_left_comm]
theorem fillTo_D (x : Nat → Value) (a : Act) : ∀ k, k ≤ ops.size → fillTo ops x k a = fillD x ((ops.toList.map (·.dst)).take k) 0 a
  | 0, _ => rfl
  | k + 1, h => by
    have hk : k < ops.size := by omega
    have hd : (ops.toList.map (·.dst)).take (k + 1) = (ops.toList.map (·.dst)).take k ++ [ops[k].dst] := by
      rw [List.take_add_one]
      simp [hk]
    have hl : ((ops.toList.map (·.dst)).take k).length = k := by simp; omega
    rw [fillTo, fillTo_D x a k (by omega), hd, fillD_one, hl, Nat.zero_add]
    simp [dstOf, hk]
theorem fill_D (x : Nat → Value) (a : Act) {ds : List (Option Tmp)} (h : ops.toList.map (·.dst) = ds) : fill ops a x = fillD x ds 0 a := by
  unfold fill
  rw [fillTo_D x a _ (Nat.le_refl _), List.take_of_length_le (by simp), h]
section
variable {a0 : Act} {S : World → Prop} {Post : Nat → Value → World → Prop} {kills : Nat → Nat → Bool}
theorem any (hap : apart ops = true) (hor : ordered md ops = true) (hsp : spared md ops kills = true)
    (step : ∀ i o, ops[i]? = some o → ∀ x w, S w → (∀ j, wants md o j = true → Post j (x j) w) → ∀ K : Act → World → Prop, (∀ v w', S w' → Post i v w' → (∀ j u, kills i j = false → j ≠ i → (∀ oj, ops[j]? = some oj → needs md oj i = false) → Post j u w → Post j u w') → K ((fill ops a0 x).put o.dst v) w') → wpOp P ops Q i K (fill ops a0 x) w)
    (fin : ∀ x w, S w → (∀ j, j < ops.size → (∀ k, k < ops.size → kills k j = false) → Post j (x j) w) → Q .normal (fill ops a0 x) w) :
    ∀ (fuel : Nat) (l : Array Bool) (x : Nat → Value) (w : World), l.size = ops.size → l.toList.count false ≤ fuel → S w →
      (∀ j, l.getD j false = true → (∀ k, l.getD k false = true → kills k j = false) → Post j (x j) w) →
      (∀ k o, ops[k]? = some o → l.getD k false = true → ∀ j, needs md o j = true → l.getD j false = true) →
      wpAny P md ops Q fuel l (fill ops a0 x) w := by
  have lt_of : ∀ {l : Array Bool} {j : Nat}, l.size = ops.size → l.getD j false = true → j < ops.size := fun {l j} hs h => by
    rcases Nat.lt_or_ge j l.size with g | g
    · omega
    · simp [Nat.not_lt.2 g] at h
  have finish : ∀ {l : Array Bool} {x : Nat → Value} {w : World}, l.size = ops.size → S w → (∀ j, l.getD j false = true → (∀ k, l.getD k false = true → kills k j = false) → Post j (x j) w) → (∀ j, j < ops.size → l.getD j false = true) → Q .normal (fill ops a0 x) w := fun {l x w} hs hS hP hall =>
    fin x w hS fun j hj hk => hP j (hall j hj) fun k hk' => hk k (lt_of hs hk')
  intro fuel
  induction fuel with
  | zero =>
    intro l x w hs hc hS hP hC
    have hall : ∀ j, j < ops.size → l.getD j false = true := fun j hj => all_of_count (by omega) (by omega)
    refine ⟨?_, finish hs hS hP hall⟩
    rw [List.eq_nil_iff_forall_not_mem]
    intro j hj
    obtain ⟨hun, o, ho, _⟩ := mem_ready.1 hj
    have hlt : j < ops.size := (Array.getElem?_eq_some_iff.1 ho).1
    have := hall j hlt
    have hl : j < l.size := by omega
    simp [hl] at hun this
    rw [hun] at this
    cases this
  | succ fuel ih =>
    intro l x w hs hc hS hP hC
    refine ⟨fun hr => finish hs hS hP fun j hj => ?_, fun i hi => ?_⟩
    · induction j using Nat.strongRecOn with
      | _ j ihj =>
        by_cases hlj : l.getD j false = true
        · exact hlj
        have hl : j < l.size := by omega
        have ho : ops[j]? = some ops[j] := Array.getElem?_eq_getElem hj
        have hm : j ∈ Region.ready md ops l := by
          refine mem_ready.2 ⟨by simp [hl] at hlj ⊢; exact hlj, ops[j], ho, fun e he hb => ?_⟩
          have h1 := List.all_eq_true.1 hor j (List.mem_range.2 hj)
          rw [ho] at h1
          have h2 := Array.all_eq_true_iff_forall_mem.1 h1 e he
          have h3 : e.on < j := by simpa [hb] using h2
          exact ihj e.on h3 (by omega)
        rw [hr] at hm
        cases hm
    · obtain ⟨hun, o, ho, hall⟩ := mem_ready.1 hi
      have hlt : i < ops.size := (Array.getElem?_eq_some_iff.1 ho).1
      have hl : i < l.size := by omega
      have hni : ¬ l.getD i false = true := by
        simp [hl] at hun ⊢
        exact hun
      have hdep : ∀ j, needs md o j = true → l.getD j false = true := fun j hj => by
        obtain ⟨e, he, hb⟩ := Array.any_eq_true'.1 hj
        simp only [Bool.and_eq_true, beq_iff_eq] at hb
        rw [← hb.2]
        exact hall e he hb.1
      refine step i o ho x w hS (fun j hj => hP j (hdep j (needs_of hj)) fun k hk => ?_) _ fun v w' hS' hPi hkeep => ?_
      · cases hkj : kills k j
        · rfl
        exfalso
        have hklt := lt_of hs hk
        have hjlt := lt_of hs (hdep j (needs_of hj))
        have hok : ops[k]? = some ops[k] := Array.getElem?_eq_getElem hklt
        have h1 := List.all_eq_true.1 hsp k (List.mem_range.2 hklt)
        rw [hok] at h1
        have h2 := List.all_eq_true.1 h1 j (List.mem_range.2 hjlt)
        rw [hkj, Bool.not_true, Bool.false_or] at h2
        have h3 := List.all_eq_true.1 h2 i (List.mem_range.2 hlt)
        rw [ho] at h3
        dsimp only at h3
        rw [hj, Bool.not_true, Bool.false_or, Bool.or_eq_true, beq_iff_eq] at h3
        rcases h3 with rfl | h3
        · exact hni hk
        · exact hni (hC k _ hok hk i h3)
      · have hd : o.dst = dstOf ops i := by unfold dstOf; rw [ho]; rfl
        rw [hd, fill_put hap hlt]
        have hget : ∀ j, (l.setIfInBounds i true).getD j false = true → j = i ∨ l.getD j false = true := fun j hj => by
          by_cases hji : j = i
          · exact .inl hji
          · right; rwa [getD_set_ne false (Ne.symm hji)] at hj
        have hset : ∀ j, l.getD j false = true → (l.setIfInBounds i true).getD j false = true := fun j hj => getD_set_true hj
        have hseti : (l.setIfInBounds i true).getD i false = true := by simp [hl]
        refine ih _ _ _ (by simpa using hs) (by have := count_set hl hun; omega) hS' (fun j hj hk => ?_) (fun k ok hok hk j hj => ?_)
        · rcases hget j hj with rfl | hj'
          · simpa [upd] using hPi
          · by_cases hji : j = i
            · subst hji; simpa [upd] using hPi
            have := hkeep j (x j) (hk i hseti) hji (fun oj hoj => by
              cases hnd : needs md oj i
              · rfl
              · exact absurd (hC j oj hoj hj' i hnd) hni) (hP j hj' fun k hk' => hk k (hset k hk'))
            simpa [upd, hji] using this
        · rcases hget k hk with rfl | hk'
          · rw [ho] at hok; cases hok
            exact hset j (hdep j hj)
          · exact hset j (hC k ok hok hk' j hj)
/-- A region that draws its order: by what each operation leaves behind. -/
theorem begins {id : Nat} {w : World} (S : World → Prop) (Post : Nat → Value → World → Prop) (kills : Nat → Nat → Bool) (hm : P.follows .mixedOrders = true) (hap : apart ops = true) (hor : ordered .any ops = true) (hsp : spared .any ops kills = true) (hS : S w.drew)
    (step : ∀ i o, ops[i]? = some o → ∀ x w, S w → (∀ j, wants .any o j = true → Post j (x j) w) → ∀ K : Act → World → Prop, (∀ v w', S w' → Post i v w' → (∀ j u, kills i j = false → j ≠ i → (∀ oj, ops[j]? = some oj → needs .any oj i = false) → Post j u w → Post j u w') → K ((fill ops a0 x).put o.dst v) w') → wpOp P ops Q i K (fill ops a0 x) w)
    (fin : ∀ x w, S w → (∀ j, j < ops.size → (∀ k, k < ops.size → kills k j = false) → Post j (x j) w) → Q .normal (fill ops a0 x) w) : (Code.region id ops true).wp P Q a0 w := by
  refine wp_region_any hm ?_
  obtain ⟨x, hx⟩ := fill_own (ops := ops) a0
  rw [← hx]
  have hz : ∀ j, (Array.replicate ops.size false).getD j false = false := fun j => by
    rcases Nat.lt_or_ge j ops.size with g | g
    · simp [g]
    · simp [Nat.not_lt.2 g]
  refine any (Post := Post) hap hor hsp step fin _ _ x _ (by simp) ?_ hS (fun j hj => ?_) (fun k o _ hk => ?_)
  · exact Nat.le_trans List.count_le_length (by simp)
  · rw [hz] at hj; cases hj
  · rw [hz] at hk; cases hk
end
/-- What number i waits for. -/
def dep (ops : Array Oper) (i j : Nat) : Bool := match ops[i]? with | some o => needs .any o j | none => false
/-- What it waits for, for more than the order of phases. -/
def use (ops : Array Oper) (i j : Nat) : Bool := match ops[i]? with | some o => wants .any o j | none => false
/-- A region that draws its order: by what each operation leaves behind, and the slots written out. -/
theorem starts {a0 : Act} {id : Nat} {w : World} (ds : List (Option Tmp)) (S : World → Prop) (Post : Nat → Value → World → Prop) (kills : Nat → Nat → Bool) (m : Nat) (hm0 : ops.size = m) (hds : ops.toList.map (·.dst) = ds) (hm : P.follows .mixedOrders = true) (hap : apart ops = true) (hor : ordered .any ops = true) (hsp : spared .any ops kills = true) (hS : S w.drew)
    (step : ∀ i, i < m → ∀ x w, S w → (∀ j, use ops i j = true → Post j (x j) w) → ∀ K : Act → World → Prop, (∀ v w', S w' → Post i v w' → (∀ j u, kills i j = false → j ≠ i → dep ops j i = false → Post j u w → Post j u w') → K ((fillD x ds 0 a0).put (ds.getD i none) v) w') → wpOp P ops Q i K (fillD x ds 0 a0) w)
    (fin : ∀ x w, S w → (∀ j, j < m → (∀ k, k < m → kills k j = false) → Post j (x j) w) → Q .normal (fillD x ds 0 a0) w) : (Code.region id ops true).wp P Q a0 w := by
  subst hm0
  refine begins S Post kills hm hap hor hsp hS (fun i o ho x w h1 h2 K h3 => ?_) (fun x w h1 h2 => ?_)
  · rw [fill_D x a0 hds] at h3 ⊢
    have hi : i < ops.size := (Array.getElem?_eq_some_iff.1 ho).1
    have hd : ds.getD i none = o.dst := by
      rw [← hds, List.getD_eq_getElem?_getD, List.getElem?_map, Array.getElem?_toList, ho]
      rfl
    refine step i hi x w h1 (fun j hj => h2 j ?_) K ?_
    · unfold use at hj; rw [ho] at hj; exact hj
    · rw [hd]
      exact fun v w' k1 k2 k3 => h3 v w' k1 k2 fun j u g1 g2 g3 => k3 j u g1 g2 (by
        unfold dep
        cases ho' : ops[j]? with
        | none => rfl
        | some oj => exact g3 oj ho')
  · rw [fill_D x a0 hds]
    exact fin x w h1 h2
/-- A value's giver. -/
theorem value {i : Nat} {o : Oper} {v : Value} {w w' : World} {a : Act} {K : Act → World → Prop} (hi : ops[i]? = some o) (hw : Region.wanted o (yielded ops a.tmps) = true) (hrun : (execOp a.eval o).run P w = .ok (.value v) w') (h : K (a.put o.dst v) w') : wpOp P ops Q i K a w := by
  simp only [wpOp, hi]
  rw [if_pos hw]
  left
  unfold Oper.wp
  rw [hrun]
  exact h
/-- One that is not wanted. -/
theorem idle {i : Nat} {o : Oper} {w : World} {a : Act} {K : Act → World → Prop} (hi : ops[i]? = some o) (hw : Region.wanted o (yielded ops a.tmps) = false) (h : K (a.put o.dst undef) w) : wpOp P ops Q i K a w := by
  simp only [wpOp, hi]
  rw [if_neg (by simp [hw])]
  exact h
/-- A call. -/
theorem called {i : Nat} {o : Oper} {w w1 : World} {a : Act} {K : Act → World → Prop} {f : FuncId} {args : Array Value} (hi : ops[i]? = some o) (hw : Region.wanted o (yielded ops a.tmps) = true) (hrun : (execOp a.eval o).run P w = .ok (.enter f args) w1) (h : Calls P f args w1 fun e w' => ∃ v, e = .returned v ∧ K (a.put o.dst v) w') : wpOp P ops Q i K a w := by
  simp only [wpOp, hi]
  rw [if_pos hw]
  left
  unfold Oper.wp
  rw [hrun, Oper.upon_enter]
  refine h.mono ?_
  rintro e w' ⟨v, rfl, hk⟩
  exact hk
end Op
end Go.Proofs.Ytbedcplkcaanhaa
