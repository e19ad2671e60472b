/-
  A SET OF NUMBERS IN A map[int]bool THAT THE CALL MAKES: made, read, written. Own work.
-/
import Derived.Test.YtaeblnlbelebkaaDoorImOrder
import Derived.Maps.OwnSet
import Derived.Maps.Own
namespace Go.Proofs.YtaeblnlbelebkaaDoor
namespace Im
open Go.RowKit Go Go.Maps
open Co (Kp ret_int ret_bool ret2_int In in0 IIn Ics Wf)
open Ln (VIn Vcs)
set_option linter.unusedVariables false

theorem lawK : Keyed Tryd.prog 3 := int_keyed Tryd.underlying3
theorem zeroB (w : World) : (zeroValue 4).run Tryd.prog w = .ok (.bool false) w := by kernel_rfl
/-- Block M is a map of at most n entries that says 't x' at each number x. -/
def MapB (w : World) (M n : Nat) (t : Int → Bool) : Prop := ∃ D : DataW Unit, w.ownsMap Tryd.prog 3 (plainElem Tryd.prog 4) M n D ∧ IsMap D ∧ ∀ x : Int, D.atKey (.int .i64 x) (.lit (.bool false)) = .lit (.bool (t x))
theorem MapB.new (w : World) : MapB (w.alloc (.map #[] 0)) w.heap.size 0 (fun _ => false) :=
  ⟨.map [], World.ownsMap_made _ _ _ _, isMap_empty, fun x => rfl⟩
theorem MapB.kp {w w' : World} {M n : Nat} {t : Int → Bool} (h : MapB w M n t) (k : Kp w w') : MapB w' M n t := by
  obtain ⟨D, ho, hD, ht⟩ := h
  have hlt := ho.lt
  obtain ⟨es, clock, hb, F, hs, e⟩ := ho
  exact ⟨D, ⟨es, clock, (k.below.block M hlt).trans hb, F, hs, e⟩, hD, ht⟩
theorem MapB.lt {w : World} {M n : Nat} {t : Int → Bool} (h : MapB w M n t) : M < w.heap.size := by
  obtain ⟨D, ho, _⟩ := h
  exact ho.lt
theorem plainElem_bool_inv {H : Type} {P : Program} {e : TypeId} (he : P.underlying e = some .bool) {v : Value} {z : DataW H × List MemPlace} (h : plainElem P e v = some z) : ∃ a, v = .bool a ∧ z = (.lit (.bool a), []) := by
  unfold plainElem at h
  rw [he] at h
  cases v <;> simp at h
  exact ⟨_, rfl, h.symm⟩
theorem MapB.look {w : World} {M n : Nat} {t : Int → Bool} (h : MapB w M n t) (x : Int) (hx : (Lit.int .i64 x).wf = true) (b : Bool) (hb : t x = b) :
    (Instr.lookup 54 (.map (some M)) (.int .i64 x) false).run Tryd.prog w = .ok (.bool b) w := by
  obtain ⟨D, ho, hD, ht⟩ := h
  obtain ⟨v, ps, hrun, hv⟩ := ho.lookup lawK Tryd.underlying54 (zeroB w) (plainElem_bool Tryd.underlying4 false) (keyOf_int_mk Tryd.underlying3 hx)
  rw [ht x, hb] at hv
  obtain ⟨a, rfl, hz⟩ := plainElem_bool_inv Tryd.underlying4 hv
  simp only [Prod.mk.injEq, DataW.lit.injEq, Lit.bool.injEq] at hz
  rw [hrun, hz.1]
theorem MapB.look_drew {w : World} {M n : Nat} {t : Int → Bool} (h : MapB w M n t) (x : Int) (hx : (Lit.int .i64 x).wf = true) (b : Bool) (hb : t x = b) :
    (Instr.lookup 54 (.map (some M)) (.int .i64 x) false).run Tryd.prog w.drew = .ok (.bool b) w.drew :=
  (h.kp ((Kp.refl w).drew)).look x hx b hb
theorem MapB.look_drewN {w : World} {M n : Nat} {t : Int → Bool} (h : MapB w M n t) (x : Int) (hx : (Lit.int .i64 x).wf = true) (b : Bool) (hb : t x = b) (q : Nat) :
    (Instr.lookup 54 (.map (some M)) (.int .i64 x) false).run Tryd.prog (w.drewN q) = .ok (.bool b) (w.drewN q) :=
  (h.kp ((Kp.refl w).drewN q)).look x hx b hb
/-- 'm[x] = true', at the operation. -/
theorem mapB_put (w : World) {ops : Array Oper} {rest : List Oper} {o : Oper} {a : Act} {Q : Exit → Act → World → Prop}
    (hg : o.guard = none) (m x v : Operand) (hop : o.op = Op.mapUpdate 54 m x v) (M n : Nat) (t : Int → Bool) (hm : a.eval m = .map (some M)) (h : MapB w M n t) (hn : n < maxLen) (y : Int) (hx : a.eval x = .int .i64 y) (hy : (Lit.int .i64 y).wf = true) (b : Bool) (hv : a.eval v = .bool b)
    (hK : ∀ w', MapB w' M (n + 1) (fun z => if z = y then b else t z) → w.grownBy w' (some M) → wpList Tryd.prog ops Q rest (a.put o.dst undef) w') :
    wpList Tryd.prog ops Q (o :: rest) a w := by
  obtain ⟨D, ho, hD, ht⟩ := h
  refine wpList_mapUpdate_own w hg m x v 54 hop 3 4 lawK Tryd.underlying54 _ M n D hm ho hn _ _ (.int .i64 y) hx hv (keyOf_int_mk Tryd.underlying3 hy) (.lit (.bool b)) [] (plainElem_bool Tryd.underlying4 b) (fun w' hw' hg' => hK w' ⟨_, hw', hD.put _ _, fun z => ?_⟩ hg')
  show (D.put (.int .i64 y) (.lit (.bool b))).atKey (.int .i64 z) (.lit (.bool false)) = .lit (.bool (if z = y then b else t z))
  by_cases e : z = y
  · subst e
    rw [if_pos rfl]
    exact atKey_put_same hD (by trivial) _ _
  · rw [if_neg e, atKey_put_other (by intro q; injection q with q1 q2; exact e q2), ht z]
theorem wf64 {x : Int} (h0 : -9223372036854775808 ≤ x) (h1 : x ≤ 9223372036854775807) : (Lit.int .i64 x).wf = true := WalkArith.wf_i64 ⟨h0, h1⟩

/-! ### the order, by places -/
theorem take_mem {l : List Nat} {k g : Nat} : g ∈ l.take k ↔ ∃ j, j < k ∧ j < l.length ∧ l.getD j 0 = g := by
  rw [List.mem_take_iff_getElem]
  constructor
  · rintro ⟨i, hi, rfl⟩
    exact ⟨i, by omega, by omega, by rw [List.getD_eq_getElem?_getD, List.getElem?_eq_getElem (by omega)]; rfl⟩
  · rintro ⟨j, h1, h2, rfl⟩
    exact ⟨j, by omega, by rw [List.getD_eq_getElem?_getD, List.getElem?_eq_getElem (by omega)]; rfl⟩
theorem kahn_take {m : Im} (h : Acyc m) {k : Nat} : ∀ {n : Nat}, k ≤ n → n ≤ m.funcs.length → (kahn m n).take k = kahn m k
  | 0, hk, hn => by
    obtain rfl : k = 0 := by omega
    rfl
  | n + 1, hk, hn => by
    have hl := h.len hn
    by_cases e : k = n + 1
    · subst e
      exact List.take_of_length_le (by omega)
    · obtain ⟨f, hf⟩ := h.next (k := n) (by omega)
      have hl2 := h.len (k := n) (by omega)
      rw [kahn_step hf, List.take_append_of_le_length (by omega), kahn_take h (by omega) (by omega)]
/-- In the order: each once, after all that it calls. -/
theorem order_at {m : Im} (h : Acyc m) {k : Nat} (hk : k < m.funcs.length) :
    (orderL m).getD k 0 < m.funcs.length ∧ (orderL m).getD k 0 ∉ (orderL m).take k ∧ ∀ g ∈ callsOf m ((orderL m).getD k 0), g ∈ (orderL m).take k := by
  obtain ⟨f, hf⟩ := h.next hk
  have hs := nextK_some hf
  have e1 : (orderL m).take (k + 1) = kahn m (k + 1) := kahn_take h (by omega) (Nat.le_refl _)
  have e0 : (orderL m).take k = kahn m k := kahn_take h (by omega) (Nat.le_refl _)
  have hl := h.len (k := k) (by omega)
  have hL : (orderL m).length = m.funcs.length := h.len (Nat.le_refl _)
  have ef : (orderL m).getD k 0 = f := by
    have : ((orderL m).take (k + 1)).getD k 0 = f := by
      rw [e1, kahn_step hf, List.getD_eq_getElem?_getD, List.getElem?_append_right (by omega), hl, Nat.sub_self]
      rfl
    rw [← this]
    simp [List.getD_eq_getElem?_getD]
  rw [ef, e0]
  exact ⟨hs.1, hs.2.1, hs.2.2.1⟩
/-- What the set says after k steps. -/
def tOf (l : List Nat) (k : Nat) : Int → Bool := fun x => decide (∃ j, j < k ∧ j < l.length ∧ ((l.getD j 0 : Nat) : Int) = x)
theorem tOf_zero (l : List Nat) : tOf l 0 = fun _ => false := by
  funext x
  unfold tOf
  simp
theorem tOf_next {l : List Nat} {k : Nat} (hk : k < l.length) : (fun z => if z = ((l.getD k 0 : Nat) : Int) then true else tOf l k z) = tOf l (k + 1) := by
  funext z
  by_cases e : z = ((l.getD k 0 : Nat) : Int)
  · rw [if_pos e]
    symm
    unfold tOf
    exact decide_eq_true ⟨k, by omega, hk, e.symm⟩
  · rw [if_neg e]
    unfold tOf
    rw [decide_eq_decide]
    constructor
    · rintro ⟨j, h1, h2⟩
      exact ⟨j, by omega, h2⟩
    · rintro ⟨j, h1, h2, h3⟩
      by_cases ej : j = k
      · subst ej
        exact absurd h3.symm e
      · exact ⟨j, by omega, h2, h3⟩
theorem tOf_mem {l : List Nat} {k g : Nat} : tOf l k (g : Int) = decide (g ∈ l.take k) := by
  unfold tOf
  rw [decide_eq_decide, take_mem]
  constructor
  · rintro ⟨j, h1, h2, h3⟩
    exact ⟨j, h1, h2, by omega⟩
  · rintro ⟨j, h1, h2, h3⟩
    exact ⟨j, h1, h2, by omega⟩
end Im
end Go.Proofs.YtaeblnlbelebkaaDoor
