/-
  STEPS of a region that draws its order (XOp), the operation never looked at but by the kernel: with a guard and without. No program. Own work.
-/
import Derived.Test.YtbedcplkcaanhaaOps
namespace Go.Proofs.Ytbedcplkcaanhaa
namespace Opg
open Go.RowKit Go Oq Op
set_option linter.unusedVariables false
variable {P : Program} {ops : Array Oper} {Q : Exit → Act → World → Prop}

def asCall : Go.Op → Option (Callee × Array Operand)
  | .call k => some (k.callee, k.args)
  | _ => none
theorem asCall_some {p : Go.Op} {c : Callee} {ys : Array Operand} (h : asCall p = some (c, ys)) : ∃ ts, p = .call { callee := c, args := ys, argTypes := ts } := by
  cases p <;> simp [asCall] at h
  case call k =>
    obtain ⟨rfl, rfl⟩ := h
    exact ⟨k.argTypes, rfl⟩
theorem at_ {i : Nat} {α : Type} {f : Oper → α} {x : α} (h : (ops[i]?).map f = some x) : ∃ o, ops[i]? = some o ∧ f o = x := by
  cases ho : ops[i]? with
  | none => rw [ho] at h; cases h
  | some o => rw [ho] at h; exact ⟨o, rfl, by simpa using h⟩
theorem wanted_none {o : Oper} {tm : Array Value} (h : o.guard = none) : Region.wanted o (yielded ops tm) = true := by simp [Region.wanted, h]
theorem wanted_some {a : Act} {o : Oper} {g t : Nat} {b : Bool} (hg : o.guard = some (g, b)) (ht : (ops[g]?).bind (·.dst) = some t) (hu : a.eval (.tmp t) = .bool b) : Region.wanted o (yielded ops a.tmps) = true := Ops.wanted_of hg ht hu rfl
theorem unwanted_some {a : Act} {o : Oper} {g t : Nat} {b : Bool} (hg : o.guard = some (g, b)) (ht : (ops[g]?).bind (·.dst) = some t) (hu : a.eval (.tmp t) = .bool !b) : Region.wanted o (yielded ops a.tmps) = false := by
  have h : a.tmps[t]? = some (.bool !b) := by
    have e : a.tmps.getD t undef = .bool !b := hu
    rcases Nat.lt_or_ge t a.tmps.size with k | k
    · simpa [k] using e
    · simp [Nat.not_lt.2 k] at e
      cases e
  cases b <;> simp [Region.wanted, yielded, hg, ht, h]
/-- A value's giver, without a guard. -/
theorem value {ops0 : Array Oper} (hO : ops = ops0) {i : Nat} {p : Go.Op} {d : Option Tmp} {v : Value} {w w' : World} {a : Act} {K : Act → World → Prop} (h : K (a.put d v) w') (hrun : ∀ o : Oper, o.op = p → (execOp a.eval o).run P w = .ok (.value v) w')
    (ho : (ops0[i]?).map (fun o => (o.op, o.dst, o.guard)) = some (p, d, none)) : wpOp P ops Q i K a w := by
  subst hO
  obtain ⟨o, h1, h2⟩ := at_ ho
  simp only [Prod.mk.injEq] at h2
  obtain ⟨h2, h3, h4⟩ := h2
  exact Op.value h1 (wanted_none h4) (hrun o h2) (by rw [h3]; exact h)
/-- A value's giver, its guard holds. -/
theorem valueG {ops0 : Array Oper} (hO : ops = ops0) {i : Nat} {p : Go.Op} {d : Option Tmp} {v : Value} {w w' : World} {a : Act} {K : Act → World → Prop} {g t : Nat} {b : Bool} (hu : a.eval (.tmp t) = .bool b) (h : K (a.put d v) w') (hrun : ∀ o : Oper, o.op = p → (execOp a.eval o).run P w = .ok (.value v) w')
    (ho : (ops0[i]?).map (fun o => (o.op, o.dst, o.guard)) = some (p, d, some (g, b))) (ht : (ops0[g]?).bind (·.dst) = some t) : wpOp P ops Q i K a w := by
  subst hO
  obtain ⟨o, h1, h2⟩ := at_ ho
  simp only [Prod.mk.injEq] at h2
  obtain ⟨h2, h3, h4⟩ := h2
  exact Op.value h1 (wanted_some h4 ht hu) (hrun o h2) (by rw [h3]; exact h)
/-- Value's givers whose type matters. -/
theorem valueT {ops0 : Array Oper} (hO : ops = ops0) {i : Nat} {p : Go.Op} {ty : TypeId} {d : Option Tmp} {v : Value} {w w' : World} {a : Act} {K : Act → World → Prop} (h : K (a.put d v) w') (hrun : ∀ o : Oper, o.op = p → o.type = ty → (execOp a.eval o).run P w = .ok (.value v) w')
    (ho : (ops0[i]?).map (fun o => (o.op, o.type, o.dst, o.guard)) = some (p, ty, d, none)) : wpOp P ops Q i K a w := by
  subst hO
  obtain ⟨o, h1, h2⟩ := at_ ho
  simp only [Prod.mk.injEq] at h2
  obtain ⟨h2, h2', h3, h4⟩ := h2
  exact Op.value h1 (wanted_none h4) (hrun o h2 h2') (by rw [h3]; exact h)
theorem valueTG {ops0 : Array Oper} (hO : ops = ops0) {i : Nat} {p : Go.Op} {ty : TypeId} {d : Option Tmp} {v : Value} {w w' : World} {a : Act} {K : Act → World → Prop} {g t : Nat} {b : Bool} (hu : a.eval (.tmp t) = .bool b) (h : K (a.put d v) w') (hrun : ∀ o : Oper, o.op = p → o.type = ty → (execOp a.eval o).run P w = .ok (.value v) w')
    (ho : (ops0[i]?).map (fun o => (o.op, o.type, o.dst, o.guard)) = some (p, ty, d, some (g, b))) (ht : (ops0[g]?).bind (·.dst) = some t) : wpOp P ops Q i K a w := by
  subst hO
  obtain ⟨o, h1, h2⟩ := at_ ho
  simp only [Prod.mk.injEq] at h2
  obtain ⟨h2, h2', h3, h4⟩ := h2
  exact Op.value h1 (wanted_some h4 ht hu) (hrun o h2 h2') (by rw [h3]; exact h)
/-- One whose guard does not hold. -/
theorem idle {ops0 : Array Oper} (hO : ops = ops0) {i : Nat} {d : Option Tmp} {w : World} {a : Act} {K : Act → World → Prop} {g t : Nat} {b : Bool} (hu : a.eval (.tmp t) = .bool !b) (h : K (a.put d undef) w)
    (ho : (ops0[i]?).map (fun o => (o.dst, o.guard)) = some (d, some (g, b))) (ht : (ops0[g]?).bind (·.dst) = some t) : wpOp P ops Q i K a w := by
  subst hO
  obtain ⟨o, h1, h2⟩ := at_ ho
  simp only [Prod.mk.injEq] at h2
  obtain ⟨h3, h4⟩ := h2
  exact Op.idle h1 (unwanted_some h4 ht hu) (by rw [h3]; exact h)
/-- A call, without a guard. -/
theorem called {ops0 : Array Oper} (hO : ops = ops0) {i : Nat} {c : Callee} {ys : Array Operand} {d : Option Tmp} {w w1 : World} {a : Act} {K : Act → World → Prop} {f : FuncId} {args : Array Value} (hrun : ∀ (o : Oper) (ts : Array TypeId), o.op = .call { callee := c, args := ys, argTypes := ts } → (execOp a.eval o).run P w = .ok (.enter f args) w1) (h : Calls P f args w1 fun e w' => ∃ v, e = .returned v ∧ K (a.put d v) w')
    (ho : (ops0[i]?).map (fun o => (asCall o.op, o.dst, o.guard)) = some (some (c, ys), d, none)) : wpOp P ops Q i K a w := by
  subst hO
  obtain ⟨o, h1, h2⟩ := at_ ho
  simp only [Prod.mk.injEq] at h2
  obtain ⟨h2, h3, h4⟩ := h2
  obtain ⟨ts, h2⟩ := asCall_some h2
  exact Op.called h1 (wanted_none h4) (hrun o ts h2) (by rw [h3]; exact h)
/-- A call whose guard holds. -/
theorem calledG {ops0 : Array Oper} (hO : ops = ops0) {i : Nat} {c : Callee} {ys : Array Operand} {d : Option Tmp} {w w1 : World} {a : Act} {K : Act → World → Prop} {f : FuncId} {args : Array Value} {g t : Nat} {b : Bool} (hu : a.eval (.tmp t) = .bool b) (hrun : ∀ (o : Oper) (ts : Array TypeId), o.op = .call { callee := c, args := ys, argTypes := ts } → (execOp a.eval o).run P w = .ok (.enter f args) w1) (h : Calls P f args w1 fun e w' => ∃ v, e = .returned v ∧ K (a.put d v) w')
    (ho : (ops0[i]?).map (fun o => (asCall o.op, o.dst, o.guard)) = some (some (c, ys), d, some (g, b))) (ht : (ops0[g]?).bind (·.dst) = some t) : wpOp P ops Q i K a w := by
  subst hO
  obtain ⟨o, h1, h2⟩ := at_ ho
  simp only [Prod.mk.injEq] at h2
  obtain ⟨h2, h3, h4⟩ := h2
  obtain ⟨ts, h2⟩ := asCall_some h2
  exact Op.called h1 (wanted_some h4 ht hu) (hrun o ts h2) (by rw [h3]; exact h)
theorem run_pickF {a : Act} {w : World} {o : Oper} {c y z : Operand} {v : Value} (ho : o.op = .pick c y z) (hc : a.eval c = .bool false) (hv : a.eval z = v) : (execOp a.eval o).run P w = .ok (.value v) w := Ops.run_pick (b := false) ho hc (by simpa using hv)
theorem run_pickT {a : Act} {w : World} {o : Oper} {c y z : Operand} {v : Value} (ho : o.op = .pick c y z) (hc : a.eval c = .bool true) (hv : a.eval y = v) : (execOp a.eval o).run P w = .ok (.value v) w := Ops.run_pick (b := true) ho hc (by simpa using hv)
theorem ev0 {a a1 : Act} (hA : a = a1) {y : Operand} {u : Value} (h : a1.eval y = u) : a.eval y = u := by rw [hA]; exact h
theorem ev {a a1 : Act} (hA : a = a1) {y : Operand} {u v : Value} (h : a1.eval y = u) (hv : u = v) : a.eval y = v := by rw [hA]; exact h.trans hv
theorem ev1 {a a1 : Act} (hA : a = a1) {ys : Array Operand} {u1 v1 : Value} (h : ys.map a1.eval = #[u1]) (h1 : u1 = v1) : ys.map a.eval = #[v1] := by rw [hA, h, h1]
theorem ev2 {a a1 : Act} (hA : a = a1) {ys : Array Operand} {u1 u2 v1 v2 : Value} (h : ys.map a1.eval = #[u1, u2]) (h1 : u1 = v1) (h2 : u2 = v2) : ys.map a.eval = #[v1, v2] := by rw [hA, h, h1, h2]
/-- A region that draws its order, its operations and its frame opaque in each step. -/
theorem starts {a0 : Act} {id : Nat} {w : World} (ds : List (Option Tmp)) (S : World → Prop) (Post : Nat → Value → World → Prop) (kills : Nat → Nat → Bool) (m : Nat) (hm0 : ops.size = m) (hds : ops.toList.map (·.dst) = ds) (hm : P.follows .mixedOrders = true) (hap : apart ops = true) (hor : ordered .any ops = true) (hsp : spared .any ops kills = true) (hS : S w.drew)
    (step : ∀ i, i < m → ∀ x w, S w → (∀ j, use ops i j = true → Post j (x j) w) → ∀ (ops' : Array Oper) (Q' : Exit → Act → World → Prop) (a : Act) (K : Act → World → Prop), ops' = ops → a = fillD x ds 0 a0 → (∀ v w', S w' → Post i v w' → (∀ j u, kills i j = false → j ≠ i → dep ops j i = false → Post j u w → Post j u w') → K (a.put (ds.getD i none) v) w') → wpOp P ops' Q' i K a w)
    (fin : ∀ x w, S w → (∀ j, j < m → (∀ k, k < m → kills k j = false) → Post j (x j) w) → Q .normal (fillD x ds 0 a0) w) : (Code.region id ops true).wp P Q a0 w :=
  Op.starts ds S Post kills m hm0 hds hm hap hor hsp hS (fun i hi x w h1 h2 K h3 => step i hi x w h1 h2 ops Q _ K rfl rfl h3) fin
end Opg
end Go.Proofs.Ytbedcplkcaanhaa
