/-
  STEPS of a region that draws its order (XOp), the operation never looked at but by the kernel: with a guard and without. No program. Own work.
-/
import Derived.Test.YtbedcplkcaanhaaAsNamedA
namespace Go.Proofs.Ytbedcplkcaanhaa
namespace Ops
open Go.RowKit Go Rg Go.Shelf As
set_option linter.unusedVariables false
variable {P : Program} {a : Act} {w : World} {o : Oper}

theorem got {y : Operand} {u v : Value} (h : a.eval y = u) (hv : u = v) : a.eval y = v := h.trans hv
theorem got2 {ys : Array Operand} {u1 u2 v1 v2 : Value} (h : ys.map a.eval = #[u1, u2]) (h1 : u1 = v1) (h2 : u2 = v2) : ys.map a.eval = #[v1, v2] := by rw [h, h1, h2]
theorem got1 {ys : Array Operand} {u1 v1 : Value} (h : ys.map a.eval = #[u1]) (h1 : u1 = v1) : ys.map a.eval = #[v1] := by rw [h, h1]
theorem run_move {y : Operand} {v : Value} (ho : o.op = .move y) (hv : a.eval y = v) : (execOp a.eval o).run P w = .ok (.value v) w := by
  unfold execOp
  simp only [ho, hv]
  rfl
theorem run_assign {y : Operand} {v : Value} (ho : o.op = .assign y) (hv : a.eval y = v) : (execOp a.eval o).run P w = .ok (.value v) w := by
  unfold execOp
  simp only [ho, hv]
  rfl
theorem run_not {y : Operand} {t : TypeId} {b : Bool} (ho : o.op = .unOp .not t y) (hv : a.eval y = .bool b) : (execOp a.eval o).run P w = .ok (.value (.bool !b)) w := by
  unfold execOp
  simp only [ho, hv]
  go_simp
theorem run_pick {c y z : Operand} {b : Bool} {v : Value} (ho : o.op = .pick c y z) (hc : a.eval c = .bool b) (hv : (if b then a.eval y else a.eval z) = v) : (execOp a.eval o).run P w = .ok (.value v) w := by
  unfold execOp
  simp only [ho, hc]
  cases b <;> simp at hv <;> subst hv <;> go_simp
theorem run_len {y : Operand} {ao : Option Addr} {n c : Nat} (ho : o.op = .call { callee := .builtin .len, args := #[y], argTypes := #[27] }) (hv : a.eval y = .slice ao n c) : (execOp a.eval o).run Try.prog w = .ok (.value (.int .i64 (n : Int))) w := by
  unfold execOp
  simp only [ho, resolve, invoke, builtin, Sem.run_bind, Sem.run_pure, Result.andThen_ok, List.map_toArray, List.map_cons, List.map_nil, hv]
  go_simp
theorem run_load_text {y : Operand} {b k : Nat} {s : ByteArray} (ho : o.op = .load 9 y) (hy : a.eval y = .pointer (some ⟨b, k, none⟩)) (hc : w.cell? ⟨b, k, none⟩ = some (.string s)) : (execOp a.eval o).run Try.prog w = .ok (.value (.string s)) w := by
  unfold execOp
  simp only [ho, hy]
  go_simp
theorem run_load_expr {y : Operand} {b : Nat} {e : As.Nd} (ho : o.op = .load 25 y) (hy : a.eval y = .pointer (some ⟨b, 0, none⟩)) (hc : w.heap[b]? = some (As.oE e)) : (execOp a.eval o).run Try.prog w = .ok (.value e.val) w := by
  unfold As.oE at hc
  have x0 : w.cell? ⟨b, 0, none⟩ = some (.int .i64 e.k) := by simp [World.cell?, hc]
  have x1 : w.cell? ⟨b, 1, none⟩ = some (.int .i64 e.o) := by simp [World.cell?, hc]
  have x2 : w.cell? ⟨b, 2, none⟩ = some (.int .i64 e.t) := by simp [World.cell?, hc]
  have x3 : w.cell? ⟨b, 3, none⟩ = some (.int .u32 e.n) := by simp [World.cell?, hc]
  have x4 : w.cell? ⟨b, 4, none⟩ = some (.string (bytesOf e.nm)) := by simp [World.cell?, hc]
  have x5 : w.cell? ⟨b, 5, none⟩ = some (.slice e.ao e.kids.length e.cap) := by simp [World.cell?, hc]
  clear hc
  unfold execOp As.Nd.val
  simp only [ho, hy]
  go_simp
theorem run_row0 (ho : o.op = .buildSlice 27 0 #[]) : (execOp a.eval o).run Try.prog w = .ok (.value (.slice (some ⟨w.heap.size, 0, none⟩) 0 0)) (w.alloc (.cells #[] 9)) := by
  unfold execOp
  simp only [ho]
  go_simp
theorem run_row1 {y : Operand} {s : ByteArray} (ho : o.op = .buildSlice 27 1 #[(0, y)]) (hy : a.eval y = .string s) : (execOp a.eval o).run Try.prog w = .ok (.value (.slice (some ⟨w.heap.size, 0, none⟩) 1 1)) (w.alloc (.cells #[.string s] 9)) := by
  unfold execOp
  simp only [ho, List.map_toArray, List.map_cons, List.map_nil, hy]
  go_simp
theorem run_index {y z : Operand} {ao : Addr} {n c k : Nat} (ho : o.op = .indexAddr 27 y z) (hy : a.eval y = .slice (some ⟨ao.block, 0, none⟩) n c) (hz : a.eval z = .int .i64 (k : Int)) (hk : k < n) : (execOp a.eval o).run Try.prog w = .ok (.value (.pointer (some ⟨ao.block, k, none⟩))) w := by
  have m6 : (k : Int) < (n : Int) := by omega
  have n6 : (0 : Int) ≤ (k : Int) := Int.natCast_nonneg _
  unfold execOp
  simp only [ho, hy, hz]
  go_simp
/-- A function's own name called. -/
theorem run_call {f : FuncId} {ys : Array Operand} {ts : Array TypeId} {vs : Array Value} (ho : o.op = .call { callee := .value (.func f), args := ys, argTypes := ts }) (hv : ys.map a.eval = vs) (hent : (callFunc f vs).run P w = .ok (.enter f vs) w) : (execOp a.eval o).run P w = .ok (.enter f vs) w := by
  unfold execOp
  simp only [ho]
  go_simp
/-- A closure called: what it holds comes behind its arguments. -/
theorem run_callc {y : Operand} {f : FuncId} {ys : Array Operand} {ts : Array TypeId} {vs caps : Array Value} (ho : o.op = .call { callee := .value y, args := ys, argTypes := ts }) (hy : a.eval y = .func (.func f) #[] caps) (hv : ys.map a.eval = vs) (hent : (callFunc f (vs ++ caps)).run P w = .ok (.enter f (vs ++ caps)) w) : (execOp a.eval o).run P w = .ok (.enter f (vs ++ caps)) w := by
  unfold execOp
  simp only [ho, resolve, hv, hy, Deferred.ofValue, Sem.run_bind, Sem.run_pure, Result.andThen_ok]
  go_simp
theorem wanted_of {ops : Array Oper} {g d : Nat} {b : Bool} {u : Value} (hg : o.guard = some (g, b)) (hd : (ops[g]?).bind (·.dst) = some d) (ht : a.eval (.tmp d) = u) (hv : u = .bool b) : Region.wanted o (yielded ops a.tmps) = true := by
  subst hv
  have h : a.tmps[d]? = some (.bool b) := by
    have e : a.tmps.getD d undef = .bool b := ht
    rcases Nat.lt_or_ge d a.tmps.size with k | k
    · simpa [k] using e
    · simp [Nat.not_lt.2 k] at e
      cases e
  simp [Region.wanted, yielded, hg, hd, h]
end Ops
end Go.Proofs.Ytbedcplkcaanhaa
namespace Go.Proofs.Ytbedcplkcaanhaa
namespace Opg
open Go.RowKit Go Oq Op
set_option linter.unusedVariables false
variable {P : Program} {ops : Array Oper} {Q : Exit → Act → World → Prop}

def asCall : Go.Op → Option (Callee × Array Operand)
  | .call k => some (k.callee, k.args)
  | _ => none
theorem asCall_some {p : Go.Op} {c : Callee} {ys : Array Operand} (h : asCall p = some (c, ys)) : ∃ ts, p = .call { callee := c, args := ys, argTypes := ts } := by
  cases p <;> simp [asCall] at h
  case call k =>
    obtain ⟨rfl, rfl⟩ := h
    exact ⟨k.argTypes, rfl⟩
theorem at_ {i : Nat} {α : Type} {f : Oper → α} {x : α} (h : (ops[i]?).map f = some x) : ∃ o, ops[i]? = some o ∧ f o = x := by
  cases ho : ops[i]? with
  | none => rw [ho] at h; cases h
  | some o => rw [ho] at h; exact ⟨o, rfl, by simpa using h⟩
theorem wanted_none {o : Oper} {tm : Array Value} (h : o.guard = none) : Region.wanted o (yielded ops tm) = true := by simp [Region.wanted, h]
theorem wanted_some {a : Act} {o : Oper} {g t : Nat} {b : Bool} (hg : o.guard = some (g, b)) (ht : (ops[g]?).bind (·.dst) = some t) (hu : a.eval (.tmp t) = .bool b) : Region.wanted o (yielded ops a.tmps) = true := Ops.wanted_of hg ht hu rfl
theorem unwanted_some {a : Act} {o : Oper} {g t : Nat} {b : Bool} (hg : o.guard = some (g, b)) (ht : (ops[g]?).bind (·.dst) = some t) (hu : a.eval (.tmp t) = .bool !b) : Region.wanted o (yielded ops a.tmps) = false := by
  have h : a.tmps[t]? = some (.bool !b) := by
    have e : a.tmps.getD t undef = .bool !b := hu
    rcases Nat.lt_or_ge t a.tmps.size with k | k
    · simpa [k] using e
    · simp [Nat.not_lt.2 k] at e
      cases e
  cases b <;> simp [Region.wanted, yielded, hg, ht, h]
/-- A value's giver, without a guard. -/
theorem value {ops0 : Array Oper} (hO : ops = ops0) {i : Nat} {p : Go.Op} {d : Option Tmp} {v : Value} {w w' : World} {a : Act} {K : Act → World → Prop} (h : K (a.put d v) w') (hrun : ∀ o : Oper, o.op = p → (execOp a.eval o).run P w = .ok (.value v) w')
    (ho : (ops0[i]?).map (fun o => (o.op, o.dst, o.guard)) = some (p, d, none)) : wpOp P ops Q i K a w := by
  subst hO
  obtain ⟨o, h1, h2⟩ := at_ ho
  simp only [Prod.mk.injEq] at h2
  obtain ⟨h2, h3, h4⟩ := h2
  exact Op.value h1 (wanted_none h4) (hrun o h2) (by rw [h3]; exact h)
/-- A value's giver, its guard holds. -/
theorem valueG {ops0 : Array Oper} (hO : ops = ops0) {i : Nat} {p : Go.Op} {d : Option Tmp} {v : Value} {w w' : World} {a : Act} {K : Act → World → Prop} {g t : Nat} {b : Bool} (hu : a.eval (.tmp t) = .bool b) (h : K (a.put d v) w') (hrun : ∀ o : Oper, o.op = p → (execOp a.eval o).run P w = .ok (.value v) w')
    (ho : (ops0[i]?).map (fun o => (o.op, o.dst, o.guard)) = some (p, d, some (g, b))) (ht : (ops0[g]?).bind (·.dst) = some t) : wpOp P ops Q i K a w := by
  subst hO
  obtain ⟨o, h1, h2⟩ := at_ ho
  simp only [Prod.mk.injEq] at h2
  obtain ⟨h2, h3, h4⟩ := h2
  exact Op.value h1 (wanted_some h4 ht hu) (hrun o h2) (by rw [h3]; exact h)
/-- Value's givers whose type matters. -/
theorem valueT {ops0 : Array Oper} (hO : ops = ops0) {i : Nat} {p : Go.Op} {ty : TypeId} {d : Option Tmp} {v : Value} {w w' : World} {a : Act} {K : Act → World → Prop} (h : K (a.put d v) w') (hrun : ∀ o : Oper, o.op = p → o.type = ty → (execOp a.eval o).run P w = .ok (.value v) w')
    (ho : (ops0[i]?).map (fun o => (o.op, o.type, o.dst, o.guard)) = some (p, ty, d, none)) : wpOp P ops Q i K a w := by
  subst hO
  obtain ⟨o, h1, h2⟩ := at_ ho
  simp only [Prod.mk.injEq] at h2
  obtain ⟨h2, h2', h3, h4⟩ := h2
  exact Op.value h1 (wanted_none h4) (hrun o h2 h2') (by rw [h3]; exact h)
theorem valueTG {ops0 : Array Oper} (hO : ops = ops0) {i : Nat} {p : Go.Op} {ty : TypeId} {d : Option Tmp} {v : Value} {w w' : World} {a : Act} {K : Act → World → Prop} {g t : Nat} {b : Bool} (hu : a.eval (.tmp t) = .bool b) (h : K (a.put d v) w') (hrun : ∀ o : Oper, o.op = p → o.type = ty → (execOp a.eval o).run P w = .ok (.value v) w')
    (ho : (ops0[i]?).map (fun o => (o.op, o.type, o.dst, o.guard)) = some (p, ty, d, some (g, b))) (ht : (ops0[g]?).bind (·.dst) = some t) : wpOp P ops Q i K a w := by
  subst hO
  obtain ⟨o, h1, h2⟩ := at_ ho
  simp only [Prod.mk.injEq] at h2
  obtain ⟨h2, h2', h3, h4⟩ := h2
  exact Op.value h1 (wanted_some h4 ht hu) (hrun o h2 h2') (by rw [h3]; exact h)
/-- One whose guard does not hold. -/
theorem idle {ops0 : Array Oper} (hO : ops = ops0) {i : Nat} {d : Option Tmp} {w : World} {a : Act} {K : Act → World → Prop} {g t : Nat} {b : Bool} (hu : a.eval (.tmp t) = .bool !b) (h : K (a.put d undef) w)
    (ho : (ops0[i]?).map (fun o => (o.dst, o.guard)) = some (d, some (g, b))) (ht : (ops0[g]?).bind (·.dst) = some t) : wpOp P ops Q i K a w := by
  subst hO
  obtain ⟨o, h1, h2⟩ := at_ ho
  simp only [Prod.mk.injEq] at h2
  obtain ⟨h3, h4⟩ := h2
  exact Op.idle h1 (unwanted_some h4 ht hu) (by rw [h3]; exact h)
/-- A call, without a guard. -/
theorem called {ops0 : Array Oper} (hO : ops = ops0) {i : Nat} {c : Callee} {ys : Array Operand} {d : Option Tmp} {w w1 : World} {a : Act} {K : Act → World → Prop} {f : FuncId} {args : Array Value} (hrun : ∀ (o : Oper) (ts : Array TypeId), o.op = .call { callee := c, args := ys, argTypes := ts } → (execOp a.eval o).run P w = .ok (.enter f args) w1) (h : Calls P f args w1 fun e w' => ∃ v, e = .returned v ∧ K (a.put d v) w')
    (ho : (ops0[i]?).map (fun o => (asCall o.op, o.dst, o.guard)) = some (some (c, ys), d, none)) : wpOp P ops Q i K a w := by
  subst hO
  obtain ⟨o, h1, h2⟩ := at_ ho
  simp only [Prod.mk.injEq] at h2
  obtain ⟨h2, h3, h4⟩ := h2
  obtain ⟨ts, h2⟩ := asCall_some h2
  exact Op.called h1 (wanted_none h4) (hrun o ts h2) (by rw [h3]; exact h)
/-- A call whose guard holds. -/
theorem calledG {ops0 : Array Oper} (hO : ops = ops0) {i : Nat} {c : Callee} {ys : Array Operand} {d : Option Tmp} {w w1 : World} {a : Act} {K : Act → World → Prop} {f : FuncId} {args : Array Value} {g t : Nat} {b : Bool} (hu : a.eval (.tmp t) = .bool b) (hrun : ∀ (o : Oper) (ts : Array TypeId), o.op = .call { callee := c, args := ys, argTypes := ts } → (execOp a.eval o).run P w = .ok (.enter f args) w1) (h : Calls P f args w1 fun e w' => ∃ v, e = .returned v ∧ K (a.put d v) w')
    (ho : (ops0[i]?).map (fun o => (asCall o.op, o.dst, o.guard)) = some (some (c, ys), d, some (g, b))) (ht : (ops0[g]?).bind (·.dst) = some t) : wpOp P ops Q i K a w := by
  subst hO
  obtain ⟨o, h1, h2⟩ := at_ ho
  simp only [Prod.mk.injEq] at h2
  obtain ⟨h2, h3, h4⟩ := h2
  obtain ⟨ts, h2⟩ := asCall_some h2
  exact Op.called h1 (wanted_some h4 ht hu) (hrun o ts h2) (by rw [h3]; exact h)
theorem run_pickF {a : Act} {w : World} {o : Oper} {c y z : Operand} {v : Value} (ho : o.op = .pick c y z) (hc : a.eval c = .bool false) (hv : a.eval z = v) : (execOp a.eval o).run P w = .ok (.value v) w := Ops.run_pick (b := false) ho hc (by simpa using hv)
theorem run_pickT {a : Act} {w : World} {o : Oper} {c y z : Operand} {v : Value} (ho : o.op = .pick c y z) (hc : a.eval c = .bool true) (hv : a.eval y = v) : (execOp a.eval o).run P w = .ok (.value v) w := Ops.run_pick (b := true) ho hc (by simpa using hv)
theorem ev0 {a a1 : Act} (hA : a = a1) {y : Operand} {u : Value} (h : a1.eval y = u) : a.eval y = u := by rw [hA]; exact h
theorem ev {a a1 : Act} (hA : a = a1) {y : Operand} {u v : Value} (h : a1.eval y = u) (hv : u = v) : a.eval y = v := by rw [hA]; exact h.trans hv
theorem ev1 {a a1 : Act} (hA : a = a1) {ys : Array Operand} {u1 v1 : Value} (h : ys.map a1.eval = #[u1]) (h1 : u1 = v1) : ys.map a.eval = #[v1] := by rw [hA, h, h1]
theorem ev2 {a a1 : Act} (hA : a = a1) {ys : Array Operand} {u1 u2 v1 v2 : Value} (h : ys.map a1.eval = #[u1, u2]) (h1 : u1 = v1) (h2 : u2 = v2) : ys.map a.eval = #[v1, v2] := by rw [hA, h, h1, h2]
/-- A region that draws its order, its operations and its frame opaque in each step. -/
theorem starts {a0 : Act} {id : Nat} {w : World} (ds : List (Option Tmp)) (S : World → Prop) (Post : Nat → Value → World → Prop) (kills : Nat → Nat → Bool) (m : Nat) (hm0 : ops.size = m) (hds : ops.toList.map (·.dst) = ds) (hm : P.follows .mixedOrders = true) (hap : apart ops = true) (hor : ordered .any ops = true) (hsp : spared .any ops kills = true) (hS : S w.drew)
    (step : ∀ i, i < m → ∀ x w, S w → (∀ j, use ops i j = true → Post j (x j) w) → ∀ (ops' : Array Oper) (Q' : Exit → Act → World → Prop) (a : Act) (K : Act → World → Prop), ops' = ops → a = fillD x ds 0 a0 → (∀ v w', S w' → Post i v w' → (∀ j u, kills i j = false → j ≠ i → dep ops j i = false → Post j u w → Post j u w') → K (a.put (ds.getD i none) v) w') → wpOp P ops' Q' i K a w)
    (fin : ∀ x w, S w → (∀ j, j < m → (∀ k, k < m → kills k j = false) → Post j (x j) w) → Q .normal (fillD x ds 0 a0) w) : (Code.region id ops true).wp P Q a0 w :=
  Op.starts ds S Post kills m hm0 hds hm hap hor hsp hS (fun i hi x w h1 h2 K h3 => step i hi x w h1 h2 ops Q _ K rfl rfl h3) fin
end Opg
end Go.Proofs.Ytbedcplkcaanhaa
