/-
  WHAT SINGLE OPERATIONS YIELD, said of any frame by what its operands are: for the steps of XOp. No program of its own. Own work.
-/
import Derived.Test.YtbedcplkcaanhaaAsNamedA
namespace Go.Proofs.Ytbedcplkcaanhaa
namespace Ops
open Go.RowKit Go Rg Go.Shelf As
set_option linter.unusedVariables false
variable {P : Program} {a : Act} {w : World} {o : Oper}

theorem got {y : Operand} {u v : Value} (h : a.eval y = u) (hv : u = v) : a.eval y = v := h.trans hv
theorem got2 {ys : Array Operand} {u1 u2 v1 v2 : Value} (h : ys.map a.eval = #[u1, u2]) (h1 : u1 = v1) (h2 : u2 = v2) : ys.map a.eval = #[v1, v2] := by rw [h, h1, h2]
theorem got1 {ys : Array Operand} {u1 v1 : Value} (h : ys.map a.eval = #[u1]) (h1 : u1 = v1) : ys.map a.eval = #[v1] := by rw [h, h1]
theorem run_move {y : Operand} {v : Value} (ho : o.op = .move y) (hv : a.eval y = v) : (execOp a.eval o).run P w = .ok (.value v) w := by
  unfold execOp
  simp only [ho, hv]
  rfl
theorem run_assign {y : Operand} {v : Value} (ho : o.op = .assign y) (hv : a.eval y = v) : (execOp a.eval o).run P w = .ok (.value v) w := by
  unfold execOp
  simp only [ho, hv]
  rfl
theorem run_not {y : Operand} {t : TypeId} {b : Bool} (ho : o.op = .unOp .not t y) (hv : a.eval y = .bool b) : (execOp a.eval o).run P w = .ok (.value (.bool !b)) w := by
  unfold execOp
  simp only [ho, hv]
  go_simp
theorem run_pick {c y z : Operand} {b : Bool} {v : Value} (ho : o.op = .pick c y z) (hc : a.eval c = .bool b) (hv : (if b then a.eval y else a.eval z) = v) : (execOp a.eval o).run P w = .ok (.value v) w := by
  unfold execOp
  simp only [ho, hc]
  cases b <;> simp at hv <;> subst hv <;> go_simp
theorem run_len {y : Operand} {ao : Option Addr} {n c : Nat} (ho : o.op = .call { callee := .builtin .len, args := #[y], argTypes := #[27] }) (hv : a.eval y = .slice ao n c) : (execOp a.eval o).run Try.prog w = .ok (.value (.int .i64 (n : Int))) w := by
  unfold execOp
  simp only [ho, resolve, invoke, builtin, Sem.run_bind, Sem.run_pure, Result.andThen_ok, List.map_toArray, List.map_cons, List.map_nil, hv]
  go_simp
theorem run_load_text {y : Operand} {b k : Nat} {s : ByteArray} (ho : o.op = .load 9 y) (hy : a.eval y = .pointer (some ⟨b, k, none⟩)) (hc : w.cell? ⟨b, k, none⟩ = some (.string s)) : (execOp a.eval o).run Try.prog w = .ok (.value (.string s)) w := by
  unfold execOp
  simp only [ho, hy]
  go_simp
theorem run_load_expr {y : Operand} {b : Nat} {e : As.Nd} (ho : o.op = .load 25 y) (hy : a.eval y = .pointer (some ⟨b, 0, none⟩)) (hc : w.heap[b]? = some (As.oE e)) : (execOp a.eval o).run Try.prog w = .ok (.value e.val) w := by
  unfold As.oE at hc
  have x0 : w.cell? ⟨b, 0, none⟩ = some (.int .i64 e.k) := by simp [World.cell?, hc]
  have x1 : w.cell? ⟨b, 1, none⟩ = some (.int .i64 e.o) := by simp [World.cell?, hc]
  have x2 : w.cell? ⟨b, 2, none⟩ = some (.int .i64 e.t) := by simp [World.cell?, hc]
  have x3 : w.cell? ⟨b, 3, none⟩ = some (.int .u32 e.n) := by simp [World.cell?, hc]
  have x4 : w.cell? ⟨b, 4, none⟩ = some (.string (bytesOf e.nm)) := by simp [World.cell?, hc]
  have x5 : w.cell? ⟨b, 5, none⟩ = some (.slice e.ao e.kids.length e.cap) := by simp [World.cell?, hc]
  clear hc
  unfold execOp As.Nd.val
  simp only [ho, hy]
  go_simp
theorem run_row0 (ho : o.op = .buildSlice 27 0 #[]) : (execOp a.eval o).run Try.prog w = .ok (.value (.slice (some ⟨w.heap.size, 0, none⟩) 0 0)) (w.alloc (.cells #[] 9)) := by
  unfold execOp
  simp only [ho]
  go_simp
theorem run_row1 {y : Operand} {s : ByteArray} (ho : o.op = .buildSlice 27 1 #[(0, y)]) (hy : a.eval y = .string s) : (execOp a.eval o).run Try.prog w = .ok (.value (.slice (some ⟨w.heap.size, 0, none⟩) 1 1)) (w.alloc (.cells #[.string s] 9)) := by
  unfold execOp
  simp only [ho, List.map_toArray, List.map_cons, List.map_nil, hy]
  go_simp
theorem run_index {y z : Operand} {ao : Addr} {n c k : Nat} (ho : o.op = .indexAddr 27 y z) (hy : a.eval y = .slice (some ⟨ao.block, 0, none⟩) n c) (hz : a.eval z = .int .i64 (k : Int)) (hk : k < n) : (execOp a.eval o).run Try.prog w = .ok (.value (.pointer (some ⟨ao.block, k, none⟩))) w := by
  have m6 : (k : Int) < (n : Int) := by omega
  have n6 : (0 : Int) ≤ (k : Int) := Int.natCast_nonneg _
  unfold execOp
  simp only [ho, hy, hz]
  go_simp
/-- A function's own name called. -/
theorem run_call {f : FuncId} {ys : Array Operand} {ts : Array TypeId} {vs : Array Value} (ho : o.op = .call { callee := .value (.func f), args := ys, argTypes := ts }) (hv : ys.map a.eval = vs) (hent : (callFunc f vs).run P w = .ok (.enter f vs) w) : (execOp a.eval o).run P w = .ok (.enter f vs) w := by
  unfold execOp
  simp only [ho]
  go_simp
/-- A closure called: what it holds comes behind its arguments. -/
theorem run_callc {y : Operand} {f : FuncId} {ys : Array Operand} {ts : Array TypeId} {vs caps : Array Value} (ho : o.op = .call { callee := .value y, args := ys, argTypes := ts }) (hy : a.eval y = .func (.func f) #[] caps) (hv : ys.map a.eval = vs) (hent : (callFunc f (vs ++ caps)).run P w = .ok (.enter f (vs ++ caps)) w) : (execOp a.eval o).run P w = .ok (.enter f (vs ++ caps)) w := by
  unfold execOp
  simp only [ho, resolve, hv, hy, Deferred.ofValue, Sem.run_bind, Sem.run_pure, Result.andThen_ok]
  go_simp
theorem wanted_of {ops : Array Oper} {g d : Nat} {b : Bool} {u : Value} (hg : o.guard = some (g, b)) (hd : (ops[g]?).bind (·.dst) = some d) (ht : a.eval (.tmp d) = u) (hv : u = .bool b) : Region.wanted o (yielded ops a.tmps) = true := by
  subst hv
  have h : a.tmps[d]? = some (.bool b) := by
    have e : a.tmps.getD d undef = .bool b := ht
    rcases Nat.lt_or_ge d a.tmps.size with k | k
    · simpa [k] using e
    · simp [Nat.not_lt.2 k] at e
      cases e
  simp [Region.wanted, yielded, hg, hd, h]
end Ops
end Go.Proofs.Ytbedcplkcaanhaa
