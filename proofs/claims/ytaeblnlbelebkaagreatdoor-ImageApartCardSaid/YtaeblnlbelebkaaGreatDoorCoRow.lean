/-
  WALKS: package code, what an Op has; what the row lists, in memory. Own work.
-/
import Derived.Test.YtaeblnlbelebkaaGreatDoorCoWord
import Derived.WalkSmall
namespace Go.Proofs.YtaeblnlbelebkaaGreatDoor
namespace Co
open Go.RowKit Go
set_option linter.unusedVariables false

/-- The i-th row's eight cells. -/
structure RowCells (w : World) (R o : Nat) (r : Rw) : Prop where
  c0 : w.cell? ⟨R, o, none⟩ = some (.string (bytesOf r.name))
  c1 : w.cell? ⟨R, o + 1, none⟩ = some (.int .i64 r.a)
  c2 : w.cell? ⟨R, o + 2, none⟩ = some (.int .i64 r.b)
  c3 : w.cell? ⟨R, o + 3, none⟩ = some (.int .i64 r.c)
  c4 : w.cell? ⟨R, o + 4, none⟩ = some (.int .i64 r.tk)
  c5 : w.cell? ⟨R, o + 5, none⟩ = some (.int .i64 r.gv)
  c6 : w.cell? ⟨R, o + 6, none⟩ = some (.bool r.jm)
  c7 : w.cell? ⟨R, o + 7, none⟩ = some (.bool r.sp)
def RowsIn (w : World) : Prop := ∃ R off cap, w.cell? ⟨0, 0, none⟩ = some (.slice (some ⟨R, off, none⟩) 25 cap) ∧ ∀ i, i < 25 → RowCells w R (off + i * 8) (tab.getD i r0)
theorem RowCells.kept {w w' : World} {R o : Nat} {r : Rw} (h : RowCells w R o r) (k : Kp w w') : RowCells w' R o r :=
  have hb := block_of_cell h.c0
  ⟨(k.cells _ _ hb).trans h.c0, (k.cells _ _ hb).trans h.c1, (k.cells _ _ hb).trans h.c2, (k.cells _ _ hb).trans h.c3, (k.cells _ _ hb).trans h.c4, (k.cells _ _ hb).trans h.c5, (k.cells _ _ hb).trans h.c6, (k.cells _ _ hb).trans h.c7⟩
theorem RowsIn.kept {w w' : World} (h : RowsIn w) (k : Kp w w') : RowsIn w' := by
  obtain ⟨R, off, cap, h0, hc⟩ := h
  exact ⟨R, off, cap, (k.cells _ _ (block_of_cell h0)).trans h0, fun i hi => (hc i hi).kept k⟩
theorem var_lt {P : Program} {w : World} {n : String} {cs : Array Value} {g : Nat} (hg : P.globalNamed n = some g) (h : w.var? P n = some cs) : g < w.heap.size := by
  by_cases hs : g < w.heap.size
  · exact hs
  · have hn : w.heap[g]? = none := Array.getElem?_eq_none (by omega)
    unfold World.var? at h
    simp [hg, hn] at h
theorem var_kept {P : Program} {w w' : World} {n : String} {cs : Array Value} {g : Nat} (hg : P.globalNamed n = some g) (k : Kp w w') (h : w.var? P n = some cs) : w'.var? P n = some cs := var?_below k.below hg (var_lt hg h) h

/-- What the row lists, in memory. -/
structure Env (w : World) : Prop where
  rows : RowsIn w
  signs : SignsIn w
  names : NamesIn w
theorem Env.kept {w w' : World} (h : Env w) (k : Kp w w') : Env w' where
  rows := h.rows.kept k
  signs := h.signs.kept k
  names := h.names.kept k

set_option maxHeartbeats 1000000 in
theorem rowOf_in (op : Int) (w : World) (r : Rw) (R off cap : Nat) (h0 : 0 ≤ op) (h1 : op < 25) (hs : w.cell? ⟨0, 0, none⟩ = some (.slice (some ⟨R, off, none⟩) 25 cap)) (hr : RowCells w R (off + op.toNat * 8) r) :
    Calls Tryz.prog 91 #[.int .i64 op] w fun e w' => e = .returned (.agg #[.string (bytesOf r.name), .int .i64 r.a, .int .i64 r.b, .int .i64 r.c, .int .i64 r.tk, .int .i64 r.gv, .bool r.jm, .bool r.sp]) ∧ Kp w w' := by
  obtain ⟨c0, c1, c2, c3, c4, c5, c6, c7⟩ := hr
  have hb : R < w.heap.size := block_of_cell c0
  have hg : 0 < w.heap.size := block_of_cell hs
  go_enter Tryz.func91, Tryz.ntmps91
  go_wp2
  exact bodyPost_ret (v := .agg #[.string (bytesOf r.name), .int .i64 r.a, .int .i64 r.b, .int .i64 r.c, .int .i64 r.tk, .int .i64 r.gv, .bool r.jm, .bool r.sp]) (by simp [results, Tryz.results91, go_sem]) rfl ⟨rfl, (Kp.refl w).alloc _ _⟩
theorem rowOf_out (op : Int) (w : World) (R off cap : Nat) (h : op < 0 ∨ 25 ≤ op) (hs : w.cell? ⟨0, 0, none⟩ = some (.slice (some ⟨R, off, none⟩) 25 cap)) :
    Calls Tryz.prog 91 #[.int .i64 op] w fun e w' => e = .returned (.agg #[.string (bytesOf []), .int .i64 0, .int .i64 0, .int .i64 0, .int .i64 0, .int .i64 0, .bool false, .bool false]) ∧ Kp w w' := by
  have hg : 0 < w.heap.size := block_of_cell hs
  rcases h with h | h
  all_goals
    go_enter Tryz.func91, Tryz.ntmps91
    go_wp2
    exact bodyPost_ret (v := .agg #[.string ⟨#[]⟩, .int .i64 0, .int .i64 0, .int .i64 0, .int .i64 0, .int .i64 0, .bool false, .bool false]) (by simp [results, Tryz.results91, go_sem]) rfl ⟨rfl, (Kp.refl w).alloc _ _⟩
theorem rowOf_any {w : World} (hE : RowsIn w) (op : Int) (nm : List UInt8) (a b c tk gv : Int) (jm sp : Bool) (h : rowAt op = ⟨nm, a, b, c, tk, gv, jm, sp⟩) :
    Calls Tryz.prog 91 #[.int .i64 op] w fun e w' => e = .returned (.agg #[.string (bytesOf nm), .int .i64 a, .int .i64 b, .int .i64 c, .int .i64 tk, .int .i64 gv, .bool jm, .bool sp]) ∧ Kp w w' := by
  obtain ⟨R, off, cap, hs, hc⟩ := hE
  by_cases ho : op < 0 ∨ 25 ≤ op
  · rw [rowAt_out ho] at h
    cases h
    exact rowOf_out op w R off cap ho hs
  · rw [rowAt_in ho] at h
    have := hc op.toNat (by omega)
    rw [h] at this
    exact rowOf_in op w ⟨nm, a, b, c, tk, gv, jm, sp⟩ R off cap (by omega) (by omega) hs this
set_option maxRecDepth 100000 in
theorem nameOf_any {w : World} (hE : RowsIn w) (op : Int) :
    Calls Tryz.prog 90 #[.int .i64 op] w fun e w' => e = .returned (.string (bytesOf (opL op))) ∧ Kp w w' := by
  unfold opL
  generalize hr : rowAt op = r
  obtain ⟨nm, a, b, c, tk, gv, jm, sp⟩ := r
  have H := Lib.hid hr
  clear hr
  have hf : ∀ w, (Instr.field 131 (.agg #[.string (bytesOf nm), .int .i64 a, .int .i64 b, .int .i64 c, .int .i64 tk, .int .i64 gv, .bool jm, .bool sp]) 0).run Tryz.prog w = .ok (.string (bytesOf nm)) w := fun _ => by kernel_rfl
  go_enter Tryz.func90, Tryz.ntmps90
  go_wp2_with (go_at_call 91; refine (rowOf_any hE op nm a b c tk gv jm sp H.out).mono ?_; rintro e w1 ⟨rfl, k1⟩)
  go_ret
  exact ⟨rfl, k1⟩
theorem kinds_any (w : World) (s : ByteArray) (a b c tk gv : Int) (jm sp : Bool) :
    Calls Tryz.prog 92 #[.agg #[.string s, .int .i64 a, .int .i64 b, .int .i64 c, .int .i64 tk, .int .i64 gv, .bool jm, .bool sp]] w fun e w' => e = .returned (.agg #[.int .i64 a, .int .i64 b, .int .i64 c]) ∧ Kp w w' := by
  go_enter Tryz.func92, Tryz.ntmps92
  go_wp2
  exact bodyPost_ret (v := .agg #[.int .i64 a, .int .i64 b, .int .i64 c]) (by simp [results, Tryz.results92, go_sem]) rfl ⟨rfl, ((Kp.refl w).alloc _ _).alloc _ _⟩
end Co
end Go.Proofs.YtaeblnlbelebkaaGreatDoor
