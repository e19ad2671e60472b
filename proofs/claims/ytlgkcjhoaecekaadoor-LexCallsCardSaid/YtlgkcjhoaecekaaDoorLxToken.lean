/-
  WALKS: package lex, the reader's steps: token. Own work.
-/
import Derived.Test.YtlgkcjhoaecekaaDoorLxTok
import Derived.Deep.RegionLaw
namespace Go.Proofs.YtlgkcjhoaecekaaDoor
namespace Lx
open Go.RowKit Go
set_option linter.unusedVariables false

theorem info_tok : (Tryd.prog.info? 33).map (fun i => (i.zero, i.size, i.bytes)) = some (some (.agg #[.int .i64 0, .string ⟨#[]⟩, .int .i64 0, .int .i64 0, .int .u32 0]), 5, 48) := by kernel_rfl
theorem grown_cell {w w1 : World} {base : Nat} {e : TypeId} {size : Nat} {v : Value} {n : Nat} {xs : List Value} (ho : w.ownsRow base e size v n xs) (h : w.grownBy w1 v.ownBlock) {R : Nat} (hR : R < base) (hz : R < w.heap.size) : w1.heap[R]? = w.heap[R]? :=
  h.block R hz (fun e => by have := (ho.lt R e.symm).1; omega)
theorem grown_below {w w1 : World} {base : Nat} {e : TypeId} {size : Nat} {v : Value} {n : Nat} {xs : List Value} (ho : w.ownsRow base e size v n xs) (h : w.grownBy w1 v.ownBlock) (hb : base ≤ w.heap.size) : Below base w w1 :=
  ⟨h.os, h.tape, h.output, h.size, fun i hi => h.block i (Nat.lt_of_lt_of_le hi hb) (fun e => by have := (ho.lt i e.symm).1; omega)⟩
/-- The reader behind an append onto its tokens, and behind the store of the new slice. -/
theorem RdIn.grow {w w1 : World} {R : Nat} {s : St} {f tv : Value} (h : RdIn w R s f tv) (hg : w.grownBy w1 tv.ownBlock) {v : Value} {t : Tk} (ho : w1.ownsRow (R + 1) 33 5 v (s.ts.length + 1) (s.ts.flatMap celK ++ celK t)) :
    RdIn (w1.setCell ⟨R, 6, none⟩ v) R ⟨s.src, s.M, s.a, s.l, s.st, s.ts ++ [t], s.fe, s.fl, s.fc⟩ f v ∧ Below R w (w1.setCell ⟨R, 6, none⟩ v) ∧ w1.cell? ⟨R, 6, none⟩ = some tv ∧ w1.frozen? ⟨R, 6, none⟩ = false := by
  have B := grown_below h.own hg (Nat.succ_le_of_lt h.size)
  have c : ∀ o, w1.cell? ⟨R, o, none⟩ = w.cell? ⟨R, o, none⟩ := fun o => B.cell (p := ⟨R, o, none⟩) (by simp)
  have fz : ∀ o, w1.frozen? ⟨R, o, none⟩ = w.frozen? ⟨R, o, none⟩ := fun o => B.frozen (p := ⟨R, o, none⟩) (by simp)
  have q : ∀ o, o ≠ 6 → (w1.setCell ⟨R, 6, none⟩ v).cell? ⟨R, o, none⟩ = w.cell? ⟨R, o, none⟩ := fun o ho => (off_put _ ho).trans (c o)
  refine ⟨⟨by simpa using Nat.lt_of_lt_of_le h.size hg.size, (q 0 (by decide)).trans h.c0, (q 1 (by decide)).trans h.c1, (q 2 (by decide)).trans h.c2, (q 3 (by decide)).trans h.c3, (q 4 (by decide)).trans h.c4, (q 5 (by decide)).trans h.c5, cell_put ((c 6).trans h.c6), (q 7 (by decide)).trans h.c7, (q 8 (by decide)).trans h.c8, (q 9 (by decide)).trans h.c9, fun o => (World.frozen?_setCell _ _ _ _).trans ((fz o).trans (h.fro o)), ?_, ?_, h.mlt⟩, (B.mono (by omega)).trans (below_put _ _), (c 6).trans h.c6, (fz 6).trans (h.fro 6)⟩
  · have : ((s.ts ++ [t]).flatMap celK) = s.ts.flatMap celK ++ celK t := by simp
    rw [this, List.length_append]
    exact own_far ho (by omega) _ _
  · exact (h.map.below (B.mono (Nat.le_succ R)) h.mlt).below (below_put _ _) h.mlt
set_option maxHeartbeats 4000000 in
set_option maxRecDepth 100000 in
theorem token_any {w : World} {R : Nat} {s : St} {f tv : Value} (h : RdIn w R s f tv) (hs : StOk s) (k n : Int) (t : List UInt8) (hk : 0 ≤ k ∧ k ≤ 10) (hn : 0 ≤ n ∧ n ≤ 4294967295) (ht : s.a + t.length ≤ s.src.length) (c : Int) (hc : (s.a : Int) - s.st + 1 = c) :
    Calls Tryd.prog 58 #[.pointer (some ⟨R, 0, none⟩), .int .i64 k, .string (bytesOf t), .int .u32 n] w fun e w' => e = .returned (.func (.func 19) #[] #[]) ∧ ∃ tv', RdIn w' R ⟨s.src, s.M, s.a + t.length, s.l, s.st, s.ts ++ [⟨k, t, s.l, c, n⟩], s.fe, s.fl, s.fc⟩ f tv' ∧ Below R w w' := by
  obtain ⟨i0, hi, hz0, hz1, hz2⟩ := info_parts info_tok
  have hz := h.size
  have c3 := h.c3
  have c4 := h.c4
  have c6 := h.c6
  have f3 := h.fro 3
  have f6 := h.fro 6
  have hsz : (bytesOf t).size = t.length := bytesOf_size t
  have HT := Lib.hid hsz
  have h1 : (s.a : Int) + (bytesOf t).size ≤ 65536 := by rw [hsz]; have := hs.n; omega
  have h0 : (0 : Int) ≤ (s.a : Int) := by omega
  have hq0 : (0 : Int) ≤ ((bytesOf t).size : Int) := by omega
  have HLEN : Hid (s.ts.length ≤ 65536) := Lib.hid (by have := hs.ts; have := hs.a; have := hs.n; omega)
  have HC : Hid (∀ W, Kp w W → Calls Tryd.prog 67 #[.pointer (some ⟨R, 0, none⟩)] W fun e w' => e = .returned (.int .i64 c) ∧ Kp W w') := Lib.hid (fun W k => column_any (h.kp k) hs c hc)
  have HO : Hid (∀ W, Kp w W → W.ownsRow (R + 1) 33 5 tv s.ts.length (s.ts.flatMap celK)) := Lib.hid (fun W k => own_kp h.own k)
  have HG : Hid (∀ W w7 v, Kp w W → W.grownBy w7 tv.ownBlock → w7.ownsRow (R + 1) 33 5 v (s.ts.length + 1) (s.ts.flatMap celK ++ [.int .i64 k, .string (bytesOf t), .int .i64 s.l, .int .i64 c, .int .u32 n]) →
      (∀ z : Int, z = (s.a + t.length : Nat) → RdIn ((w7.setCell ⟨R, 6, none⟩ v).setCell ⟨R, 3, none⟩ (.int .i64 z)) R ⟨s.src, s.M, s.a + t.length, s.l, s.st, s.ts ++ [⟨k, t, s.l, c, n⟩], s.fe, s.fl, s.fc⟩ f v) ∧
      Below R w (w7.setCell ⟨R, 6, none⟩ v) ∧ w7.cell? ⟨R, 6, none⟩ = some tv ∧ w7.frozen? ⟨R, 6, none⟩ = false ∧ Below R w w7 ∧ w7.cell? ⟨R, 4, none⟩ = some (.int .i64 s.l) ∧
      (w7.setCell ⟨R, 6, none⟩ v).cell? ⟨R, 4, none⟩ = some (.int .i64 s.l) ∧ (w7.setCell ⟨R, 6, none⟩ v).cell? ⟨R, 3, none⟩ = some (.int .i64 s.a) ∧ (w7.setCell ⟨R, 6, none⟩ v).frozen? ⟨R, 3, none⟩ = false) := Lib.hid (fun W w7 v kW hg ho => by
    have hW := h.kp kW
    obtain ⟨r1, r2, r3, r4⟩ := hW.grow hg (t := ⟨k, t, s.l, c, n⟩) ho
    have B := grown_below hW.own hg (Nat.succ_le_of_lt hW.size)
    have BW := kW.down (Nat.le_of_lt h.size)
    exact ⟨fun z hz => r1.put3 (s.a + t.length) hz, BW.trans r2, r3, r4, BW.trans (B.mono (Nat.le_succ R)), (B.cell (p := ⟨R, 4, none⟩) (by simp)).trans hW.c4, r1.c4, r1.c3, r1.fro 3⟩)
  have HZ := Lib.hid hz
  clear h hs hc ht hsz hk hn
  generalize s.ts.flatMap celK = CS at *
  generalize eN : s.ts.length = N at *
  have EN := Lib.hid eN
  generalize el : s.l = l at *
  generalize ea : s.a = a at *
  clear eN
  have hNb : (N : Int) ≤ 65536 := by have := HLEN.out; omega
  go_enter Tryd.func58, Tryd.ntmps58
  go_wp2_with fail
  go_region_law (first
      | (go_simp; refine (HC.out _ (by first | exact Kp.refl _ | exact (Kp.refl _).drew)).mono ?_; rintro e w1 ⟨rfl, k1⟩; dsimp only; have k2 : Kp w w1 := ((Kp.refl w).drew).trans k1; have d6 := (k2.cells R 6 hz).trans c6; have z1 := Nat.lt_of_lt_of_le hz k2.size; have d4 := (k2.cells R 4 hz).trans c4)
      | (refine step_append_lies _ (by rfl) _ _ _ (by rfl) (R + 1) 33 i0 (.agg #[.int .i64 0, .string ⟨#[]⟩, .int .i64 0, .int .i64 0, .int .u32 0]) 5 48 Tryd.underlying22 hi hz0 hz1 hz2 rfl (by decide) tv N CS (by rfl) (HO.out _ (k2.alloc _ _)) _ 1 1 [.int .i64 k, .string (bytesOf t), .int .i64 l, .int .i64 c, .int .u32 n] (by rfl) (by rfl) (World.news_of_block (heap_alloc_new _ _)) (by intro u hu; simp only [List.mem_cons, List.not_mem_nil, or_false] at hu; rcases hu with rfl | rfl | rfl | rfl | rfl <;> rfl) (by decide) (by unfold maxLen; omega) (by omega) (by simp; omega) _ rfl ?_; intro g cap w7 hown7 hgrow7 hat7 hlt7; obtain ⟨r7, b7, d7, g7, b8, d8, d9, d10, g10⟩ := HG.out _ _ _ (k2.alloc _ _) hgrow7 hown7))
  all_goals
    clear d6 d7 d8 d4
    go_wp2
    go_ret
    refine ⟨rfl, _, r7 _ (by rw [HT.out]; omega), b7.trans (below_put _ _)⟩
end Lx
end Go.Proofs.YtlgkcjhoaecekaaDoor
