/-
  From a row's data to the walks' facts: the slices of an image that came in. No walk. Own work.
-/
import Derived.Test.YtaeblnlbelebkaaGreatDoorImCardKit
import Derived.Test.YtaeblnlbelebkaaGreatDoorImMem
import Derived.Test.YtaeblnlbelebkaaGreatDoorImNum
import Derived.Lib.SmallJoins
import Derived.Deep.Slices
import Derived.ChangeSlices
import Derived.OpenShut
namespace Go.Proofs.YtaeblnlbelebkaaGreatDoor
namespace Im
open Go.RowKit Go Go.ChangeShapes Go.WideShapes Go.Deep
open Co (In in0 Wf IIn cellsInt cellsBool cellsIns)
open Ln (VIn Vc)
set_option maxRecDepth 100000

theorem cellsFn : Tryz.prog.cellsOf 69 = 3 := by kernel_rfl
theorem cellsVc : Tryz.prog.cellsOf 71 = 3 := by kernel_rfl
theorem cellsPt : Tryz.prog.cellsOf 74 = 2 := by kernel_rfl
theorem cellsU : Tryz.prog.cellsOf 72 = 1 := by kernel_rfl
/-- A list out of a function below a length. -/
theorem list_of {α : Type} (d : α) (n : Nat) (f : Nat → α) : ((List.range n).map f).length = n ∧ ∀ i, i < n → ((List.range n).map f).getD i d = f i :=
  ⟨by simp, fun i hi => by simp [List.getD_eq_getElem?_getD, hi]⟩
section
variable {H : Type} {enc : TypeId × Value → H} {W : World}
theorem wf00 (i : Nat) : Wf (([] : List In).getD i in0) := ⟨by simp [in0], by simp [in0], by simp [in0], by simp [in0]⟩
theorem code_in {fuel : Nat} {a0 : Option Addr} {len cap : Nat} {x : DataW H × List MemPlace} (h : DataW.trod enc Tryz.prog W 0 (fun _ => true) true fuel 22 (Value.slice a0 len cap).cells.toList = some x) :
    ∃ l : List In, l.length = len ∧ CIn W a0 l ∧ len ≤ cap ∧ cap ≤ 9223372036854775807 ∧ ∀ i, Wf (l.getD i in0) := by
  have ec : (Value.slice a0 len cap).cells.toList = [Value.slice a0 len cap] := rfl
  rw [ec] at h
  rcases open_slice Tryz.underlying22 h with ⟨hc, _⟩ | ⟨a, len', cap', m, n, D, Pl, hc, _, hl, hm, hmm, _, hx⟩
  · simp only [List.cons.injEq, Value.slice.injEq, and_true] at hc
    obtain ⟨_, rfl, rfl⟩ := hc
    exact ⟨[], rfl, .inl rfl, Nat.zero_le _, by decide, fun i => Im.wf00 i⟩
  · simp only [List.cons.injEq, Value.slice.injEq, and_true] at hc
    obtain ⟨rfl, rfl, rfl⟩ := hc
    have hcap : cap ≤ 9223372036854775807 := by unfold maxLen at hm; omega
    simp only [if_true] at hmm
    subst hmm
    by_cases h0 : len = 0
    · exact ⟨[], h0.symm, .inl rfl, hl, hcap, fun i => Im.wf00 i⟩
    · obtain ⟨b, off, spot⟩ := a
      have each : ∀ i, i < len → ∃ v : In, W.cell? ((⟨b, off, spot⟩ : Addr).add (i * 4)) = some (.int .i64 v.op) ∧ W.cell? ((⟨b, off, spot⟩ : Addr).add (i * 4 + 1)) = some (.int .i64 v.a) ∧ W.cell? ((⟨b, off, spot⟩ : Addr).add (i * 4 + 2)) = some (.int .i64 v.b) ∧ W.cell? ((⟨b, off, spot⟩ : Addr).add (i * 4 + 3)) = some (.int .i64 v.c) ∧ Wf v := by
        intro i hi
        obtain ⟨cs', h1, h2⟩ := hx i (by omega)
        rw [cellsIns] at h1
        obtain ⟨_, hlen, hcell⟩ := World.cells?_some h1
        obtain ⟨xs, k, _, _, _, hxl, hf⟩ := DataW.trod_struct Tryz.underlying55 h2
        match xs, hxl, cs', hlen with
        | [y0, y1, y2, y3], _, [v0, v1, v2, v3], _ =>
          have e0 := hcell 0 (by omega)
          have e1 := hcell 1 (by omega)
          have e2 := hcell 2 (by omega)
          have e3 := hcell 3 (by omega)
          rw [add_add] at e0 e1 e2 e3
          have g0 := hf 0 _ rfl
          have g1 := hf 1 _ rfl
          have g2 := hf 2 _ rfl
          have g3 := hf 3 _ rfl
          simp [cellsInt] at g0 g1 g2 g3
          obtain ⟨z0, q0, _, w0⟩ := DataW.trod_int Tryz.underlying3 g0
          obtain ⟨z1, q1, _, w1⟩ := DataW.trod_int Tryz.underlying3 g1
          obtain ⟨z2, q2, _, w2⟩ := DataW.trod_int Tryz.underlying3 g2
          obtain ⟨z3, q3, _, w3⟩ := DataW.trod_int Tryz.underlying3 g3
          simp only [List.cons.injEq, and_true] at q0 q1 q2 q3
          subst q0 q1 q2 q3
          exact ⟨⟨z0, z1, z2, z3⟩, by simpa using e0, by simpa using e1, by simpa using e2, by simpa using e3, ⟨bounds_i64 w0, bounds_i64 w1, bounds_i64 w2, bounds_i64 w3⟩⟩
      have inh : Inhabited In := ⟨in0⟩
      obtain ⟨vs, hvs⟩ := choose_lt each
      have hspot : spot = none := by simpa [Addr.add] using World.cell?_spot (hvs 0 (by omega)).1
      subst hspot
      have pos : ∀ o, (⟨b, off, none⟩ : Addr).add o = ⟨b, off + o, none⟩ := fun o => by
        by_cases ho : o = 0
        · subst ho; simp [Addr.add]
        · simp [Addr.add, ho]
      obtain ⟨ll, lg⟩ := list_of in0 len vs
      have hl0 : ∀ i, i < len → W.cell? ⟨b, off + i * 4, none⟩ = some (.int .i64 (vs i).op) := fun i hi => by have := (hvs i hi).1; rwa [pos] at this
      refine ⟨(List.range len).map vs, ll, .inr ⟨b, off, rfl, World.block_lt_of_cell? W _ (hl0 0 (by omega)), fun i hi => ?_, fun i hi => ?_, fun i hi => ?_, fun i hi => ?_⟩, hl, hcap, fun i => ?_⟩
      · rw [ll] at hi; rw [lg i hi]; exact hl0 i hi
      · rw [ll] at hi; rw [lg i hi]; have := (hvs i hi).2.1; rwa [pos, ← Nat.add_assoc] at this
      · rw [ll] at hi; rw [lg i hi]; have := (hvs i hi).2.2.1; rwa [pos, ← Nat.add_assoc] at this
      · rw [ll] at hi; rw [lg i hi]; have := (hvs i hi).2.2.2.1; rwa [pos, ← Nat.add_assoc] at this
      · by_cases hi : i < len
        · rw [lg i hi]; exact (hvs i hi).2.2.2.2
        · rw [List.getD_eq_getElem?_getD, List.getElem?_eq_none (by rw [ll]; omega)]; exact Im.wf00 0
theorem funcs_in {fuel : Nat} {a0 : Option Addr} {len cap : Nat} {x : DataW H × List MemPlace} (h : DataW.trod enc Tryz.prog W 0 (fun _ => true) true fuel 23 (Value.slice a0 len cap).cells.toList = some x) :
    ∃ l : List Fn, l.length = len ∧ FIn W a0 l ∧ len ≤ cap ∧ cap ≤ 9223372036854775807 := by
  have ec : (Value.slice a0 len cap).cells.toList = [Value.slice a0 len cap] := rfl
  rw [ec] at h
  rcases open_slice Tryz.underlying23 h with ⟨hc, _⟩ | ⟨a, len', cap', m, n, D, Pl, hc, _, hl, hm, hmm, _, hx⟩
  · simp only [List.cons.injEq, Value.slice.injEq, and_true] at hc
    obtain ⟨_, rfl, rfl⟩ := hc
    exact ⟨[], rfl, .inl rfl, Nat.zero_le _, by decide⟩
  · simp only [List.cons.injEq, Value.slice.injEq, and_true] at hc
    obtain ⟨rfl, rfl, rfl⟩ := hc
    have hcap : cap ≤ 9223372036854775807 := by unfold maxLen at hm; omega
    simp only [if_true] at hmm
    subst hmm
    by_cases h0 : len = 0
    · exact ⟨[], h0.symm, .inl rfl, hl, hcap⟩
    · obtain ⟨b, off, spot⟩ := a
      have each : ∀ i, i < len → ∃ v : Fn, W.cell? ((⟨b, off, spot⟩ : Addr).add (i * 3)) = some (.int .i64 v.e) ∧ W.cell? ((⟨b, off, spot⟩ : Addr).add (i * 3 + 1)) = some (.int .i64 v.p) ∧ W.cell? ((⟨b, off, spot⟩ : Addr).add (i * 3 + 2)) = some (.int .i64 v.l) := by
        intro i hi
        obtain ⟨cs', h1, h2⟩ := hx i (by omega)
        rw [cellsFn] at h1
        obtain ⟨_, hlen, hcell⟩ := World.cells?_some h1
        obtain ⟨xs, k, _, _, _, hxl, hf⟩ := DataW.trod_struct Tryz.underlying69 h2
        match xs, hxl, cs', hlen with
        | [y0, y1, y2], _, [v0, v1, v2], _ =>
          have e0 := hcell 0 (by omega)
          have e1 := hcell 1 (by omega)
          have e2 := hcell 2 (by omega)
          rw [add_add] at e0 e1 e2
          have g0 := hf 0 _ rfl
          have g1 := hf 1 _ rfl
          have g2 := hf 2 _ rfl
          simp [cellsInt] at g0 g1 g2
          obtain ⟨z0, q0, _, w0⟩ := DataW.trod_int Tryz.underlying3 g0
          obtain ⟨z1, q1, _, w1⟩ := DataW.trod_int Tryz.underlying3 g1
          obtain ⟨z2, q2, _, w2⟩ := DataW.trod_int Tryz.underlying3 g2
          simp only [List.cons.injEq, and_true] at q0 q1 q2
          subst q0 q1 q2
          exact ⟨⟨z0, z1, z2⟩, by simpa using e0, by simpa using e1, by simpa using e2⟩
      have inh : Inhabited Fn := ⟨f0⟩
      obtain ⟨vs, hvs⟩ := choose_lt each
      have hspot : spot = none := by simpa [Addr.add] using World.cell?_spot (hvs 0 (by omega)).1
      subst hspot
      have pos : ∀ o, (⟨b, off, none⟩ : Addr).add o = ⟨b, off + o, none⟩ := fun o => by
        by_cases ho : o = 0
        · subst ho; simp [Addr.add]
        · simp [Addr.add, ho]
      obtain ⟨ll, lg⟩ := list_of f0 len vs
      have hl0 : ∀ i, i < len → W.cell? ⟨b, off + i * 3, none⟩ = some (.int .i64 (vs i).e) := fun i hi => by have := (hvs i hi).1; rwa [pos] at this
      refine ⟨(List.range len).map vs, ll, .inr ⟨b, off, rfl, World.block_lt_of_cell? W _ (hl0 0 (by omega)), fun i hi => ?_, fun i hi => ?_, fun i hi => ?_⟩, hl, hcap⟩
      · rw [ll] at hi; rw [lg i hi]; exact hl0 i hi
      · rw [ll] at hi; rw [lg i hi]; have := (hvs i hi).2.1; rwa [pos, ← Nat.add_assoc] at this
      · rw [ll] at hi; rw [lg i hi]; have := (hvs i hi).2.2; rwa [pos, ← Nat.add_assoc] at this
theorem ports_in {fuel : Nat} {a0 : Option Addr} {len cap : Nat} {x : DataW H × List MemPlace} (h : DataW.trod enc Tryz.prog W 0 (fun _ => true) true fuel 26 (Value.slice a0 len cap).cells.toList = some x) :
    ∃ l : List Pt, l.length = len ∧ PIn W a0 l ∧ len ≤ cap ∧ cap ≤ 9223372036854775807 := by
  have ec : (Value.slice a0 len cap).cells.toList = [Value.slice a0 len cap] := rfl
  rw [ec] at h
  rcases open_slice Tryz.underlying26 h with ⟨hc, _⟩ | ⟨a, len', cap', m, n, D, Pl, hc, _, hl, hm, hmm, _, hx⟩
  · simp only [List.cons.injEq, Value.slice.injEq, and_true] at hc
    obtain ⟨_, rfl, rfl⟩ := hc
    exact ⟨[], rfl, .inl rfl, Nat.zero_le _, by decide⟩
  · simp only [List.cons.injEq, Value.slice.injEq, and_true] at hc
    obtain ⟨rfl, rfl, rfl⟩ := hc
    have hcap : cap ≤ 9223372036854775807 := by unfold maxLen at hm; omega
    simp only [if_true] at hmm
    subst hmm
    by_cases h0 : len = 0
    · exact ⟨[], h0.symm, .inl rfl, hl, hcap⟩
    · obtain ⟨b, off, spot⟩ := a
      have each : ∀ i, i < len → ∃ v : Pt, W.cell? ((⟨b, off, spot⟩ : Addr).add (i * 2)) = some (.bool v.r) ∧ W.cell? ((⟨b, off, spot⟩ : Addr).add (i * 2 + 1)) = some (.bool v.w) := by
        intro i hi
        obtain ⟨cs', h1, h2⟩ := hx i (by omega)
        rw [cellsPt] at h1
        obtain ⟨_, hlen, hcell⟩ := World.cells?_some h1
        obtain ⟨xs, k, _, _, _, hxl, hf⟩ := DataW.trod_struct Tryz.underlying74 h2
        match xs, hxl, cs', hlen with
        | [y0, y1], _, [v0, v1], _ =>
          have e0 := hcell 0 (by omega)
          have e1 := hcell 1 (by omega)
          rw [add_add] at e0 e1
          have g0 := hf 0 _ rfl
          have g1 := hf 1 _ rfl
          simp [cellsBool] at g0 g1
          obtain ⟨z0, q0, _⟩ := DataW.trod_bool Tryz.underlying4 g0
          obtain ⟨z1, q1, _⟩ := DataW.trod_bool Tryz.underlying4 g1
          simp only [List.cons.injEq, and_true] at q0 q1
          subst q0 q1
          exact ⟨⟨z0, z1⟩, by simpa using e0, by simpa using e1⟩
      have inh : Inhabited Pt := ⟨p0⟩
      obtain ⟨vs, hvs⟩ := choose_lt each
      have hspot : spot = none := by simpa [Addr.add] using World.cell?_spot (hvs 0 (by omega)).1
      subst hspot
      have pos : ∀ o, (⟨b, off, none⟩ : Addr).add o = ⟨b, off + o, none⟩ := fun o => by
        by_cases ho : o = 0
        · subst ho; simp [Addr.add]
        · simp [Addr.add, ho]
      obtain ⟨ll, lg⟩ := list_of p0 len vs
      have hl0 : ∀ i, i < len → W.cell? ⟨b, off + i * 2, none⟩ = some (.bool (vs i).r) := fun i hi => by have := (hvs i hi).1; rwa [pos] at this
      refine ⟨(List.range len).map vs, ll, .inr ⟨b, off, rfl, World.block_lt_of_cell? W _ (hl0 0 (by omega)), fun i hi => ?_, fun i hi => ?_⟩, hl, hcap⟩
      · rw [ll] at hi; rw [lg i hi]; exact hl0 i hi
      · rw [ll] at hi; rw [lg i hi]; have := (hvs i hi).2; rwa [pos, ← Nat.add_assoc] at this
def VL (w : World) (ao : Option Addr) (l : List Vc) : Prop := VIn w ao (fun k => l.getD k Im.v0) l.length
theorem vecs_in {fuel : Nat} {a0 : Option Addr} {len cap : Nat} {x : DataW H × List MemPlace} (h : DataW.trod enc Tryz.prog W 0 (fun _ => true) true fuel 24 (Value.slice a0 len cap).cells.toList = some x) :
    ∃ l : List Vc, l.length = len ∧ VL W a0 l ∧ len ≤ cap ∧ cap ≤ 9223372036854775807 := by
  have ec : (Value.slice a0 len cap).cells.toList = [Value.slice a0 len cap] := rfl
  rw [ec] at h
  rcases open_slice Tryz.underlying24 h with ⟨hc, _⟩ | ⟨a, len', cap', m, n, D, Pl, hc, _, hl, hm, hmm, _, hx⟩
  · simp only [List.cons.injEq, Value.slice.injEq, and_true] at hc
    obtain ⟨_, rfl, rfl⟩ := hc
    exact ⟨[], rfl, .inl rfl, Nat.zero_le _, by decide⟩
  · simp only [List.cons.injEq, Value.slice.injEq, and_true] at hc
    obtain ⟨rfl, rfl, rfl⟩ := hc
    have hcap : cap ≤ 9223372036854775807 := by unfold maxLen at hm; omega
    simp only [if_true] at hmm
    subst hmm
    by_cases h0 : len = 0
    · exact ⟨[], h0.symm, .inl rfl, hl, hcap⟩
    · obtain ⟨b, off, spot⟩ := a
      have each : ∀ i, i < len → ∃ v : Vc, W.cell? ((⟨b, off, spot⟩ : Addr).add (i * 3)) = some (.int .i64 v.l) ∧ W.cell? ((⟨b, off, spot⟩ : Addr).add (i * 3 + 1)) = some (.int .i64 v.p) ∧ W.cell? ((⟨b, off, spot⟩ : Addr).add (i * 3 + 2)) = some (.int .i64 v.f) := by
        intro i hi
        obtain ⟨cs', h1, h2⟩ := hx i (by omega)
        rw [cellsVc] at h1
        obtain ⟨_, hlen, hcell⟩ := World.cells?_some h1
        obtain ⟨xs, k, _, _, _, hxl, hf⟩ := DataW.trod_struct Tryz.underlying71 h2
        match xs, hxl, cs', hlen with
        | [y0, y1, y2], _, [v0, v1, v2], _ =>
          have e0 := hcell 0 (by omega)
          have e1 := hcell 1 (by omega)
          have e2 := hcell 2 (by omega)
          rw [add_add] at e0 e1 e2
          have g0 := hf 0 _ rfl
          have g1 := hf 1 _ rfl
          have g2 := hf 2 _ rfl
          simp [cellsInt] at g0 g1 g2
          obtain ⟨z0, q0, _, w0⟩ := DataW.trod_int Tryz.underlying3 g0
          obtain ⟨z1, q1, _, w1⟩ := DataW.trod_int Tryz.underlying3 g1
          obtain ⟨z2, q2, _, w2⟩ := DataW.trod_int Tryz.underlying3 g2
          simp only [List.cons.injEq, and_true] at q0 q1 q2
          subst q0 q1 q2
          exact ⟨⟨z0, z1, z2⟩, by simpa using e0, by simpa using e1, by simpa using e2⟩
      have inh : Inhabited Vc := ⟨Im.v0⟩
      obtain ⟨vs, hvs⟩ := choose_lt each
      have hspot : spot = none := by simpa [Addr.add] using World.cell?_spot (hvs 0 (by omega)).1
      subst hspot
      have pos : ∀ o, (⟨b, off, none⟩ : Addr).add o = ⟨b, off + o, none⟩ := fun o => by
        by_cases ho : o = 0
        · subst ho; simp [Addr.add]
        · simp [Addr.add, ho]
      obtain ⟨ll, lg⟩ := list_of Im.v0 len vs
      have hl0 : ∀ i, i < len → W.cell? ⟨b, off + i * 3, none⟩ = some (.int .i64 (vs i).l) := fun i hi => by have := (hvs i hi).1; rwa [pos] at this
      refine ⟨(List.range len).map vs, ll, .inr ⟨b, off, rfl, World.block_lt_of_cell? W _ (hl0 0 (by omega)), fun i hi => ?_, fun i hi => ?_, fun i hi => ?_⟩, hl, hcap⟩
      · rw [ll] at hi; rw [lg i hi]; exact hl0 i hi
      · rw [ll] at hi; rw [lg i hi]; have := (hvs i hi).2.1; rwa [pos, ← Nat.add_assoc] at this
      · rw [ll] at hi; rw [lg i hi]; have := (hvs i hi).2.2; rwa [pos, ← Nat.add_assoc] at this
theorem bounds_u32 {n : Int} (h : (Lit.int .u32 n).wf = true) : 0 ≤ n ∧ n ≤ 4294967295 := by
  simp [Lit.wf, IntKind.min, IntKind.max, IntKind.signed, IntKind.bits] at h
  omega
theorem init_in {fuel : Nat} {a0 : Option Addr} {len cap : Nat} {x : DataW H × List MemPlace} (h : DataW.trod enc Tryz.prog W 0 (fun _ => true) true fuel 25 (Value.slice a0 len cap).cells.toList = some x) :
    ∃ l : List Int, l.length = len ∧ UIn W a0 l ∧ len ≤ cap ∧ cap ≤ 9223372036854775807 ∧ ∀ i, 0 ≤ l.getD i 0 ∧ l.getD i 0 ≤ 4294967295 := by
  have ec : (Value.slice a0 len cap).cells.toList = [Value.slice a0 len cap] := rfl
  rw [ec] at h
  rcases open_slice1 Tryz.underlying25 cellsU h with ⟨hc, _⟩ | ⟨a, len', cap', m, n, V, D, Pl, hc, _, hl, hm, hmm, _, hx⟩
  · simp only [List.cons.injEq, Value.slice.injEq, and_true] at hc
    obtain ⟨_, rfl, rfl⟩ := hc
    exact ⟨[], rfl, .inl rfl, Nat.zero_le _, by decide, fun i => by simp⟩
  · simp only [List.cons.injEq, Value.slice.injEq, and_true] at hc
    obtain ⟨rfl, rfl, rfl⟩ := hc
    have hcap : cap ≤ 9223372036854775807 := by unfold maxLen at hm; omega
    simp only [if_true] at hmm
    subst hmm
    by_cases h0 : len = 0
    · exact ⟨[], h0.symm, .inl rfl, hl, hcap, fun i => by simp⟩
    · obtain ⟨b, off, spot⟩ := a
      have each : ∀ i, i < len → ∃ z : Int, W.cell? ((⟨b, off, spot⟩ : Addr).add i) = some (.int .u32 z) ∧ 0 ≤ z ∧ z ≤ 4294967295 := by
        intro i hi
        obtain ⟨h1, h2⟩ := hx i (by omega)
        obtain ⟨z, q, _, w⟩ := DataW.trod_int Tryz.underlying72 h2
        simp only [List.cons.injEq, and_true] at q
        rw [q] at h1
        exact ⟨z, h1, bounds_u32 w⟩
      obtain ⟨vs, hvs⟩ := choose_lt each
      have hspot : spot = none := by simpa [Addr.add] using World.cell?_spot (hvs 0 (by omega)).1
      subst hspot
      have pos : ∀ o, (⟨b, off, none⟩ : Addr).add o = ⟨b, off + o, none⟩ := fun o => by
        by_cases ho : o = 0
        · subst ho; simp [Addr.add]
        · simp [Addr.add, ho]
      obtain ⟨ll, lg⟩ := list_of (0 : Int) len vs
      have hl0 : ∀ i, i < len → W.cell? ⟨b, off + i, none⟩ = some (.int .u32 (vs i)) := fun i hi => by have := (hvs i hi).1; rwa [pos] at this
      refine ⟨(List.range len).map vs, ll, .inr ⟨b, off, rfl, World.block_lt_of_cell? W _ (hl0 0 (by omega)), fun i hi => ?_⟩, hl, hcap, fun i => ?_⟩
      · rw [ll] at hi; rw [lg i hi]; exact hl0 i hi
      · by_cases hi : i < len
        · rw [lg i hi]; exact (hvs i hi).2
        · rw [List.getD_eq_getElem?_getD, List.getElem?_eq_none (by rw [ll]; omega)]; simp
theorem ints_list {fuel : Nat} {v : Value} {x : DataW H × List MemPlace} (h : DataW.trod enc Tryz.prog W 0 (fun _ => true) true fuel 50 [v] = some x) :
    ∃ (ao : Option Addr) (l : List Int) (cap : Nat), v = .slice ao l.length cap ∧ IIn W ao (fun j => l.getD j 0) l.length ∧ l.length ≤ 9223372036854775807 := by
  rcases open_ints Tryz.underlying50 Tryz.underlying3 cellsInt h with ⟨hc, _⟩ | ⟨a, len, cap, zs, hc, _, hl, hm, hz, _, hcell, _⟩
  · simp only [List.cons.injEq, and_true] at hc
    subst hc
    exact ⟨none, [], 0, rfl, .inl rfl, by decide⟩
  · simp only [List.cons.injEq, and_true] at hc
    subst hc
    simp only [if_true] at hz
    have hm' : len ≤ 9223372036854775807 := by unfold maxLen at hm; omega
    by_cases h0 : len = 0
    · subst h0
      exact ⟨some a, [], cap, rfl, .inl rfl, by decide⟩
    · obtain ⟨b, off, spot⟩ := a
      have hspot : spot = none := by simpa [Addr.add] using World.cell?_spot (hcell 0 (by omega))
      subst hspot
      have hat : ∀ i, i < len → W.cell? ⟨b, off + i, none⟩ = some (.int .i64 (zs.getD i 0)) := fun i hi => by
        have := hcell i (by omega)
        by_cases hi0 : i = 0
        · subst hi0; simpa [Addr.add] using this
        · simpa [Addr.add, hi0] using this
      obtain ⟨ll, lg⟩ := list_of (0 : Int) len (fun i => zs.getD i 0)
      refine ⟨some ⟨b, off, none⟩, (List.range len).map (fun i => zs.getD i 0), cap, by rw [ll], .inr ⟨b, off, rfl, World.block_lt_of_cell? W _ (hat 0 (by omega)), fun i hi => ?_⟩, by rw [ll]; exact hm'⟩
      rw [ll] at hi
      rw [lg i hi]
      exact hat i hi
theorem cellsLst : Tryz.prog.cellsOf 50 = 1 := by kernel_rfl
theorem atoms_in {fuel : Nat} {a0 : Option Addr} {len cap : Nat} {x : DataW H × List MemPlace} (h : DataW.trod enc Tryz.prog W 0 (fun _ => true) true fuel 27 (Value.slice a0 len cap).cells.toList = some x) :
    ∃ l : List (List Int), l.length = len ∧ AIn W a0 l ∧ len ≤ cap ∧ cap ≤ 9223372036854775807 ∧ ∀ i, (l.getD i []).length ≤ 9223372036854775807 := by
  have ec : (Value.slice a0 len cap).cells.toList = [Value.slice a0 len cap] := rfl
  rw [ec] at h
  rcases open_slice1 Tryz.underlying27 cellsLst h with ⟨hc, _⟩ | ⟨a, len', cap', m, n, V, D, Pl, hc, _, hl, hm, hmm, _, hx⟩
  · simp only [List.cons.injEq, Value.slice.injEq, and_true] at hc
    obtain ⟨_, rfl, rfl⟩ := hc
    exact ⟨[], rfl, .inl rfl, Nat.zero_le _, by decide, fun i => by simp⟩
  · simp only [List.cons.injEq, Value.slice.injEq, and_true] at hc
    obtain ⟨rfl, rfl, rfl⟩ := hc
    have hcap : cap ≤ 9223372036854775807 := by unfold maxLen at hm; omega
    simp only [if_true] at hmm
    subst hmm
    by_cases h0 : len = 0
    · exact ⟨[], h0.symm, .inl rfl, hl, hcap, fun i => by simp⟩
    · obtain ⟨b, off, spot⟩ := a
      have each : ∀ i, i < len → ∃ q : Option Addr × List Int × Nat, W.cell? ((⟨b, off, spot⟩ : Addr).add i) = some (.slice q.1 q.2.1.length q.2.2) ∧ IIn W q.1 (fun j => q.2.1.getD j 0) q.2.1.length ∧ q.2.1.length ≤ 9223372036854775807 := by
        intro i hi
        obtain ⟨h1, h2⟩ := hx i (by omega)
        obtain ⟨ao, l, c, e, g, k⟩ := ints_list h2
        rw [e] at h1
        exact ⟨(ao, l, c), h1, g, k⟩
      have inh : Inhabited (Option Addr × List Int × Nat) := ⟨(none, [], 0)⟩
      obtain ⟨vs, hvs⟩ := choose_lt each
      have hspot : spot = none := by simpa [Addr.add] using World.cell?_spot (hvs 0 (by omega)).1
      subst hspot
      have pos : ∀ o, (⟨b, off, none⟩ : Addr).add o = ⟨b, off + o, none⟩ := fun o => by
        by_cases ho : o = 0
        · subst ho; simp [Addr.add]
        · simp [Addr.add, ho]
      obtain ⟨ll, lg⟩ := list_of ([] : List Int) len (fun i => (vs i).2.1)
      have hl0 : ∀ i, i < len → W.cell? ⟨b, off + i, none⟩ = some (.slice (vs i).1 (vs i).2.1.length (vs i).2.2) := fun i hi => by have := (hvs i hi).1; rwa [pos] at this
      refine ⟨(List.range len).map (fun i => (vs i).2.1), ll, .inr ⟨b, off, rfl, World.block_lt_of_cell? W _ (hl0 0 (by omega)), fun i hi => ?_⟩, hl, hcap, fun i => ?_⟩
      · rw [ll] at hi; rw [lg i hi]; exact ⟨_, _, hl0 i hi, (hvs i hi).2.1⟩
      · by_cases hi : i < len
        · rw [lg i hi]; exact (hvs i hi).2.2
        · rw [List.getD_eq_getElem?_getD, List.getElem?_eq_none (by rw [ll]; omega)]; simp
theorem slice_form {t e : TypeId} {fuel : Nat} {v : Value} {x : DataW H × List MemPlace} (ht : Tryz.prog.underlying t = some (.slice e)) (h : DataW.trod enc Tryz.prog W 0 (fun _ => true) true fuel t [v] = some x) : ∃ a len cap, v = .slice a len cap := by
  rcases open_slice ht h with ⟨hc, _⟩ | ⟨a, len, cap, _, _, _, _, hc, _⟩
  · simp only [List.cons.injEq, and_true] at hc
    exact ⟨_, _, _, hc⟩
  · simp only [List.cons.injEq, and_true] at hc
    exact ⟨_, _, _, hc⟩
theorem cellsImg : Tryz.prog.cellsOf 29 = 8 := by kernel_rfl
theorem cellsS0 : Tryz.prog.cellsOf 22 = 1 := by kernel_rfl
theorem cellsS1 : Tryz.prog.cellsOf 23 = 1 := by kernel_rfl
theorem cellsS2 : Tryz.prog.cellsOf 24 = 1 := by kernel_rfl
theorem cellsS4 : Tryz.prog.cellsOf 25 = 1 := by kernel_rfl
theorem cellsS5 : Tryz.prog.cellsOf 26 = 1 := by kernel_rfl
theorem cellsS7 : Tryz.prog.cellsOf 27 = 1 := by kernel_rfl
/-- An image that came in. -/
theorem img_in {base : Nat} {v : Value} {d : DataW H} {p : List MemPlace} (hv : Value.okWide Tryz.prog W .any base 29 v) (h : DataW.Trod enc Tryz.prog W 0 (fun _ => true) true 29 v d p) :
    ∃ (hd : Hd) (m : Im), v = hd.val m ∧ ImIn W hd m ∧ ImWf m := by
  obtain ⟨cs, rfl, hsz⟩ := okWide_struct Tryz.underlying29 hv
  obtain ⟨fuel, hf⟩ := h
  obtain ⟨xs, n, _, _, hl, hxl, hf⟩ := DataW.trod_struct Tryz.underlying29 hf
  rw [cellsImg] at hsz
  obtain ⟨l⟩ := cs
  simp only [List.size_toArray] at hsz
  match xs, hxl, l, hsz with
  | [y0, y1, y2, y3, y4, y5, y6, y7], _, [v0, v1, v2, v3, v4, v5, v6, v7], _ =>
    have g0 := hf 0 _ rfl
    have g1 := hf 1 _ rfl
    have g2 := hf 2 _ rfl
    have g3 := hf 3 _ rfl
    have g4 := hf 4 _ rfl
    have g5 := hf 5 _ rfl
    have g6 := hf 6 _ rfl
    have g7 := hf 7 _ rfl
    simp [Value.cells, cellsInt, cellsS0, cellsS1, cellsS2, cellsS4, cellsS5, cellsS7] at g0 g1 g2 g3 g4 g5 g6 g7
    obtain ⟨a0, n0, c0, rfl⟩ := slice_form Tryz.underlying22 g0
    obtain ⟨a1, n1, c1, rfl⟩ := slice_form Tryz.underlying23 g1
    obtain ⟨a2, n2, c2, rfl⟩ := slice_form Tryz.underlying24 g2
    obtain ⟨z3, q3, _⟩ := DataW.trod_int Tryz.underlying3 g3
    obtain ⟨a4, n4, c4, rfl⟩ := slice_form Tryz.underlying25 g4
    obtain ⟨a5, n5, c5, rfl⟩ := slice_form Tryz.underlying26 g5
    obtain ⟨z6, q6, _⟩ := DataW.trod_int Tryz.underlying3 g6
    obtain ⟨a7, n7, c7, rfl⟩ := slice_form Tryz.underlying27 g7
    simp only [List.cons.injEq, and_true] at q3 q6
    subst q3 q6
    obtain ⟨l0, rfl, i0, k0, m0, w0⟩ := code_in g0
    obtain ⟨l1, rfl, i1, k1, m1⟩ := funcs_in g1
    obtain ⟨l2, rfl, i2, k2, m2⟩ := vecs_in g2
    obtain ⟨l4, rfl, i4, k4, m4, w4⟩ := init_in g4
    obtain ⟨l5, rfl, i5, k5, m5⟩ := ports_in g5
    obtain ⟨l7, rfl, i7, k7, m7, w7⟩ := atoms_in g7
    exact ⟨⟨a0, c0, a1, c1, a2, c2, a4, c4, a5, c5, a7, c7⟩, ⟨l0, l1, l2, z3, l4, l5, z6, l7⟩, rfl, ⟨i0, i1, i2, i4, i5, i7, k0, m0⟩,
      ⟨Nat.le_trans k0 m0, Nat.le_trans k1 m1, Nat.le_trans k2 m2, Nat.le_trans k4 m4, Nat.le_trans k5 m5, Nat.le_trans k7 m7, w7, w0, w4⟩⟩
theorem bounds_u8 {n : Int} (h : (Lit.int .u8 n).wf = true) : 0 ≤ n ∧ n ≤ 255 := by
  simp [Lit.wf, IntKind.min, IntKind.max, IntKind.signed, IntKind.bits] at h
  omega
theorem cellsU8 : Tryz.prog.cellsOf 5 = 1 := by kernel_rfl
/-- Bytes that came in. -/
theorem bytes_in {fuel : Nat} {v : Value} {x : DataW H × List MemPlace} (h : DataW.trod enc Tryz.prog W 0 (fun _ => true) true fuel 30 v.cells.toList = some x) (hv : ∃ a len cap, v = .slice a len cap) :
    ∃ (ao : Option Addr) (cap : Nat) (l : List UInt8), v = .slice ao l.length cap ∧ BIn W W.heap.size ao l ∧ (ao = none → cap = 0) := by
  obtain ⟨a0, len, cap, rfl⟩ := hv
  have ec : (Value.slice a0 len cap).cells.toList = [Value.slice a0 len cap] := rfl
  rw [ec] at h
  rcases open_slice1 Tryz.underlying30 cellsU8 h with ⟨hc, _⟩ | ⟨a, len', cap', m, n, V, D, Pl, hc, _, hl, hm, hmm, _, hx⟩
  · simp only [List.cons.injEq, Value.slice.injEq, and_true] at hc
    obtain ⟨rfl, rfl, rfl⟩ := hc
    exact ⟨none, 0, [], rfl, .inl rfl, fun _ => rfl⟩
  · simp only [List.cons.injEq, Value.slice.injEq, and_true] at hc
    obtain ⟨rfl, rfl, rfl⟩ := hc
    simp only [if_true] at hmm
    subst hmm
    by_cases h0 : len = 0
    · subst h0
      exact ⟨some a, _, [], rfl, .inl rfl, fun e => by cases e⟩
    · obtain ⟨b, off, spot⟩ := a
      have each : ∀ i, i < len → ∃ z : UInt8, W.cell? ((⟨b, off, spot⟩ : Addr).add i) = some (.int .u8 (z.toNat : Int)) := by
        intro i hi
        obtain ⟨h1, h2⟩ := hx i (by omega)
        obtain ⟨z, q, _, w⟩ := DataW.trod_int Tryz.underlying5 h2
        simp only [List.cons.injEq, and_true] at q
        rw [q] at h1
        obtain ⟨z0, z1⟩ := bounds_u8 w
        refine ⟨UInt8.ofNat z.toNat, ?_⟩
        have e8 : (UInt8.ofNat z.toNat).toNat = z.toNat := by simp; omega
        rw [h1, e8]
        congr 2
        omega
      obtain ⟨vs, hvs⟩ := choose_lt each
      have hspot : spot = none := by simpa [Addr.add] using World.cell?_spot (hvs 0 (by omega))
      subst hspot
      have pos : ∀ o, (⟨b, off, none⟩ : Addr).add o = ⟨b, off + o, none⟩ := fun o => by
        by_cases ho : o = 0
        · subst ho; simp [Addr.add]
        · simp [Addr.add, ho]
      obtain ⟨ll, lg⟩ := list_of (0 : UInt8) len vs
      have hl0 : ∀ i, i < len → W.cell? ⟨b, off + i, none⟩ = some (.int .u8 ((vs i).toNat : Int)) := fun i hi => by have := hvs i hi; rwa [pos] at this
      have hb := World.block_lt_of_cell? W _ (hl0 0 (by omega))
      refine ⟨some ⟨b, off, none⟩, _, (List.range len).map vs, by rw [ll], .inr ⟨b, off, rfl, hb, hb, fun i hi => ?_⟩, fun e => by cases e⟩
      rw [ll] at hi
      rw [lg i hi]
      exact hl0 i hi
end
end Im
end Go.Proofs.YtaeblnlbelebkaaGreatDoor
