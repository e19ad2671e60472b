/-
  From a row's data to the walks' facts: the table that the row lists, a slice of ints, a slice of vectors. No walk. Own work.
-/
import Derived.Test.YtlhbpklilfabnaaDoorLinSets
import Derived.Lib.LaidTab
import Derived.Deep.Slices
import Derived.ChangeSlices
import Derived.Stop.LaidErr
namespace Go.Proofs.YtlhbpklilfabnaaDoor
namespace Ln
open Go.RowKit Go Go.ChangeShapes Go.WideShapes Go.Deep

theorem cellsInt : Tryd.prog.cellsOf 3 = 1 := by kernel_rfl
theorem cellsVec : Tryd.prog.cellsOf 35 = 3 := by kernel_rfl
theorem cellsByte : Tryd.prog.cellsOf 5 = 1 := by kernel_rfl
theorem cellsTab : Tryd.prog.cellsOf 50 = 32 := by kernel_rfl
theorem gTab : Tryd.prog.globalNamed "math/bits.deBruijn32tab" = some 0 := by kernel_rfl
theorem gTabType : (Tryd.prog.globals[0]?).map (·.type) = some 50 := by kernel_rfl
theorem ownK : ownKnob Tryd.prog.godebug = none := by kernel_rfl
theorem laidOutK : laidOutB Tryd.prog = true := by kernel_rfl

/-- The table as the row lists it. -/
def tabInts : List Int := Lib.deBruijn32tab.map fun (i : Nat) => (i : Int)
theorem tab_in {W : World} {rest : List (String × DataW Unit)} (h : laidMet Tryd.prog (("math/bits.deBruijn32tab", Rows.laid_math_bits_deBruijn32tab) :: rest) W) : TabIn W := by
  have e : (Rows.laid_math_bits_deBruijn32tab : DataW Unit) = Lib.tabData .u8 tabInts := rfl
  rw [e] at h
  have ht := Lib.tabIs_of_head gTab gTabType Tryd.underlying50 Tryd.underlying5 cellsByte cellsTab h
  have hc : ∀ i, i < 32 → W.cell? ⟨0, i, none⟩ = some (.int .u8 (Lib.deBruijn32tab.getD i 0 : Nat)) := fun i hi => by
    rw [ht.cell gTab i hi]
    unfold tabInts
    have hl : i < Lib.deBruijn32tab.length := hi
    rw [List.getD, List.getElem?_map, List.getD, List.getElem?_eq_getElem hl]
    rfl
  exact ⟨World.block_lt_of_cell? W _ (hc 0 (by decide)), hc⟩
/-- A block that holds the table. -/
def layTab : Obj → Obj
  | .cells _ t frozen => .cells (tabInts.map fun z => Value.int .u8 z).toArray t frozen
  | o => o

section
variable {H : Type} {enc : TypeId × Value → H} {W : World}
theorem ints_in {fuel : Nat} {a0 : Option Addr} {len cap : Nat} {x : DataW H × List MemPlace} (h : DataW.trod enc Tryd.prog W 0 (fun _ => true) true fuel 36 (Value.slice a0 len cap).cells.toList = some x) :
    ∃ xs, IIn W a0 xs len ∧ len ≤ maxLen := by
  have ec : (Value.slice a0 len cap).cells.toList = [Value.slice a0 len cap] := rfl
  rw [ec] at h
  rcases open_ints Tryd.underlying36 Tryd.underlying3 cellsInt h with ⟨hc, _⟩ | ⟨a, len', cap', zs, hc, _, hl, hm, hz, _, hcell, _⟩
  · simp only [List.cons.injEq, Value.slice.injEq, and_true] at hc
    obtain ⟨_, rfl, _⟩ := hc
    exact ⟨fun _ => 0, .inl rfl, Nat.zero_le _⟩
  · simp only [List.cons.injEq, Value.slice.injEq, and_true] at hc
    obtain ⟨rfl, rfl, rfl⟩ := hc
    simp only [if_true] at hz
    by_cases h0 : len = 0
    · exact ⟨fun _ => 0, .inl h0, by omega⟩
    · obtain ⟨b, off, spot⟩ := a
      have hspot : spot = none := by simpa [Addr.add] using World.cell?_spot (hcell 0 (by omega))
      subst hspot
      have hat : ∀ i, i < len → W.cell? ⟨b, off + i, none⟩ = some (.int .i64 (zs.getD i 0)) := fun i hi => by
        have := hcell i (by omega)
        by_cases hi0 : i = 0
        · subst hi0; simpa [Addr.add] using this
        · simpa [Addr.add, hi0] using this
      exact ⟨fun i => zs.getD i 0, .inr ⟨b, off, rfl, World.block_lt_of_cell? W _ (hat 0 (by omega)), hat⟩, by omega⟩

theorem vecs_in {fuel : Nat} {a0 : Option Addr} {len cap : Nat} {x : DataW H × List MemPlace} (h : DataW.trod enc Tryd.prog W 0 (fun _ => true) true fuel 28 (Value.slice a0 len cap).cells.toList = some x) :
    ∃ vs, VIn W a0 vs len ∧ len ≤ maxLen := by
  have ec : (Value.slice a0 len cap).cells.toList = [Value.slice a0 len cap] := rfl
  rw [ec] at h
  rcases open_slice Tryd.underlying28 h with ⟨hc, _⟩ | ⟨a, len', cap', m, n, D, Pl, hc, _, hl, hm, hmm, _, hx⟩
  · simp only [List.cons.injEq, Value.slice.injEq, and_true] at hc
    obtain ⟨_, rfl, _⟩ := hc
    exact ⟨fun _ => ⟨0, 0, 0⟩, .inl rfl, Nat.zero_le _⟩
  · simp only [List.cons.injEq, Value.slice.injEq, and_true] at hc
    obtain ⟨rfl, rfl, rfl⟩ := hc
    simp only [if_true] at hmm
    subst hmm
    by_cases h0 : len = 0
    · exact ⟨fun _ => ⟨0, 0, 0⟩, .inl h0, by omega⟩
    · obtain ⟨b, off, spot⟩ := a
      have each : ∀ i, i < len → ∃ v : Vc, W.cell? ((⟨b, off, spot⟩ : Addr).add (i * 3)) = some (.int .i64 v.l) ∧ W.cell? ((⟨b, off, spot⟩ : Addr).add (i * 3 + 1)) = some (.int .i64 v.p) ∧ W.cell? ((⟨b, off, spot⟩ : Addr).add (i * 3 + 2)) = some (.int .i64 v.f) := by
        intro i hi
        obtain ⟨cs', h1, h2⟩ := hx i (by omega)
        rw [cellsVec] at h1
        obtain ⟨_, hlen, hcell⟩ := World.cells?_some h1
        obtain ⟨xs, k, _, _, _, hxl, hf⟩ := DataW.trod_struct Tryd.underlying35 h2
        match xs, hxl, cs', hlen with
        | [y0, y1, y2], _, [v0, v1, v2], _ =>
          have e0 := hcell 0 (by omega)
          have e1 := hcell 1 (by omega)
          have e2 := hcell 2 (by omega)
          rw [add_add] at e0 e1 e2
          have g0 := hf 0 _ rfl
          have g1 := hf 1 _ rfl
          have g2 := hf 2 _ rfl
          simp [cellsInt] at g0 g1 g2
          obtain ⟨z0, q0, _, _⟩ := DataW.trod_int Tryd.underlying3 g0
          obtain ⟨z1, q1, _, _⟩ := DataW.trod_int Tryd.underlying3 g1
          obtain ⟨z2, q2, _, _⟩ := DataW.trod_int Tryd.underlying3 g2
          simp only [List.cons.injEq, and_true] at q0 q1 q2
          subst q0 q1 q2
          exact ⟨⟨z0, z1, z2⟩, by simpa using e0, by simpa using e1, by simpa using e2⟩
      have inh : Inhabited Vc := ⟨⟨0, 0, 0⟩⟩
      obtain ⟨vs, hvs⟩ := choose_lt each
      have hspot : spot = none := by simpa [Addr.add] using World.cell?_spot (hvs 0 (by omega)).1
      subst hspot
      have pos : ∀ o, (⟨b, off, none⟩ : Addr).add o = ⟨b, off + o, none⟩ := fun o => by
        by_cases ho : o = 0
        · subst ho; simp [Addr.add]
        · simp [Addr.add, ho]
      have hl0 : ∀ i, i < len → W.cell? ⟨b, off + i * 3, none⟩ = some (.int .i64 (vs i).l) := fun i hi => by have := (hvs i hi).1; rwa [pos] at this
      refine ⟨vs, .inr ⟨b, off, rfl, World.block_lt_of_cell? W _ (hl0 0 (by omega)), hl0, fun i hi => ?_, fun i hi => ?_⟩, by omega⟩
      · have := (hvs i hi).2.1; rwa [pos, ← Nat.add_assoc] at this
      · have := (hvs i hi).2.2; rwa [pos, ← Nat.add_assoc] at this
end
end Ln
end Go.Proofs.YtlhbpklilfabnaaDoor
