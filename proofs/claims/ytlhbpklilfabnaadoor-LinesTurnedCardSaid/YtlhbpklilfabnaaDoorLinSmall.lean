/-
  WALKS: package lines, the small functions; what a world keeps. Own work.
-/
import Derived.Test.YtlhbpklilfabnaaDoorRows
import Derived.Test.YtlhbpklilfabnaaDoorLinSem
import Derived.WalkSpells
import Derived.WalkLawsBesides
namespace Go.Proofs.YtlhbpklilfabnaaDoor
namespace Ln
open Go.RowKit Go
set_option linter.unusedVariables false

/-- Nothing that was there has turned. -/
structure Kp (w w' : World) : Prop where
  below : Below w.heap.size w w'
theorem Kp.refl (w : World) : Kp w w := ⟨Below.refl _ _⟩
theorem Kp.trans {a b c : World} (h : Kp a b) (k : Kp b c) : Kp a c := ⟨h.below.trans (k.below.mono h.below.size)⟩
theorem Kp.alloc {a w : World} (h : Kp a w) (c : Array Value) (t : TypeId) : Kp a (w.alloc (.cells c t)) := ⟨h.below.alloc h.below.size _⟩
theorem Kp.setCell {a w : World} (h : Kp a w) {p : Addr} (hp : a.heap.size ≤ p.block) (u : Value) : Kp a (w.setCell p u) := ⟨h.below.setCell hp u⟩
theorem Kp.drew {a w : World} (h : Kp a w) : Kp a w.drew := ⟨h.below.drew⟩
theorem Kp.drewN {a w : World} (h : Kp a w) (n : Nat) : Kp a (w.drewN n) := ⟨⟨h.below.os, h.below.tape, h.below.output, h.below.size, h.below.block⟩⟩
theorem Kp.size {w w' : World} (h : Kp w w') : w.heap.size ≤ w'.heap.size := h.below.size
theorem Kp.cell {w w' : World} (h : Kp w w') {p : Addr} (hp : p.block < w.heap.size) : w'.cell? p = w.cell? p := h.below.cell hp
theorem Kp.fro {w w' : World} (h : Kp w w') {p : Addr} (hp : p.block < w.heap.size) : w'.frozen? p = w.frozen? p := h.below.frozen hp
theorem Kp.cells {w w' : World} (h : Kp w w') : ∀ b o, b < w.heap.size → w'.cell? ⟨b, o, none⟩ = w.cell? ⟨b, o, none⟩ := fun b o hb => h.below.cell (p := ⟨b, o, none⟩) hb

theorem ret_int {k : IntKind} {a b : Int} (h : a = b) : Ending.returned (.int k a) = .returned (.int k b) := by rw [h]
theorem ret_bool {a b : Bool} (h : a = b) : Ending.returned (.bool a) = .returned (.bool b) := by rw [h]

/-- The table of math/bits lies where its initialiser lays it. -/
structure TabIn (w : World) : Prop where
  size : 0 < w.heap.size
  cell : ∀ i, i < 32 → w.cell? ⟨0, i, none⟩ = some (.int .u8 (Lib.deBruijn32tab.getD i 0 : Nat))
theorem TabIn.kp {w w' : World} (h : TabIn w) (k : Kp w w') : TabIn w' := ⟨Nat.lt_of_lt_of_le h.size k.size, fun i hi => (k.cells _ _ h.size).trans (h.cell i hi)⟩

theorem exists_any (x : Int) (w : World) :
    Calls Tryd.prog 24 #[.int .i64 x] w fun e w' => e = .returned (.bool (exB x)) ∧ w = w' := by
  by_cases h0 : 0 ≤ x
  · by_cases h1 : x < 32
    · rw [exB_true h0 h1]
      go_enter Tryd.func24, Tryd.ntmps24
      go_wp2
      go_ret
      exact ⟨rfl, rfl⟩
    · rw [exB_no (by omega)]
      go_enter Tryd.func24, Tryd.ntmps24
      go_wp2
      go_ret
      exact ⟨rfl, rfl⟩
  · rw [exB_no (by omega)]
    go_enter Tryd.func24, Tryd.ntmps24
    go_wp2
    go_ret
    exact ⟨rfl, rfl⟩

theorem bit_any (x : Int) (w : World) (h0 : 0 ≤ x) (h1 : x < 32) :
    Calls Tryd.prog 25 #[.int .i64 x] w fun e w' => e = .returned (.int .u32 (bitV x)) ∧ w = w' := by
  have hs := Lib.hid (shl_bit2 h0 h1)
  go_enter Tryd.func25, Tryd.ntmps25
  go_wp2
  go_ret
  exact ⟨ret_int hs.out, rfl⟩

theorem has_any (s x : Int) (w : World) (hs : 0 ≤ s) (hs' : s < 4294967296) :
    Calls Tryd.prog 13 #[.int .u32 s, .int .i64 x] w fun e w' => e = .returned (.bool (hasB s x)) ∧ w = w' := by
  cases hx : exB x with
  | false =>
    rw [hasB_no hx]
    go_enter Tryd.func13, Tryd.ntmps13
    go_wp2_with (go_at_call 24; refine (exists_any x w).mono ?_; rintro e w' ⟨rfl, rfl⟩)
    go_ret
    exact ⟨rfl, rfl⟩
  | true =>
    obtain ⟨h0, h1⟩ := exB_iff.1 hx
    have hb := bitV_bd h0 h1
    have ha := and_bit hs hs' h0 h1
    rw [hasB_ex hx]
    cases ht : s.toNat.testBit x.toNat with
    | false =>
      rw [ht, if_neg (by decide)] at ha
      go_enter Tryd.func13, Tryd.ntmps13
      go_wp2_with (first | (go_at_call 24; refine (exists_any x w).mono ?_; rintro e w' ⟨rfl, rfl⟩) | (go_at_call 25; refine (bit_any x w h0 h1).mono ?_; rintro e w' ⟨rfl, rfl⟩))
      go_ret
      exact ⟨rfl, rfl⟩
    | true =>
      rw [ht, if_pos rfl] at ha
      have hne : (bitV x != 0) = true := by simp; omega
      go_enter Tryd.func13, Tryd.ntmps13
      go_wp2_with (first | (go_at_call 24; refine (exists_any x w).mono ?_; rintro e w' ⟨rfl, rfl⟩) | (go_at_call 25; refine (bit_any x w h0 h1).mono ?_; rintro e w' ⟨rfl, rfl⟩))
      go_ret
      exact ⟨rfl, rfl⟩

theorem rest_any (s : Int) (w : World) (hs : 0 < s) (hs' : s < 4294967296) :
    Calls Tryd.prog 30 #[.int .u32 s] w fun e w' => e = .returned (.int .u32 (rest s)) ∧ w = w' := by
  have e : Hid (bits .and .u32 s (s - 1) = rest s) := Lib.hid (by
    rw [u32_and _ _ (by omega) hs' (by omega) (by omega)]; unfold rest
    rw [show (s - 1).toNat = s.toNat - 1 by omega])
  go_enter Tryd.func30, Tryd.ntmps30
  go_wp2
  go_ret
  exact ⟨ret_int e.out, rfl⟩

/-- A set and its negative have the smallest line alone in common. -/
theorem and_neg_low {s : Int} (hs : 0 < s) (hs' : s < 4294967296) : bits .and .u32 s (-s % 4294967296) = bitV (low s) := by
  have h := (Lib.lowest_bit 32 s.toNat (by omega) (by omega)).1
  have e : (-s % 4294967296).toNat = 2 ^ 32 - s.toNat := by omega
  rw [u32_and _ _ (by omega) hs' (by omega) (by omega), e, h]
  unfold bitV low
  rw [Int.toNat_natCast]
/-- Where the table has a line, by the line's word. -/
theorem tab_place {x : Int} (h0 : 0 ≤ x) (h1 : x < 32) : ∃ i : Nat, i < 32 ∧ bitV x * 125613361 % 4294967296 / 134217728 = (i : Int) ∧ ((Lib.deBruijn32tab.getD i 0 : Nat) : Int) = x := by
  obtain ⟨a, b⟩ := Lib.deBruijn32_at x.toNat (by omega)
  refine ⟨_, a, ?_, by rw [b]; omega⟩
  unfold bitV
  generalize 2 ^ x.toNat = q
  omega
theorem tz_any (s : Int) (w : World) (hs : 0 < s) (hs' : s < 4294967296) (hT : TabIn w) :
    Calls Tryd.prog 32 #[.int .u32 s] w fun e w' => e = .returned (.int .i64 (low s)) ∧ w = w' := by
  obtain ⟨hl0, hl1⟩ := low_bd hs hs'
  obtain ⟨i, hi, hidx, hval⟩ := tab_place hl0 hl1
  have hcell := hT.cell i hi
  rw [hval] at hcell
  have hand := and_neg_low hs hs'
  have hne : (s == 0) = false := by simp; omega
  clear hval hT
  go_enter Tryd.func32, Tryd.ntmps32
  go_wp2
  go_ret
  exact ⟨rfl, rfl⟩
theorem lowest_any (s : Int) (w : World) (hs : 0 < s) (hs' : s < 4294967296) (hT : TabIn w) :
    Calls Tryd.prog 31 #[.int .u32 s] w fun e w' => e = .returned (.int .i64 (low s)) ∧ w = w' := by
  go_enter Tryd.func31, Tryd.ntmps31
  go_wp2_with (go_at_call 32; refine (tz_any s w hs hs' hT).mono ?_; rintro e w' ⟨rfl, rfl⟩)
  go_ret
  exact ⟨rfl, rfl⟩
end Ln
end Go.Proofs.YtlhbpklilfabnaaDoor
