/-
  PLAIN ARITHMETIC OF WORDS: what each operator makes, as a function on Int; no program. Own work.
-/
import Derived.WalkKit
import Derived.Laws.Shifts
import Derived.Laws.BitsAllLaws
import Derived.Lib.Hide
import Derived.Deep.QuietTactic
import Derived.BigQuiet
namespace Go.Proofs.YtcabnckinkdloaaDoor
namespace Wd
open Go.RowKit Go

/-- The result of operator number k on two words (of a division: by a divisor other than 0). -/
def bin : Nat → Int → Int → Int
  | 1, a, b => (a + b) % 4294967296
  | 2, a, b => (a - b) % 4294967296
  | 3, a, b => a * b % 4294967296
  | 4, a, b => a / b
  | 5, a, b => a % b
  | 6, a, b => wrap32 ((wrap32 a).tdiv (wrap32 b)) % 4294967296
  | 7, a, b => (wrap32 a).tmod (wrap32 b) % 4294967296
  | 8, a, b => bits .and .u32 a b
  | 9, a, b => bits .or .u32 a b
  | 10, a, b => bits .xor .u32 a b
  | 11, a, b => a * 2 ^ min b.toNat 32 % 4294967296
  | 12, a, b => a / 2 ^ min b.toNat 32
  | 13, a, b => wrap32 a / 2 ^ min b.toNat 32 % 4294967296
  | 14, a, b => if a = b then 1 else 0
  | 15, a, b => if a = b then 0 else 1
  | 16, a, b => if a < b then 1 else 0
  | 17, a, b => if a ≤ b then 1 else 0
  | 18, a, b => if wrap32 a < wrap32 b then 1 else 0
  | 19, a, b => if wrap32 a ≤ wrap32 b then 1 else 0
  | _, _, _ => 0

/-- The error number of Do. -/
def err (op b : Int) : Int := if op < 1 ∨ 19 < op then 2 else if 4 ≤ op ∧ op ≤ 7 ∧ b = 0 then 12 else 0
/-- The word of Do: 0 beside an error. -/
def val (op a b : Int) : Int := if op < 1 ∨ 19 < op then 0 else if 4 ≤ op ∧ op ≤ 7 ∧ b = 0 then 0 else bin op.toNat a b

def un : Nat → Int → Int
  | 1, a => (0 - a) % 4294967296
  | 2, a => 4294967295 - a
  | 3, a => if a = 0 then 1 else 0
  | _, _ => 0
def unErr (op : Int) : Int := if op < 1 ∨ 3 < op then 2 else 0
def unVal (op a : Int) : Int := if op < 1 ∨ 3 < op then 0 else un op.toNat a

def cutErr (width : Int) : Int := if width = 8 ∨ width = 16 ∨ width = 32 then 0 else 2
def cutVal (a width : Int) : Int := if width = 8 then a % 256 else if width = 16 then a % 65536 else if width = 32 then a else 0

theorem val_bad {op a b : Int} (h : op < 1 ∨ 19 < op) : val op a b = 0 := by unfold val; rw [if_pos h]
theorem err_bad {op b : Int} (h : op < 1 ∨ 19 < op) : err op b = 2 := by unfold err; rw [if_pos h]
theorem val_zero {op a b : Int} (h : 4 ≤ op ∧ op ≤ 7) (hb : b = 0) : val op a b = 0 := by unfold val; rw [if_neg (by omega), if_pos (by omega)]
theorem err_zero {op b : Int} (h : 4 ≤ op ∧ op ≤ 7) (hb : b = 0) : err op b = 12 := by unfold err; rw [if_neg (by omega), if_pos (by omega)]
theorem val_ok {op a b : Int} (h : 1 ≤ op ∧ op ≤ 19) (hb : ¬ (4 ≤ op ∧ op ≤ 7 ∧ b = 0)) : val op a b = bin op.toNat a b := by unfold val; rw [if_neg (by omega), if_neg hb]
theorem err_ok {op b : Int} (h : 1 ≤ op ∧ op ≤ 19) (hb : ¬ (4 ≤ op ∧ op ≤ 7 ∧ b = 0)) : err op b = 0 := by unfold err; rw [if_neg (by omega), if_neg hb]

theorem wrap32_lo {a : Int} (h : 0 ≤ a) (h2 : a < 2147483648) : wrap32 a = a := by unfold wrap32; omega
theorem wrap32_hi {a : Int} (h : 2147483648 ≤ a) (h2 : a < 4294967296) : wrap32 a = a - 4294967296 := by unfold wrap32; omega
theorem wrap32_bd (a : Int) : -2147483648 ≤ wrap32 a ∧ wrap32 a ≤ 2147483647 := by unfold wrap32; omega
theorem wrap32_ne {a : Int} (h : 0 < a) (h2 : a < 4294967296) : ¬ wrap32 a = 0 := by unfold wrap32; omega

theorem bits_bd (o : BinOp) (a b : Int) : 0 ≤ bits o .u32 a b ∧ bits o .u32 a b < 4294967296 := by
  unfold bits
  simp only [IntKind.wrap_u32']
  omega

theorem xor_max (a : Int) (ha : 0 ≤ a) (ha' : a < 4294967296) : bits .xor .u32 IntKind.u32.max a = 4294967295 - a := by
  have e : BitVec.ofInt 32 IntKind.u32.max = BitVec.allOnes 32 := by decide
  have t : (BitVec.ofInt 32 a).toNat = a.toNat := by
    have := ofInt_u32 a.toNat (by omega)
    rwa [Int.toNat_of_nonneg ha] at this
  show IntKind.u32.wrap ((BitVec.ofInt 32 IntKind.u32.max ^^^ BitVec.ofInt 32 a).toNat : Int) = _
  rw [e, BitVec.allOnes_xor, BitVec.toNat_not, t, IntKind.wrap_u32']
  omega

/-- What an operator makes is a word. -/
theorem bin_bd (k : Nat) (a b : Int) (ha : 0 ≤ a) (ha' : a < 4294967296) (hb : 0 ≤ b) (hb' : b < 4294967296) (h0 : 4 ≤ k → k ≤ 7 → b ≠ 0) : 0 ≤ bin k a b ∧ bin k a b < 4294967296 := by
  unfold bin
  split
  · omega
  · omega
  · omega
  · have hb0 := h0 (by omega) (by omega)
    exact ⟨Int.ediv_nonneg ha hb, by have := Int.ediv_le_self (a := a) b ha; omega⟩
  · have hb0 := h0 (by omega) (by omega)
    exact ⟨Int.emod_nonneg _ hb0, by have := Int.emod_lt_of_pos a (show 0 < b by omega); omega⟩
  · omega
  · omega
  · exact bits_bd _ _ _
  · exact bits_bd _ _ _
  · exact bits_bd _ _ _
  · omega
  · have hp : (0 : Int) ≤ 2 ^ min b.toNat 32 := Int.le_of_lt (Int.pow_pos (by decide))
    exact ⟨Int.ediv_nonneg ha hp, by have := Int.ediv_le_self (a := a) (2 ^ min b.toNat 32) ha; omega⟩
  · omega
  all_goals (first | (split <;> omega) | omega)

theorem val_bd (op a b : Int) (ha : 0 ≤ a) (ha' : a < 4294967296) (hb : 0 ≤ b) (hb' : b < 4294967296) : 0 ≤ val op a b ∧ val op a b < 4294967296 := by
  unfold val
  split
  · omega
  · split
    · omega
    · exact bin_bd _ _ _ ha ha' hb hb' (by omega)

theorem unVal_bd (op a : Int) (ha : 0 ≤ a) (ha' : a < 4294967296) : 0 ≤ unVal op a ∧ unVal op a < 4294967296 := by
  unfold unVal
  split
  · omega
  · unfold un
    split <;> (first | omega | (split <;> omega))

theorem cutVal_bd (a width : Int) (ha : 0 ≤ a) (ha' : a < 4294967296) : 0 ≤ cutVal a width ∧ cutVal a width < 4294967296 := by
  unfold cutVal
  repeat' split
  all_goals omega

theorem ret2_int {k l : IntKind} {a b c d : Int} (h : a = b) (g : c = d) : Ending.returned (.tuple #[.int k a, .int l c]) = .returned (.tuple #[.int k b, .int l d]) := by rw [h, g]
theorem ret_int {k : IntKind} {a b : Int} (h : a = b) : Ending.returned (.int k a) = .returned (.int k b) := by rw [h]
theorem ret_bool {a b : Bool} (h : a = b) : Ending.returned (.bool a) = .returned (.bool b) := by rw [h]

/-- Nothing that was there has turned; no cell has been frozen or let go. -/
structure Kp (w w' : World) : Prop where
  below : Below w.heap.size w w'
  fro : ∀ a, w'.frozen? a = w.frozen? a
theorem Kp.refl (w : World) : Kp w w := ⟨Below.refl _ _, fun _ => rfl⟩
theorem Kp.trans {a b c : World} (h : Kp a b) (k : Kp b c) : Kp a c := ⟨h.below.trans (k.below.mono h.below.size), fun x => (k.fro x).trans (h.fro x)⟩
theorem Kp.alloc {a w : World} (h : Kp a w) (c : Array Value) (t : TypeId) : Kp a (w.alloc (.cells c t)) :=
  ⟨h.below.alloc h.below.size _, fun x => (frozen?_alloc_cells _ _ _ _).trans (h.fro x)⟩
theorem Kp.setCell {a w : World} (h : Kp a w) {p : Addr} (hp : a.heap.size ≤ p.block) (u : Value) : Kp a (w.setCell p u) :=
  ⟨h.below.setCell hp u, fun x => (World.frozen?_setCell _ _ _ _).trans (h.fro x)⟩
theorem Kp.drew {a w : World} (h : Kp a w) : Kp a w.drew := ⟨h.below.drew, h.fro⟩
theorem Kp.drewN {a w : World} (h : Kp a w) (n : Nat) : Kp a (w.drewN n) := ⟨⟨h.below.os, h.below.tape, h.below.output, h.below.size, h.below.block⟩, h.fro⟩
theorem Kp.grown {w w' : World} (h : Kp w w') : Grown w w' := ⟨h.below.frame _, h.fro, h.below.size⟩
theorem Kp.size {w w' : World} (h : Kp w w') : w.heap.size ≤ w'.heap.size := h.below.size
/-- A cell that was there reads as it did. -/
theorem Kp.cell {w w' : World} (h : Kp w w') {p : Addr} (hp : p.block < w.heap.size) : w'.cell? p = w.cell? p := h.below.cell hp
end Wd
end Go.Proofs.YtcabnckinkdloaaDoor
