/-
  PLAIN ARITHMETIC OF SETS OF LINES AND OF VECTORS: what each function makes, as a function on Int and lists; no program. Own work.
-/
import Derived.WalkKit
import Derived.Laws.Shifts
import Derived.Laws.BitsAllLaws
import Derived.Lib.Hide
import Derived.Lib.TrailingZeros
import Derived.Deep.QuietTactic
import Derived.BigQuiet
namespace Go.Proofs.YtaeblnlbelebkaaGreatDoor
namespace Ln
open Go.RowKit Go

/-- There is such a line. -/
def exB (x : Int) : Bool := decide (0 ≤ x ∧ x < 32)
/-- The word of one line. -/
def bitV (x : Int) : Int := (2 ^ x.toNat : Nat)
/-- A line is in a set. -/
def hasB (s x : Int) : Bool := decide (0 ≤ x ∧ x < 32) && s.toNat.testBit x.toNat
/-- The lines of a set, ascending. -/
def linesOf (s : Int) : List Nat := (List.range 32).filter s.toNat.testBit
/-- How many they are. -/
def ones (s : Int) : Int := ((linesOf s).length : Int)
/-- The smallest line of a set that has one. -/
def low (s : Int) : Int := (Lib.ctz 32 s.toNat : Int)
/-- A set without its smallest line. -/
def rest (s : Int) : Int := ((s.toNat &&& (s.toNat - 1) : Nat) : Int)

theorem exB_true {x : Int} (h0 : 0 ≤ x) (h1 : x < 32) : exB x = true := by unfold exB; simp [h0, h1]
theorem exB_iff {x : Int} : exB x = true ↔ 0 ≤ x ∧ x < 32 := by unfold exB; simp
theorem exB_no {x : Int} (h : x < 0 ∨ 32 ≤ x) : exB x = false := by unfold exB; simp; omega
theorem exB_false {x : Int} (h : exB x = false) : x < 0 ∨ 32 ≤ x := by unfold exB at h; simp at h; omega

theorem pow_lt32 {n : Nat} (h : n < 32) : 2 ^ n < 4294967296 := by
  have := Nat.pow_lt_pow_right (a := 2) (by omega) h; simpa using this
theorem bitV_bd {x : Int} (h0 : 0 ≤ x) (h1 : x < 32) : 1 ≤ bitV x ∧ bitV x < 4294967296 := by
  unfold bitV
  have h := pow_lt32 (n := x.toNat) (by omega)
  have := Nat.two_pow_pos x.toNat
  omega
/-- What the walk writes for '1 << x'. -/
theorem shl_bit {x : Int} (h0 : 0 ≤ x) (h1 : x < 32) : (1 : Int) * 2 ^ min x.toNat 32 % 4294967296 = bitV x := by
  have h := bitV_bd h0 h1
  have e : min x.toNat 32 = x.toNat := by omega
  have e2 : ((2 : Int) ^ x.toNat) = bitV x := by unfold bitV; simp
  rw [e, e2]; omega
theorem shl_bit' {x : Int} (h0 : 0 ≤ x) (h1 : x < 32) : (2 : Int) ^ min x.toNat 32 % 4294967296 = bitV x := by
  have := shl_bit h0 h1; simpa using this

theorem shl_bit2 {x : Int} (h0 : 0 ≤ x) (h1 : x < 32) : (2 : Int) ^ x.toNat % 4294967296 = bitV x := by
  have h := shl_bit' h0 h1; rwa [show min x.toNat 32 = x.toNat by omega] at h

theorem hasB_ex {s x : Int} (h : exB x = true) : hasB s x = s.toNat.testBit x.toNat := by
  rw [exB_iff] at h; unfold hasB; simp [h]
theorem hasB_no {s x : Int} (h : exB x = false) : hasB s x = false := by
  have := exB_false h; unfold hasB; simp; omega
theorem hasB_nat (s : Int) (i : Nat) : hasB s (i : Int) = (decide (i < 32) && s.toNat.testBit i) := by
  have h : decide ((0 : Int) ≤ (i : Int) ∧ (i : Int) < 32) = decide (i < 32) := by rw [decide_eq_decide]; omega
  unfold hasB; rw [h, Int.toNat_natCast]

/-- The test of 'Has': the set and the line's word have something in common. -/
theorem and_bit {s x : Int} (hs : 0 ≤ s) (hs' : s < 4294967296) (h0 : 0 ≤ x) (h1 : x < 32) :
    bits .and .u32 s (bitV x) = if s.toNat.testBit x.toNat then bitV x else 0 := by
  have hb := bitV_bd h0 h1
  rw [u32_and _ _ hs hs' (by omega) (by omega)]
  have e : (bitV x).toNat = 2 ^ x.toNat := by unfold bitV; exact Int.toNat_natCast _
  rw [e, nat_bit, Nat.testBit_eq_decide_div_mod_eq]
  have e2 : bitV x = ((2 ^ x.toNat : Nat) : Int) := rfl
  by_cases h : s.toNat / 2 ^ x.toNat % 2 = 1
  · rw [h, e2]; simp
  · have h0 : s.toNat / 2 ^ x.toNat % 2 = 0 := by omega
    rw [h0]; simp

theorem or_bd {a b : Int} (ha : 0 ≤ a) (ha' : a < 4294967296) (hb : 0 ≤ b) (hb' : b < 4294967296) : 0 ≤ bits .or .u32 a b ∧ bits .or .u32 a b < 4294967296 := by
  rw [u32_or _ _ ha ha' hb hb']
  have : a.toNat ||| b.toNat < 2 ^ 32 := Nat.or_lt_two_pow (by omega) (by omega)
  omega
theorem and_bd {a b : Int} (ha : 0 ≤ a) (ha' : a < 4294967296) (hb : 0 ≤ b) (hb' : b < 4294967296) : 0 ≤ bits .and .u32 a b ∧ bits .and .u32 a b < 4294967296 := by
  rw [u32_and _ _ ha ha' hb hb']
  have : a.toNat &&& b.toNat < 2 ^ 32 := Nat.and_lt_two_pow _ (by omega)
  omega
theorem hasB_or {a b : Int} (ha : 0 ≤ a) (ha' : a < 4294967296) (hb : 0 ≤ b) (hb' : b < 4294967296) (x : Int) : hasB (bits .or .u32 a b) x = (hasB a x || hasB b x) := by
  rw [u32_or _ _ ha ha' hb hb']
  unfold hasB
  rw [Int.toNat_natCast, Nat.testBit_or]
  cases decide (0 ≤ x ∧ x < 32) <;> simp
theorem hasB_and {a b : Int} (ha : 0 ≤ a) (ha' : a < 4294967296) (hb : 0 ≤ b) (hb' : b < 4294967296) (x : Int) : hasB (bits .and .u32 a b) x = (hasB a x && hasB b x) := by
  rw [u32_and _ _ ha ha' hb hb']
  unfold hasB
  rw [Int.toNat_natCast, Nat.testBit_and]
  cases decide (0 ≤ x ∧ x < 32) <;> simp
theorem hasB_bitV {y : Int} (h0 : 0 ≤ y) (h1 : y < 32) (x : Int) : hasB (bitV y) x = decide (x = y) := by
  unfold hasB bitV
  rw [Int.toNat_natCast, Nat.testBit_two_pow]
  by_cases h : x = y
  · subst h; simp [h0, h1]
  · simp [h]; intro a b c; exact h (by omega)
theorem hasB_zero (x : Int) : hasB 0 x = false := by unfold hasB; simp
theorem set_ext {a b : Int} (ha : 0 ≤ a) (ha' : a < 4294967296) (hb : 0 ≤ b) (hb' : b < 4294967296) (h : ∀ i : Nat, i < 32 → hasB a (i : Int) = hasB b (i : Int)) : a = b := by
  have e : a.toNat = b.toNat := by
    apply Nat.eq_of_testBit_eq
    intro i
    by_cases hi : i < 32
    · have := h i hi
      simpa [hasB_nat, hi] using this
    · have l : ∀ n : Nat, n < 4294967296 → n.testBit i = false := fun n hn =>
        Nat.testBit_lt_two_pow (Nat.lt_of_lt_of_le hn (by have := Nat.pow_le_pow_right (n := 2) (by omega) (show 32 ≤ i by omega); simpa using this))
      rw [l _ (by omega), l _ (by omega)]
  omega

/-! ### The lines of a set -/

def linesW (n s : Nat) : List Nat := (List.range n).filter s.testBit
theorem linesOf_W (s : Int) : linesOf s = linesW 32 s.toNat := rfl
theorem linesW_succ (n s : Nat) : linesW (n + 1) s = (if s % 2 = 1 then [0] else []) ++ (linesW n (s / 2)).map (· + 1) := by
  unfold linesW
  rw [List.range_succ_eq_map, List.filter_cons, List.filter_map]
  have e : s.testBit ∘ Nat.succ = (s / 2).testBit := by funext i; simp [Nat.testBit_succ]
  rw [e]
  by_cases h : s % 2 = 1 <;> simp [Nat.testBit_zero, h]
theorem ctzFrom_odd (f s : Nat) (h : s % 2 = 1) : Lib.ctzFrom (f + 1) s = 0 := by simp [Lib.ctzFrom, h]
theorem ctzFrom_even (f s : Nat) (h : ¬ s % 2 = 1) : Lib.ctzFrom (f + 1) s = 1 + Lib.ctzFrom f (s / 2) := by simp [Lib.ctzFrom, h]
theorem and_pred_odd (s : Nat) (h : s % 2 = 1) : s &&& (s - 1) = s - 1 := by
  apply Nat.eq_of_testBit_eq
  intro i
  rw [Nat.testBit_and]
  cases i with
  | zero => simp [Nat.testBit_zero]; omega
  | succ i =>
    rw [Nat.testBit_succ, Nat.testBit_succ, show (s - 1) / 2 = s / 2 by omega]; simp
theorem and_pred_even (s : Nat) (h : s % 2 = 0) (h0 : 0 < s) : s &&& (s - 1) = 2 * (s / 2 &&& (s / 2 - 1)) := by
  apply Nat.eq_of_testBit_eq
  intro i
  rw [Nat.testBit_and]
  cases i with
  | zero => simp [Nat.testBit_zero]; omega
  | succ i =>
    rw [Nat.testBit_succ, Nat.testBit_succ, Nat.testBit_succ, show (s - 1) / 2 = s / 2 - 1 by omega, show 2 * (s / 2 &&& (s / 2 - 1)) / 2 = (s / 2 &&& (s / 2 - 1)) by omega, Nat.testBit_and]
theorem linesW_low : ∀ (n s : Nat), 0 < s → s < 2 ^ n → linesW n s = Lib.ctzFrom n s :: linesW n (s &&& (s - 1))
  | 0, s, h0, h => by simp at h; omega
  | n + 1, s, h0, h => by
    rw [linesW_succ, linesW_succ]
    by_cases ho : s % 2 = 1
    · rw [ctzFrom_odd _ _ ho, and_pred_odd _ ho, if_pos ho, if_neg (by omega), show (s - 1) / 2 = s / 2 by omega]
      rfl
    · have he : s % 2 = 0 := by omega
      rw [ctzFrom_even _ _ ho, and_pred_even _ he h0, if_neg ho, if_neg (by omega), linesW_low n (s / 2) (by omega) (by rw [Nat.pow_succ] at h; omega)]
      rw [show 2 * (s / 2 &&& (s / 2 - 1)) / 2 = (s / 2 &&& (s / 2 - 1)) by omega]
      simp [Nat.add_comm]
theorem linesW_zero (n : Nat) : linesW n 0 = [] := by unfold linesW; simp
theorem linesOf_zero : linesOf 0 = [] := linesW_zero 32
theorem linesOf_low {s : Int} (h0 : 0 < s) (h : s < 4294967296) : linesOf s = (low s).toNat :: linesOf (rest s) := by
  rw [linesOf_W, linesOf_W, linesW_low 32 s.toNat (by omega) (by omega)]
  have e : Lib.ctzFrom 32 s.toNat = (low s).toNat := by unfold low Lib.ctz; rw [if_neg (by omega)]; omega
  rw [e]; unfold rest; rw [Int.toNat_natCast]
theorem low_bd {s : Int} (h0 : 0 < s) (h : s < 4294967296) : 0 ≤ low s ∧ low s < 32 := by
  have := Lib.lowest_bit 32 s.toNat (by omega) (by omega)
  unfold low; omega
theorem rest_bd {s : Int} (h0 : 0 < s) (h : s < 4294967296) : 0 ≤ rest s ∧ rest s < s := by
  unfold rest
  have : s.toNat &&& (s.toNat - 1) ≤ s.toNat - 1 := Nat.and_le_right
  omega
theorem linesOf_mem {s : Int} {i : Nat} : i ∈ linesOf s ↔ i < 32 ∧ s.toNat.testBit i = true := by unfold linesOf; simp
theorem linesOf_has {s : Int} {i : Nat} : i ∈ linesOf s ↔ hasB s (i : Int) = true := by rw [linesOf_mem, hasB_nat]; simp
theorem linesOf_le (s : Int) : (linesOf s).length ≤ 32 := by
  unfold linesOf; have := List.length_filter_le s.toNat.testBit (List.range 32); simpa using this
theorem linesOf_lt (s : Int) : (linesOf s).Pairwise (· < ·) := List.Pairwise.filter _ (by simpa using List.pairwise_lt_range (n := 32))

/-- The words of the table that math/bits counts with: how many of eight bits are set. -/
def pop8 (b : Nat) : Nat := ((List.range 8).filter b.testBit).length
theorem ones_split (s : Int) (_h0 : 0 ≤ s) : ones s = (pop8 (s.toNat / 16777216) + pop8 (s.toNat / 65536 % 256) + pop8 (s.toNat / 256 % 256) + pop8 (s.toNat % 256) : Nat) := by
  have t : ∀ n k i : Nat, (n / 2 ^ k).testBit i = n.testBit (k + i) := fun n k i => by rw [← Nat.shiftRight_eq_div_pow, Nat.testBit_shiftRight]
  have m : ∀ n i : Nat, i < 8 → (n % 256).testBit i = n.testBit i := fun n i hi => by
    rw [show (256 : Nat) = 2 ^ 8 by decide, Nat.testBit_mod_two_pow]; simp [hi]
  have p : ∀ k : Nat, (((List.range 8).map (k + ·)).filter s.toNat.testBit).length = pop8 (s.toNat / 2 ^ k % 256) := fun k => by
    unfold pop8
    rw [List.filter_map, List.length_map]
    congr 1
    apply List.filter_congr
    intro i hi
    rw [m _ _ (by simpa using hi), t]; rfl
  have q : pop8 (s.toNat / 16777216) = pop8 (s.toNat / 2 ^ 24 % 256) ∨ True := Or.inr trivial
  unfold ones linesOf
  rw [show List.range 32 = (List.range 8).map (0 + ·) ++ ((List.range 8).map (8 + ·) ++ ((List.range 8).map (16 + ·) ++ (List.range 8).map (24 + ·))) by decide]
  simp only [List.filter_append, List.length_append, p]
  have r : ∀ n : Nat, pop8 (n % 256) = pop8 n := fun n => by
    unfold pop8; congr 1; apply List.filter_congr; intro i hi; exact m _ _ (by simpa using hi)
  rw [r (s.toNat / 2 ^ 24)]
  simp
  omega

/-! ### Vectors -/

/-- A vector: its line, priority and function. -/
structure Vc where
  l : Int
  p : Int
  f : Int
/-- It is valid, apart from the others. -/
def vaB (v : Vc) : Bool := decide (0 ≤ v.l ∧ v.l < 32 ∧ 1 ≤ v.p ∧ v.p ≤ 15 ∧ 0 ≤ v.f)
theorem vaB_iff {v : Vc} : vaB v = true ↔ 0 ≤ v.l ∧ v.l < 32 ∧ 1 ≤ v.p ∧ v.p ≤ 15 ∧ 0 ≤ v.f := by unfold vaB; simp
theorem vaB_no {v : Vc} (h : vaB v = false) : exB v.l = false ∨ (exB v.l = true ∧ (v.p < 1 ∨ 15 < v.p ∨ v.f < 0)) := by
  unfold vaB at h; simp at h
  cases hx : exB v.l
  · exact .inl rfl
  · obtain ⟨a, b⟩ := exB_iff.1 hx
    right; refine ⟨rfl, ?_⟩; omega
/-- The first is taken rather than the second. -/
def beB (v u : Vc) : Bool := decide (u.p < v.p ∨ v.p = u.p ∧ v.l < u.l)
theorem beB_iff {v u : Vc} : beB v u = true ↔ u.p < v.p ∨ v.p = u.p ∧ v.l < u.l := by unfold beB; simp
theorem beB_no {v u : Vc} : beB v u = false ↔ v.p < u.p ∨ v.p = u.p ∧ u.l ≤ v.l := by unfold beB; simp; omega

/-- The first k vectors are valid, no two with the same line. -/
def Good (vs : Nat → Vc) (k : Nat) : Prop := ∀ i, i < k → vaB (vs i) = true ∧ ∀ j, j < i → (vs j).l ≠ (vs i).l
instance (vs : Nat → Vc) (k : Nat) : Decidable (Good vs k) := by unfold Good; exact inferInstance
theorem Good.zero (vs : Nat → Vc) : Good vs 0 := fun i h => absurd h (Nat.not_lt_zero i)
theorem Good.le {vs : Nat → Vc} {k n : Nat} (h : Good vs n) (hk : k ≤ n) : Good vs k := fun i hi => h i (by omega)
theorem Good.succ {vs : Nat → Vc} {k : Nat} (h : Good vs k) (hv : vaB (vs k) = true) (hd : ∀ j, j < k → (vs j).l ≠ (vs k).l) : Good vs (k + 1) := fun i hi => by
  rcases Nat.lt_succ_iff_lt_or_eq.1 hi with h1 | h1
  · exact h i h1
  · subst h1; exact ⟨hv, hd⟩
theorem Good.line {vs : Nat → Vc} {k i : Nat} (h : Good vs k) (hi : i < k) : 0 ≤ (vs i).l ∧ (vs i).l < 32 := by have := vaB_iff.1 (h i hi).1; omega
/-- The error number of Check. -/
def chk (vs : Nat → Vc) (n : Nat) : Int := if 32 < n then 3 else if Good vs n then 0 else 2
theorem chk_long {vs : Nat → Vc} {n : Nat} (h : 32 < n) : chk vs n = 3 := by unfold chk; rw [if_pos h]
theorem chk_ok {vs : Nat → Vc} {n : Nat} (h : n ≤ 32) (g : Good vs n) : chk vs n = 0 := by unfold chk; rw [if_neg (by omega), if_pos g]
theorem chk_bad {vs : Nat → Vc} {n : Nat} (h : n ≤ 32) (g : ¬ Good vs n) : chk vs n = 2 := by unfold chk; rw [if_neg (by omega), if_neg g]
theorem chk_zero {vs : Nat → Vc} {n : Nat} : chk vs n = 0 ↔ n ≤ 32 ∧ Good vs n := by
  unfold chk
  by_cases h : 32 < n
  · rw [if_pos h]; omega
  · rw [if_neg h]
    by_cases g : Good vs n
    · rw [if_pos g]; exact ⟨fun _ => ⟨by omega, g⟩, fun _ => rfl⟩
    · rw [if_neg g]; exact ⟨fun h => by omega, fun h => absurd h.2 g⟩
/-- The set of the lines of the first k vectors. -/
def SetOf (vs : Nat → Vc) (k : Nat) (s : Int) : Prop := 0 ≤ s ∧ s < 4294967296 ∧ ∀ x : Int, hasB s x = true ↔ ∃ i, i < k ∧ (vs i).l = x
theorem SetOf.zero (vs : Nat → Vc) : SetOf vs 0 0 := ⟨by omega, by omega, fun x => by rw [hasB_zero]; simp⟩
theorem SetOf.succ {vs : Nat → Vc} {k : Nat} {s : Int} (h : SetOf vs k s) (h0 : 0 ≤ (vs k).l) (h1 : (vs k).l < 32) : SetOf vs (k + 1) (bits .or .u32 s (bitV (vs k).l)) := by
  have hb := bitV_bd h0 h1
  obtain ⟨a, b, c⟩ := h
  have hbd := or_bd a b (b := bitV (vs k).l) (by omega) (by omega)
  refine ⟨hbd.1, hbd.2, fun x => ?_⟩
  rw [hasB_or a b (by omega) (by omega), hasB_bitV h0 h1, Bool.or_eq_true, c x, decide_eq_true_iff]
  constructor
  · rintro (⟨i, hi, e⟩ | e)
    · exact ⟨i, by omega, e⟩
    · exact ⟨k, by omega, e.symm⟩
  · rintro ⟨i, hi, e⟩
    rcases Nat.lt_succ_iff_lt_or_eq.1 hi with h2 | h2
    · exact .inl ⟨i, h2, e⟩
    · subst h2; exact .inr e.symm
theorem SetOf.fresh {vs : Nat → Vc} {k : Nat} {s : Int} (h : SetOf vs k s) (hn : hasB s (vs k).l = false) : ∀ j, j < k → (vs j).l ≠ (vs k).l := fun j hj e => by
  have := (h.2.2 (vs k).l).2 ⟨j, hj, e⟩
  rw [hn] at this; cases this
theorem SetOf.twice {vs : Nat → Vc} {k : Nat} {s : Int} (h : SetOf vs k s) (hn : hasB s (vs k).l = true) : ∃ j, j < k ∧ (vs j).l = (vs k).l := (h.2.2 _).1 hn

/-- What may be taken. -/
def rdy (p e : Int) (lv ac : Int) (v : Vc) : Bool := hasB p v.l && hasB e v.l && decide (lv < v.p) && decide (ac < v.p)
theorem rdy_iff {p e lv ac : Int} {v : Vc} : rdy p e lv ac v = true ↔ hasB p v.l = true ∧ hasB e v.l = true ∧ lv < v.p ∧ ac < v.p := by
  unfold rdy; simp only [Bool.and_eq_true, decide_eq_true_iff]; exact ⟨fun ⟨⟨⟨a, b⟩, c⟩, d⟩ => ⟨a, b, c, d⟩, fun ⟨a, b, c, d⟩ => ⟨⟨⟨a, b⟩, c⟩, d⟩⟩
/-- The best of the first k that are ready. -/
def best (r : Vc → Bool) (vs : Nat → Vc) : Nat → Option Nat
  | 0 => none
  | k + 1 => if r (vs k) then (match best r vs k with
      | none => some k
      | some b => if beB (vs k) (vs b) then some k else some b) else best r vs k
theorem best_no {r : Vc → Bool} {vs : Nat → Vc} {k : Nat} (h : r (vs k) = false) : best r vs (k + 1) = best r vs k := by rw [best, h]; rfl
theorem best_first {r : Vc → Bool} {vs : Nat → Vc} {k : Nat} (h : r (vs k) = true) (hn : best r vs k = none) : best r vs (k + 1) = some k := by rw [best, h, hn]; rfl
theorem best_new {r : Vc → Bool} {vs : Nat → Vc} {k b : Nat} (h : r (vs k) = true) (hn : best r vs k = some b) (hb : beB (vs k) (vs b) = true) : best r vs (k + 1) = some k := by rw [best, h, hn]; simp [hb]
theorem best_old {r : Vc → Bool} {vs : Nat → Vc} {k b : Nat} (h : r (vs k) = true) (hn : best r vs k = some b) (hb : beB (vs k) (vs b) = false) : best r vs (k + 1) = some b := by rw [best, h, hn]; simp [hb]
theorem best_none {r : Vc → Bool} {vs : Nat → Vc} : ∀ {k : Nat}, best r vs k = none → ∀ i, i < k → r (vs i) = false := by
  intro k
  induction k with
  | zero => intro _ i hi; omega
  | succ k ih =>
    intro h i hi
    cases hr : r (vs k) with
    | false =>
      rw [best_no hr] at h
      rcases Nat.lt_succ_iff_lt_or_eq.1 hi with hi | hi
      · exact ih h i hi
      · subst hi; exact hr
    | true =>
      exfalso
      cases hb : best r vs k with
      | none => rw [best_first hr hb] at h; cases h
      | some c =>
        cases hc : beB (vs k) (vs c) with
        | false => rw [best_old hr hb hc] at h; cases h
        | true => rw [best_new hr hb hc] at h; cases h
theorem best_spec {r : Vc → Bool} {vs : Nat → Vc} : ∀ {k b : Nat}, best r vs k = some b → b < k ∧ r (vs b) = true ∧ ∀ i, i < k → r (vs i) = true → beB (vs i) (vs b) = false := by
  intro k
  induction k with
  | zero => intro b h; cases h
  | succ k ih =>
    intro b h
    cases hr : r (vs k) with
    | false =>
      rw [best_no hr] at h
      obtain ⟨h1, h2, h3⟩ := ih h
      refine ⟨by omega, h2, fun i hi hri => ?_⟩
      rcases Nat.lt_succ_iff_lt_or_eq.1 hi with hi | hi
      · exact h3 i hi hri
      · subst hi; rw [hr] at hri; cases hri
    | true =>
      have self : ∀ v : Vc, beB v v = false := fun v => beB_no.2 (.inr ⟨rfl, Int.le_refl _⟩)
      cases hb : best r vs k with
      | none =>
        rw [best_first hr hb] at h
        obtain rfl := Option.some.inj h
        refine ⟨by omega, hr, fun i hi hri => ?_⟩
        rcases Nat.lt_succ_iff_lt_or_eq.1 hi with hi | hi
        · rw [best_none hb i hi] at hri; cases hri
        · subst hi; exact self _
      | some c =>
        obtain ⟨h1, h2, h3⟩ := ih hb
        cases hc : beB (vs k) (vs c) with
        | false =>
          rw [best_old hr hb hc] at h
          obtain rfl := Option.some.inj h
          refine ⟨by omega, h2, fun i hi hri => ?_⟩
          rcases Nat.lt_succ_iff_lt_or_eq.1 hi with hi | hi
          · exact h3 i hi hri
          · subst hi; exact hc
        | true =>
          rw [best_new hr hb hc] at h
          obtain rfl := Option.some.inj h
          refine ⟨by omega, hr, fun i hi hri => ?_⟩
          rcases Nat.lt_succ_iff_lt_or_eq.1 hi with hi | hi
          · have a := beB_no.1 (h3 i hi hri)
            have b := beB_iff.1 hc
            exact beB_no.2 (by omega)
          · subst hi; exact self _

/-- What an index is returned as; whether there is one. -/
def oi : Option Nat → Int
  | none => 0
  | some k => k
def ob : Option Nat → Bool
  | none => false
  | some _ => true
theorem oi_bd {o : Option Nat} {n : Nat} (h : ∀ b, o = some b → b < n) (hn : n ≤ 9223372036854775807) : 0 ≤ oi o ∧ oi o ≤ 9223372036854775807 := by
  cases o with
  | none => exact ⟨Int.le_refl 0, (by decide : (0 : Int) ≤ 9223372036854775807)⟩
  | some b => have := h b rfl; show (0 : Int) ≤ (b : Int) ∧ (b : Int) ≤ 9223372036854775807; omega
/-- What Take takes. -/
def tk (p e lv ac : Int) (vs : Nat → Vc) (n : Nat) : Option Nat := if n ≤ 32 ∧ Good vs n then best (rdy p e lv ac) vs n else none
theorem tk_ok {p e lv ac : Int} {vs : Nat → Vc} {n : Nat} (h : n ≤ 32) (g : Good vs n) : tk p e lv ac vs n = best (rdy p e lv ac) vs n := by unfold tk; rw [if_pos ⟨h, g⟩]
theorem tk_no {p e lv ac : Int} {vs : Nat → Vc} {n : Nat} (h : ¬ chk vs n = 0) : tk p e lv ac vs n = none := by unfold tk; rw [if_neg (fun g => h (chk_zero.2 g))]
/-- What Find finds. -/
def fnd (vs : Nat → Vc) (x : Int) : Nat → Option Nat
  | 0 => none
  | k + 1 => match fnd vs x k with
    | some i => some i
    | none => if (vs k).l = x then some k else none
theorem fnd_no {vs : Nat → Vc} {x : Int} {k : Nat} (h : fnd vs x k = none) (h2 : ¬ (vs k).l = x) : fnd vs x (k + 1) = none := by rw [fnd, h]; simp [h2]
theorem fnd_hit {vs : Nat → Vc} {x : Int} {k : Nat} (h : fnd vs x k = none) (h2 : (vs k).l = x) : ∀ n, k < n → fnd vs x n = some k := by
  intro n hn
  induction n with
  | zero => omega
  | succ n ih =>
    rcases Nat.lt_succ_iff_lt_or_eq.1 hn with h3 | h3
    · rw [fnd, ih h3]
    · subst h3; rw [fnd, h]; simp [h2]
theorem fnd_spec {vs : Nat → Vc} {x : Int} : ∀ {n i : Nat}, fnd vs x n = some i → i < n ∧ (vs i).l = x ∧ ∀ j, j < i → (vs j).l ≠ x := by
  have none_spec : ∀ {n : Nat}, fnd vs x n = none → ∀ j, j < n → (vs j).l ≠ x := by
    intro n
    induction n with
    | zero => intro _ j hj; omega
    | succ n ih =>
      intro h j hj
      cases hb : fnd vs x n with
      | some i => rw [fnd, hb] at h; cases h
      | none =>
        by_cases hx : (vs n).l = x
        · rw [fnd, hb] at h; simp [hx] at h
        · rcases Nat.lt_succ_iff_lt_or_eq.1 hj with h3 | h3
          · exact ih hb j h3
          · subst h3; exact hx
  intro n
  induction n with
  | zero => intro i h; cases h
  | succ n ih =>
    intro i h
    cases hb : fnd vs x n with
    | some c =>
      rw [fnd, hb] at h
      obtain rfl := Option.some.inj h
      obtain ⟨a, b, c⟩ := ih hb
      exact ⟨by omega, b, c⟩
    | none =>
      by_cases hx : (vs n).l = x
      · rw [fnd, hb] at h; simp [hx] at h; subst h
        exact ⟨by omega, hx, none_spec hb⟩
      · rw [fnd_no hb hx] at h; cases h

/-! ### Lines in a row -/

/-- The first k lines exist. -/
def AllEx (xs : Nat → Int) (k : Nat) : Prop := ∀ i, i < k → 0 ≤ xs i ∧ xs i < 32
instance (xs : Nat → Int) (k : Nat) : Decidable (AllEx xs k) := by unfold AllEx; exact inferInstance
theorem AllEx.zero (xs : Nat → Int) : AllEx xs 0 := fun i h => absurd h (Nat.not_lt_zero i)
theorem AllEx.succ {xs : Nat → Int} {k : Nat} (h : AllEx xs k) (h0 : 0 ≤ xs k) (h1 : xs k < 32) : AllEx xs (k + 1) := fun i hi => by
  rcases Nat.lt_succ_iff_lt_or_eq.1 hi with h2 | h2
  · exact h i h2
  · subst h2; exact ⟨h0, h1⟩
theorem AllEx.le {xs : Nat → Int} {k n : Nat} (h : AllEx xs n) (hk : k ≤ n) : AllEx xs k := fun i hi => h i (by omega)
/-- The set of the first k lines. -/
def setI (xs : Nat → Int) : Nat → Int
  | 0 => 0
  | k + 1 => bits .or .u32 (setI xs k) (bitV (xs k))
theorem setI_bd {xs : Nat → Int} : ∀ {k : Nat}, AllEx xs k → 0 ≤ setI xs k ∧ setI xs k < 4294967296
  | 0, _ => ⟨Int.le_refl 0, (by decide : (0 : Int) < 4294967296)⟩
  | k + 1, h => by
    have hb := bitV_bd (h k (by omega)).1 (h k (by omega)).2
    have hi := setI_bd (h.le (Nat.le_succ k))
    exact or_bd hi.1 hi.2 (by omega) (by omega)
theorem setI_has {xs : Nat → Int} : ∀ {k : Nat}, AllEx xs k → ∀ x, hasB (setI xs k) x = true ↔ ∃ i, i < k ∧ xs i = x
  | 0, _, x => by show hasB 0 x = true ↔ _; rw [hasB_zero]; simp
  | k + 1, h, x => by
    have hk := h k (by omega)
    have hb := bitV_bd hk.1 hk.2
    have hi := setI_bd (h.le (Nat.le_succ k))
    show hasB (bits .or .u32 (setI xs k) (bitV (xs k))) x = true ↔ _
    rw [hasB_or hi.1 hi.2 (by omega) (by omega), hasB_bitV hk.1 hk.2, Bool.or_eq_true, setI_has (h.le (Nat.le_succ k)), decide_eq_true_iff]
    constructor
    · rintro (⟨i, a, e⟩ | e)
      · exact ⟨i, by omega, e⟩
      · exact ⟨k, by omega, e.symm⟩
    · rintro ⟨i, a, e⟩
      rcases Nat.lt_succ_iff_lt_or_eq.1 a with h2 | h2
      · exact .inl ⟨i, h2, e⟩
      · subst h2; exact .inr e.symm
def ofV (xs : Nat → Int) (n : Nat) : Int := if AllEx xs n then setI xs n else 0
def ofE (xs : Nat → Int) (n : Nat) : Int := if AllEx xs n then 0 else 2
theorem ofV_yes {xs : Nat → Int} {n : Nat} (h : AllEx xs n) : ofV xs n = setI xs n := by unfold ofV; rw [if_pos h]
theorem ofE_yes {xs : Nat → Int} {n : Nat} (h : AllEx xs n) : ofE xs n = 0 := by unfold ofE; rw [if_pos h]
theorem ofV_no {xs : Nat → Int} {n : Nat} (h : ¬ AllEx xs n) : ofV xs n = 0 := by unfold ofV; rw [if_neg h]
theorem ofE_no {xs : Nat → Int} {n : Nat} (h : ¬ AllEx xs n) : ofE xs n = 2 := by unfold ofE; rw [if_neg h]
theorem ofV_bd (xs : Nat → Int) (n : Nat) : 0 ≤ ofV xs n ∧ ofV xs n < 4294967296 := by
  by_cases h : AllEx xs n
  · rw [ofV_yes h]; exact setI_bd h
  · rw [ofV_no h]; decide
/-- The lines of a set by their place. -/
def lnF (s : Int) (i : Nat) : Int := ((linesOf s).getD i 0 : Nat)
theorem lnF_mem {s : Int} {i : Nat} (h : i < (linesOf s).length) : ∃ j, j ∈ linesOf s ∧ lnF s i = (j : Int) := by
  refine ⟨(linesOf s)[i], List.getElem_mem h, ?_⟩
  unfold lnF; rw [List.getD, List.getElem?_eq_getElem h]; rfl
theorem lnF_ex (s : Int) : AllEx (lnF s) (linesOf s).length := fun i h => by
  obtain ⟨j, hj, e⟩ := lnF_mem h
  have := linesOf_mem.1 hj
  omega
theorem lnF_has {s : Int} {i : Nat} (h : i < (linesOf s).length) : hasB s (lnF s i) = true := by
  obtain ⟨j, hj, e⟩ := lnF_mem h
  rw [e]; exact linesOf_has.1 hj
theorem lnF_lt {s : Int} {i : Nat} (h : i + 1 < (linesOf s).length) : lnF s i < lnF s (i + 1) := by
  have := (List.pairwise_iff_getElem.1 (linesOf_lt s)) i (i + 1) (by omega) h (by omega)
  unfold lnF
  rw [List.getD, List.getElem?_eq_getElem (by omega), List.getD, List.getElem?_eq_getElem h]
  simp only [Option.getD_some]; omega
/-- The set of a set's lines is that set. -/
theorem setI_lines {s : Int} (h0 : 0 ≤ s) (h1 : s < 4294967296) : setI (lnF s) (linesOf s).length = s := by
  have hb := setI_bd (lnF_ex s)
  refine set_ext hb.1 hb.2 h0 h1 fun i hi => ?_
  rw [Bool.eq_iff_iff, setI_has (lnF_ex s)]
  constructor
  · rintro ⟨k, hk, e⟩; rw [← e]; exact lnF_has hk
  · intro h
    obtain ⟨k, hk, e⟩ := List.getElem_of_mem (linesOf_has.2 h)
    refine ⟨k, hk, ?_⟩
    unfold lnF; rw [List.getD, List.getElem?_eq_getElem hk, Option.getD_some, e]
/-- A set of n lines has at most n. -/
theorem ones_setI {xs : Nat → Int} : ∀ {k : Nat}, AllEx xs k → ones (setI xs k) ≤ k
  | 0, _ => by show ones 0 ≤ _; unfold ones; rw [linesOf_zero]; simp
  | k + 1, h => by
    have hk := h k (by omega)
    have hi := setI_bd (h.le (Nat.le_succ k))
    have ih := ones_setI (h.le (Nat.le_succ k))
    have hb := bitV_bd hk.1 hk.2
    have key : ∀ (L : List Nat), L.Nodup → (L.filter (setI xs (k + 1)).toNat.testBit).length ≤ (L.filter (setI xs k).toNat.testBit).length + (if (xs k).toNat ∈ L then 1 else 0) := by
      intro L
      have e : ∀ i, (setI xs (k + 1)).toNat.testBit i = ((setI xs k).toNat.testBit i || decide ((xs k).toNat = i)) := fun i => by
        show (bits .or .u32 (setI xs k) (bitV (xs k))).toNat.testBit i = _
        rw [u32_or _ _ hi.1 hi.2 (by omega) (by omega), Int.toNat_natCast, Nat.testBit_or]
        congr 1
        unfold bitV; rw [Int.toNat_natCast, Nat.testBit_two_pow]
      induction L with
      | nil => intro _; simp
      | cons a L ihL =>
        intro hn
        have hn2 := List.nodup_cons.1 hn
        have := ihL hn2.2
        rw [List.filter_cons, List.filter_cons, e a]
        by_cases ha : (xs k).toNat = a
        · have hno : ¬ (xs k).toNat ∈ L := by rw [ha]; exact hn2.1
          rw [if_neg hno] at this
          have hin : (xs k).toNat ∈ a :: L := by rw [ha]; exact List.mem_cons_self
          rw [if_pos hin]
          cases (setI xs k).toNat.testBit a <;> simp [ha] <;> omega
        · have hm : ((xs k).toNat ∈ a :: L) ↔ (xs k).toNat ∈ L := by rw [List.mem_cons]; exact ⟨fun h => h.resolve_left ha, .inr⟩
          simp only [hm]
          cases (setI xs k).toNat.testBit a <;> simp [ha] <;> omega
    have h2 := key (List.range 32) List.nodup_range
    have h3 : (if (xs k).toNat ∈ List.range 32 then 1 else 0) ≤ 1 := by split <;> omega
    unfold ones linesOf at ih ⊢
    omega
/-- Two rows of numbers are the same. -/
def eqI (xs : Nat → Int) (n : Nat) (ys : Nat → Int) (m : Nat) : Bool := decide (n = m ∧ ∀ i, i < n → xs i = ys i)
theorem eqI_yes {xs ys : Nat → Int} {n : Nat} (h : ∀ i, i < n → xs i = ys i) : eqI xs n ys n = true := by unfold eqI; simpa using h
theorem eqI_len {xs ys : Nat → Int} {n m : Nat} (h : n ≠ m) : eqI xs n ys m = false := by unfold eqI; simp [h]
theorem eqI_no {xs ys : Nat → Int} {n m i : Nat} (hi : i < n) (h : xs i ≠ ys i) : eqI xs n ys m = false := by
  unfold eqI; rw [decide_eq_false_iff_not]; exact fun g => h (g.2 i hi)
end Ln
end Go.Proofs.YtaeblnlbelebkaaGreatDoor
