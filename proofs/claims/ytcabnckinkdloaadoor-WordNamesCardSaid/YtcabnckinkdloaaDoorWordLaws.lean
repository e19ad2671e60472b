/-
  PLAIN LAWS of words: what divisions, comparisons, shifts and bits come to. No program. Own work.
-/
import Derived.Test.YtcabnckinkdloaaDoorWordSem
namespace Go.Proofs.YtcabnckinkdloaaDoor
namespace Wd
open Go.RowKit Go

theorem val1 (a b : Int) : val 1 a b = (a + b) % 4294967296 := rfl
theorem val2 (a b : Int) : val 2 a b = (a - b) % 4294967296 := rfl
theorem val3 (a b : Int) : val 3 a b = a * b % 4294967296 := rfl
theorem val4 (a b : Int) (h : b ≠ 0) : val 4 a b = a / b := val_ok (op := 4) (by omega) (by omega)
theorem val5 (a b : Int) (h : b ≠ 0) : val 5 a b = a % b := val_ok (op := 5) (by omega) (by omega)
theorem val6 (a b : Int) (h : b ≠ 0) : val 6 a b = wrap32 ((wrap32 a).tdiv (wrap32 b)) % 4294967296 := val_ok (op := 6) (by omega) (by omega)
theorem val7 (a b : Int) (h : b ≠ 0) : val 7 a b = (wrap32 a).tmod (wrap32 b) % 4294967296 := val_ok (op := 7) (by omega) (by omega)
theorem val8 (a b : Int) : val 8 a b = bits .and .u32 a b := rfl
theorem val9 (a b : Int) : val 9 a b = bits .or .u32 a b := rfl
theorem val10 (a b : Int) : val 10 a b = bits .xor .u32 a b := rfl
theorem val11 (a b : Int) : val 11 a b = a * 2 ^ min b.toNat 32 % 4294967296 := rfl
theorem val12 (a b : Int) : val 12 a b = a / 2 ^ min b.toNat 32 := rfl
theorem val13 (a b : Int) : val 13 a b = wrap32 a / 2 ^ min b.toNat 32 % 4294967296 := rfl
theorem val14 (a b : Int) : val 14 a b = if a = b then 1 else 0 := rfl
theorem val15 (a b : Int) : val 15 a b = if a = b then 0 else 1 := rfl
theorem val16 (a b : Int) : val 16 a b = if a < b then 1 else 0 := rfl
theorem val17 (a b : Int) : val 17 a b = if a ≤ b then 1 else 0 := rfl
theorem val18 (a b : Int) : val 18 a b = if wrap32 a < wrap32 b then 1 else 0 := rfl
theorem val19 (a b : Int) : val 19 a b = if wrap32 a ≤ wrap32 b then 1 else 0 := rfl

theorem add_sub (a b : Int) (ha : 0 ≤ a) (ha' : a < 4294967296) : val 2 (val 1 a b) b = a := by rw [val1, val2]; omega
theorem sub_add (a b : Int) (ha : 0 ≤ a) (ha' : a < 4294967296) : val 1 (val 2 a b) b = a := by rw [val1, val2]; omega
theorem div_rem (a b : Int) (ha : 0 ≤ a) (ha' : a < 4294967296) (hb : b ≠ 0) : (val 4 a b * b + val 5 a b) % 4294967296 = a := by
  rw [val4 a b hb, val5 a b hb, Int.mul_comm, Int.mul_ediv_add_emod]
  omega
theorem rem_lt (a b : Int) (hb : 0 < b) : val 5 a b < b := by rw [val5 a b (by omega)]; exact Int.emod_lt_of_pos a hb

/-- |x rem y| < |y|. -/
theorem tmod_size (x y : Int) (hy : y ≠ 0) : (x.tmod y < y ∨ x.tmod y < -y) ∧ (-(x.tmod y) < y ∨ -(x.tmod y) < -y) := by
  by_cases h : 0 < y
  · have h1 := Int.tmod_lt_of_pos x h
    have h2 := Int.lt_tmod_of_pos x h
    omega
  · have h1 := Int.tmod_lt_of_pos x (show 0 < -y by omega)
    have h2 := Int.lt_tmod_of_pos x (show 0 < -y by omega)
    rw [Int.tmod_neg] at h1 h2
    omega
theorem tmod_pos (x y : Int) (hx : 0 ≤ x) : 0 ≤ x.tmod y := Int.tmod_nonneg y hx
theorem tmod_nonpos (x y : Int) (hx : x ≤ 0) : x.tmod y ≤ 0 := by
  have h := Int.tmod_nonneg (a := -x) y (by omega)
  rw [Int.neg_tmod] at h
  omega
theorem tmod_bd (x y : Int) (hx : -2147483648 ≤ x) (hx' : x ≤ 2147483647) : -2147483648 ≤ x.tmod y ∧ x.tmod y ≤ 2147483647 := by
  have e : (x.tmod y).natAbs = x.natAbs % y.natAbs := Int.natAbs_tmod ..
  have l := Nat.mod_le x.natAbs y.natAbs
  by_cases h : 0 ≤ x
  · have h1 := tmod_pos x y h
    omega
  · have h1 := tmod_nonpos x y (by omega)
    omega

/-- The remainder, signed, is the signed numbers' remainder. -/
theorem rem_signed (a b : Int) (hb : b ≠ 0) : wrap32 (val 7 a b) = (wrap32 a).tmod (wrap32 b) := by
  rw [val7 a b hb]
  have h := wrap32_bd a
  have h2 := tmod_bd (wrap32 a) (wrap32 b) h.1 h.2
  generalize (wrap32 a).tmod (wrap32 b) = t at *
  unfold wrap32
  omega

theorem div_rem_signed (a b : Int) (ha : 0 ≤ a) (ha' : a < 4294967296) (hb : 0 < b) (hb' : b < 4294967296) : (val 6 a b * b + wrap32 (val 7 a b)) % 4294967296 = a := by
  rw [rem_signed a b (by omega), val6 a b (by omega)]
  have hx := wrap32_bd a
  have e := Int.mul_tdiv_add_tmod (wrap32 a) (wrap32 b)
  generalize hq : (wrap32 a).tdiv (wrap32 b) = q at *
  generalize ht : (wrap32 a).tmod (wrap32 b) = t at *
  have e1 : wrap32 q % 4294967296 % 4294967296 = q % 4294967296 := by unfold wrap32; omega
  have e2 : b % 4294967296 = wrap32 b % 4294967296 := by unfold wrap32; omega
  have e3 : wrap32 a % 4294967296 = a := by unfold wrap32; omega
  rw [Int.add_emod, Int.mul_emod, e1, e2, ← Int.mul_emod, ← Int.add_emod, Int.mul_comm, e, e3]

theorem rem_sign (a b : Int) (hb : b ≠ 0) : wrap32 (val 7 a b) = 0 ∨ (wrap32 (val 7 a b) < 0 ↔ wrap32 a < 0) := by
  rw [rem_signed a b hb]
  by_cases h : 0 ≤ wrap32 a
  · have := tmod_pos (wrap32 a) (wrap32 b) h; omega
  · have := tmod_nonpos (wrap32 a) (wrap32 b) (by omega); omega
theorem rem_size (a b : Int) (hb : 0 < b) (hb' : b < 4294967296) : (wrap32 (val 7 a b) < wrap32 b ∨ wrap32 (val 7 a b) < -(wrap32 b)) ∧ (-(wrap32 (val 7 a b)) < wrap32 b ∨ -(wrap32 (val 7 a b)) < -(wrap32 b)) := by
  rw [rem_signed a b (by omega)]
  exact tmod_size _ _ (wrap32_ne hb hb')
theorem wrap64_mod (n : Int) : wrap64 n % 4294967296 = n % 4294967296 := by unfold wrap64; omega

/-! Signed division by the unsigned one. -/
theorem neg_word (a : Int) : unVal 1 a = (0 - a) % 4294967296 := rfl
theorem val6_mod (a b : Int) (h : b ≠ 0) : val 6 a b = (wrap32 a).tdiv (wrap32 b) % 4294967296 := by
  rw [val6 a b h]
  generalize (wrap32 a).tdiv (wrap32 b) = t
  unfold wrap32
  omega
def absw (a : Int) : Int := if wrap32 a < 0 then unVal 1 a else a
theorem absw_eq (a : Int) (ha : 0 ≤ a) (ha' : a < 4294967296) : absw a = if wrap32 a < 0 then -(wrap32 a) else wrap32 a := by
  unfold absw
  rw [neg_word]
  unfold wrap32
  split <;> omega
theorem absw_bd (a : Int) (ha : 0 ≤ a) (ha' : a < 4294967296) : 0 ≤ absw a ∧ absw a ≤ 2147483648 := by
  rw [absw_eq a ha ha']
  have := wrap32_bd a
  split <;> omega
theorem absw_pos (a : Int) (ha : 0 < a) (ha' : a < 4294967296) : 0 < absw a := by
  rw [absw_eq a (by omega) ha']
  have := wrap32_ne ha ha'
  split <;> omega
theorem tdiv_abs (x y : Int) : x.tdiv y = if (x < 0) = (y < 0) then (if x < 0 then -x else x) / (if y < 0 then -y else y) else -((if x < 0 then -x else x) / (if y < 0 then -y else y)) := by
  have e1 : ∀ p q : Int, 0 ≤ p → p.tdiv q = p / q := fun p q h => Int.tdiv_eq_ediv_of_nonneg h
  by_cases hx : x < 0 <;> by_cases hy : y < 0
  · have h := e1 (-x) (-y) (by omega)
    rw [Int.neg_tdiv, Int.tdiv_neg, Int.neg_neg] at h
    simp [hx, hy, h]
  · have h := e1 (-x) y (by omega)
    rw [Int.neg_tdiv] at h
    simp [hx, hy, ← h]
  · have h := e1 x (-y) (by omega)
    rw [Int.tdiv_neg] at h
    simp only [hx, hy, if_true, if_false, eq_iff_iff, iff_true, ← h]
    omega
  · have h := e1 x y (by omega)
    simp [hx, hy, h]
theorem tmod_abs (x y : Int) : x.tmod y = if x < 0 then -((if x < 0 then -x else x) % (if y < 0 then -y else y)) else (if x < 0 then -x else x) % (if y < 0 then -y else y) := by
  have e1 : ∀ p q : Int, 0 ≤ p → p.tmod q = p % q := fun p q h => Int.tmod_eq_emod_of_nonneg h
  by_cases hx : x < 0 <;> by_cases hy : y < 0
  · have h := e1 (-x) (-y) (by omega)
    rw [Int.neg_tmod, Int.tmod_neg] at h
    simp only [hx, hy, if_true, ← h]
    omega
  · have h := e1 (-x) y (by omega)
    rw [Int.neg_tmod] at h
    simp only [hx, hy, if_true, if_false, ← h]
    omega
  · have h := e1 x (-y) (by omega)
    rw [Int.tmod_neg] at h
    simp only [hx, hy, if_true, if_false, h]
  · have h := e1 x y (by omega)
    simp only [hx, hy, if_false, h]
theorem signs6 (a b : Int) (ha : 0 ≤ a) (ha' : a < 4294967296) (hb : 0 < b) (hb' : b < 4294967296) : val 6 a b = if (wrap32 a < 0) = (wrap32 b < 0) then val 4 (absw a) (absw b) else unVal 1 (val 4 (absw a) (absw b)) := by
  have hB := absw_pos b hb hb'
  have hA := absw_bd a ha ha'
  rw [val6_mod a b (by omega), tdiv_abs, val4 _ _ (by omega), neg_word, ← absw_eq a ha ha', ← absw_eq b (by omega) hb']
  have q0 : 0 ≤ absw a / absw b := Int.ediv_nonneg hA.1 (by omega)
  have q1 := Int.ediv_le_self (a := absw a) (absw b) hA.1
  generalize absw a / absw b = q at *
  split <;> omega
theorem signs7 (a b : Int) (ha : 0 ≤ a) (ha' : a < 4294967296) (hb : 0 < b) (hb' : b < 4294967296) : val 7 a b = if wrap32 a < 0 then unVal 1 (val 5 (absw a) (absw b)) else val 5 (absw a) (absw b) := by
  have hB := absw_pos b hb hb'
  have hBB := absw_bd b (by omega) hb'
  have hA := absw_bd a ha ha'
  rw [val7 a b (by omega), tmod_abs, val5 _ _ (by omega), neg_word, ← absw_eq a ha ha', ← absw_eq b (by omega) hb']
  have q0 : 0 ≤ absw a % absw b := Int.emod_nonneg _ (by omega)
  have q1 := Int.emod_lt_of_pos (absw a) hB
  generalize absw a % absw b = q at *
  split <;> omega
/-! The comparisons. -/
theorem bit14 (a b : Int) : 0 ≤ val 14 a b ∧ val 14 a b ≤ 1 := by rw [val14]; split <;> omega
theorem bit15 (a b : Int) : 0 ≤ val 15 a b ∧ val 15 a b ≤ 1 := by rw [val15]; split <;> omega
theorem bit16 (a b : Int) : 0 ≤ val 16 a b ∧ val 16 a b ≤ 1 := by rw [val16]; split <;> omega
theorem bit17 (a b : Int) : 0 ≤ val 17 a b ∧ val 17 a b ≤ 1 := by rw [val17]; split <;> omega
theorem bit18 (a b : Int) : 0 ≤ val 18 a b ∧ val 18 a b ≤ 1 := by rw [val18]; split <;> omega
theorem bit19 (a b : Int) : 0 ≤ val 19 a b ∧ val 19 a b ≤ 1 := by rw [val19]; split <;> omega
theorem wrap32_inj {a b : Int} (ha : 0 ≤ a) (ha' : a < 4294967296) (hb : 0 ≤ b) (hb' : b < 4294967296) (h : wrap32 a = wrap32 b) : a = b := by unfold wrap32 at h; omega
theorem sum16 (a b : Int) : val 16 a b + val 16 b a + val 14 a b = 1 := by rw [val16, val16, val14]; split <;> split <;> split <;> omega
theorem sum18 (a b : Int) (ha : 0 ≤ a) (ha' : a < 4294967296) (hb : 0 ≤ b) (hb' : b < 4294967296) : val 18 a b + val 18 b a + val 14 a b = 1 := by
  rw [val18, val18, val14]
  have h := @wrap32_inj a b ha ha' hb hb'
  by_cases e : a = b
  · subst e; simp
  · have h2 : wrap32 a ≠ wrap32 b := fun g => e (h g)
    repeat' split
    all_goals omega
theorem le16 (a b : Int) : val 17 a b = val 16 a b + val 14 a b := by rw [val16, val17, val14]; split <;> split <;> split <;> omega
theorem le18 (a b : Int) (ha : 0 ≤ a) (ha' : a < 4294967296) (hb : 0 ≤ b) (hb' : b < 4294967296) : val 19 a b = val 18 a b + val 14 a b := by
  rw [val18, val19, val14]
  have h := @wrap32_inj a b ha ha' hb hb'
  by_cases e : a = b
  · subst e; simp
  · have h2 : wrap32 a ≠ wrap32 b := fun g => e (h g)
    repeat' split
    all_goals omega
theorem ne14 (a b : Int) : val 15 a b = 1 - val 14 a b := by rw [val15, val14]; split <;> omega
theorem trans16 (a b c : Int) : val 16 a b = 1 → val 16 b c = 1 → val 16 a c = 1 := by rw [val16, val16, val16]; split <;> split <;> split <;> omega
theorem trans18 (a b c : Int) : val 18 a b = 1 → val 18 b c = 1 → val 18 a c = 1 := by rw [val18, val18, val18]; split <;> split <;> split <;> omega
theorem xor_high (a : Int) (ha : 0 ≤ a) (ha' : a < 4294967296) : bits .xor .u32 a 2147483648 = (wrap32 a + 2147483648) := by
  have h := u32_xor_nat a.toNat 2147483648 (by omega) (by omega)
  rw [Int.toNat_of_nonneg ha] at h
  have h2 : ((2147483648 : Nat) : Int) = 2147483648 := rfl
  rw [h2] at h
  rw [h]
  have e : a.toNat ^^^ 2147483648 = if a.toNat < 2147483648 then a.toNat + 2147483648 else a.toNat - 2147483648 := by
    have hb : ∀ x : Nat, x < 2147483648 → x ^^^ 2147483648 = x + 2147483648 := by
      intro x hx
      have := Nat.two_pow_add_eq_or_of_lt (i := 31) (b := x) (by omega) 1
      rw [show (2147483648 : Nat) = 2 ^ 31 from rfl] at *
      rw [Nat.add_comm, ← Nat.mul_one (2 ^ 31), this]
      apply Nat.eq_of_testBit_eq
      intro j
      rw [Nat.mul_one, Nat.testBit_xor, Nat.testBit_or, Nat.testBit_two_pow]
      by_cases hj : 31 = j
      · subst hj
        have : x.testBit 31 = false := Nat.testBit_lt_two_pow (by omega)
        simp [this]
      · simp [hj]
    split
    · rename_i hl; exact hb _ hl
    · rename_i hl
      have h3 := hb (a.toNat - 2147483648) (by omega)
      have h4 : a.toNat = (a.toNat - 2147483648) ^^^ 2147483648 := by rw [h3]; omega
      rw [h4, Nat.xor_assoc, Nat.xor_self, Nat.xor_zero, h3]
      omega
  rw [e]
  unfold wrap32
  split <;> omega
theorem signs_order (a b : Int) : val 18 a b = val 16 (wrap32 a + 2147483648) (wrap32 b + 2147483648) := by
  rw [val18, val16]
  split <;> split <;> omega
theorem less_iff (a b : Int) : (val 18 a b = 1) ↔ wrap32 a < wrap32 b := by rw [val18]; split <;> omega
/-! Bits and shifts. -/
theorem nat_bits_step (x y : Nat) : (x &&& y) = 2 * (x / 2 &&& y / 2) + (x % 2 &&& y % 2) ∧ (x ||| y) = 2 * (x / 2 ||| y / 2) + (x % 2 ||| y % 2) ∧ (x ^^^ y) = 2 * (x / 2 ^^^ y / 2) + (x % 2 ^^^ y % 2) := by
  have a1 : (x &&& y) / 2 = x / 2 &&& y / 2 := Nat.and_div_two
  have a2 : (x &&& y) % 2 = x % 2 &&& y % 2 := Nat.and_mod_two_pow (n := 1)
  have o1 : (x ||| y) / 2 = x / 2 ||| y / 2 := Nat.or_div_two
  have o2 : (x ||| y) % 2 = x % 2 ||| y % 2 := Nat.or_mod_two_pow (n := 1)
  have x1 : (x ^^^ y) / 2 = x / 2 ^^^ y / 2 := Nat.xor_div_two
  have x2 : (x ^^^ y) % 2 = x % 2 ^^^ y % 2 := Nat.xor_mod_two_pow (n := 1)
  omega
theorem and_or_nat (n : Nat) : ∀ x y : Nat, x < 2 ^ n → (x &&& y) + (x ||| y) = x + y ∧ (x ^^^ y) + 2 * (x &&& y) = x + y := by
  induction n with
  | zero =>
    intro x y h
    obtain rfl : x = 0 := by simpa using h
    simp
  | succ n ih =>
    intro x y h
    have hh : x / 2 < 2 ^ n := by rw [Nat.pow_succ] at h; omega
    obtain ⟨i1, i2⟩ := ih (x / 2) (y / 2) hh
    obtain ⟨s1, s2, s3⟩ := nat_bits_step x y
    rcases (show x % 2 = 0 ∨ x % 2 = 1 by omega) with h1 | h1 <;> rcases (show y % 2 = 0 ∨ y % 2 = 1 by omega) with h2 | h2 <;> rw [h1, h2] at s1 s2 s3 <;> simp at s1 s2 s3 <;> omega
theorem and_or (a b : Int) (ha : 0 ≤ a) (ha' : a < 4294967296) (hb : 0 ≤ b) (hb' : b < 4294967296) : val 8 a b + val 9 a b = a + b ∧ val 10 a b + 2 * val 8 a b = a + b := by
  have h := and_or_nat 32 a.toNat b.toNat (by omega)
  rw [val8, val9, val10, u32_and a b ha ha' hb hb', u32_or a b ha ha' hb hb', u32_xor a b ha ha' hb hb']
  omega
theorem pow_lt {K : Int} (h0 : 0 ≤ K) (h1 : K < 32) : (0 : Int) < 2 ^ K.toNat ∧ (2 : Int) ^ K.toNat < 4294967296 := by
  refine ⟨Int.pow_pos (by decide), ?_⟩
  have h : (2 : Nat) ^ K.toNat < 2 ^ 32 := Nat.pow_lt_pow_right (by omega) (by omega)
  have e : ((2 ^ K.toNat : Nat) : Int) = (2 : Int) ^ K.toNat := by simp
  omega
theorem shr_div (a K : Int) (h0 : 0 ≤ K) (h1 : K < 32) : val 12 a K = val 4 a (2 ^ K.toNat % 4294967296) := by
  have hp := pow_lt h0 h1
  rw [val12, show min K.toNat 32 = K.toNat by omega, Int.emod_eq_of_lt (by omega) hp.2, val4 _ _ (by omega)]
theorem shl_mul (a K : Int) (h0 : 0 ≤ K) (h1 : K < 32) : val 11 a K = val 3 a (2 ^ K.toNat % 4294967296) := by
  have hp := pow_lt h0 h1
  rw [val11, show min K.toNat 32 = K.toNat by omega, Int.emod_eq_of_lt (by omega) hp.2, val3]
theorem shr_far (a K : Int) (ha : 0 ≤ a) (ha' : a < 4294967296) (h : 32 ≤ K) : val 12 a K = 0 := by
  rw [val12, show min K.toNat 32 = 32 by omega]
  omega
theorem shl_far (a K : Int) (h : 32 ≤ K) : val 11 a K = val 3 a 0 := by
  rw [val11, show min K.toNat 32 = 32 by omega, val3]
  omega
theorem sar_far (a K : Int) (ha : 0 ≤ a) (ha' : a < 4294967296) (h : 32 ≤ K) : val 13 a K = -(a / 2147483648) % 4294967296 := by
  rw [val13, show min K.toNat 32 = 32 by omega]
  unfold wrap32
  omega
theorem cut_8_rem (a : Int) : cutVal a 8 = val 5 a 256 := by rw [val5 _ _ (by decide)]; rfl
theorem cut_16_rem (a : Int) : cutVal a 16 = val 5 a 65536 := by rw [val5 _ _ (by decide)]; rfl
theorem not_add (a : Int) : unVal 2 a + a = 4294967295 := by
  have h : unVal 2 a = 4294967295 - a := rfl
  omega
theorem neg_add (a : Int) : (unVal 1 a + a) % 4294967296 = 0 := by rw [neg_word]; omega
/-! Shifts there and back. -/
theorem floor_tdiv (x P : Int) (hP : 0 < P) : x / P = if x.tmod P < 0 then x.tdiv P - 1 else x.tdiv P := by
  have e := Int.mul_tdiv_add_tmod x P
  have b1 := Int.tmod_lt_of_pos x hP
  have b2 := Int.lt_tmod_of_pos x hP
  generalize x.tdiv P = D at *
  generalize x.tmod P = R at *
  have e2 : x / P = R / P + D := by rw [← e, Int.add_comm, Int.add_mul_ediv_left _ _ (by omega)]
  rw [e2]
  split
  · have h : (R + P * 1) / P = R / P + 1 := Int.add_mul_ediv_left _ _ (by omega)
    have h0 : (R + P * 1) / P = 0 := Int.ediv_eq_zero_of_lt (by omega) (by omega)
    omega
  · have h0 : R / P = 0 := Int.ediv_eq_zero_of_lt (by omega) (by omega)
    omega
theorem tdiv_bd (x P : Int) (h : -2147483648 ≤ x ∧ x ≤ 2147483647) (hP : 0 < P) : -2147483648 ≤ x / P ∧ x / P ≤ 2147483647 := by
  constructor
  · exact (Int.le_ediv_iff_mul_le hP).2 (by have : -2147483648 * P ≤ -2147483648 * 1 := Int.mul_le_mul_of_nonpos_left (by decide) (by omega); omega)
  · by_cases h0 : 0 ≤ x
    · have := Int.ediv_le_self (a := x) P h0; omega
    · have : x / P < 0 := Int.ediv_neg_of_neg_of_pos (by omega) hP
      omega
theorem tdiv_bd' (x P : Int) (h : -2147483648 ≤ x ∧ x ≤ 2147483647) (hP : 0 < P) : -2147483648 ≤ x.tdiv P ∧ x.tdiv P ≤ 2147483647 := by
  have e : (x.tdiv P).natAbs = x.natAbs / P.natAbs := Int.natAbs_tdiv ..
  have l := Nat.div_le_self x.natAbs P.natAbs
  by_cases h0 : 0 ≤ x
  · omega
  · have : 0 ≤ (-x).tdiv P := Int.tdiv_nonneg (by omega) (by omega)
    rw [Int.neg_tdiv] at this
    omega
theorem sar_down (a K : Int) (h0 : 0 ≤ K) (h1 : K < 32) : wrap32 (val 13 a K) = if (wrap32 a).tmod (2 ^ K.toNat) < 0 then (wrap32 a).tdiv (2 ^ K.toNat) - 1 else (wrap32 a).tdiv (2 ^ K.toNat) := by
  have hp := pow_lt h0 h1
  rw [val13, show min K.toNat 32 = K.toNat by omega, ← floor_tdiv _ _ hp.1]
  have b := tdiv_bd (wrap32 a) (2 ^ K.toNat) (wrap32_bd a) hp.1
  generalize wrap32 a / 2 ^ K.toNat = t at *
  unfold wrap32
  omega
theorem pow_le (K : Int) (h1 : K < 32) : (2 : Int) ^ K.toNat ≤ 2147483648 := by
  have h : (2 : Nat) ^ K.toNat ≤ 2 ^ 31 := Nat.pow_le_pow_right (by omega) (by omega)
  have e : ((2 ^ K.toNat : Nat) : Int) = (2 : Int) ^ K.toNat := by simp
  omega
theorem there_and_back (a K : Int) (ha : 0 ≤ a) (ha' : a < 4294967296) (h0 : 0 ≤ K) (h1 : K < 32) : bits .andNot .u32 a (val 11 4294967295 (32 - K)) = val 12 (val 11 a K) K := by
  have hp := pow_lt h0 h1
  have hm : (2 : Int) ^ K.toNat * 2 ^ (32 - K).toNat = 4294967296 := by
    rw [← Int.pow_add, show K.toNat + (32 - K).toNat = 32 by omega]; rfl
  have hq : (0 : Int) < 2 ^ (32 - K).toNat := Int.pow_pos (by decide)
  have hq2 : (2 : Int) ^ (32 - K).toNat ≤ 4294967296 := by
    have h : (2 : Nat) ^ (32 - K).toNat ≤ 2 ^ 32 := Nat.pow_le_pow_right (by omega) (by omega)
    have e : ((2 ^ (32 - K).toNat : Nat) : Int) = (2 : Int) ^ (32 - K).toNat := by simp
    omega
  have r : val 12 (val 11 a K) K = a % 2 ^ (32 - K).toNat := by
    rw [val12, val11, show min K.toNat 32 = K.toNat by omega]
    have e1 : a * 2 ^ K.toNat % 4294967296 = 2 ^ K.toNat * (a % 2 ^ (32 - K).toNat) := by
      rw [← hm, Int.mul_comm a, Int.mul_emod_mul_of_pos _ _ hp.1]
    rw [e1, Int.mul_ediv_cancel_left _ (by omega)]
  have hH : val 11 4294967295 (32 - K) = 4294967296 - 2 ^ (32 - K).toNat := by
    rw [val11, show min (32 - K).toNat 32 = (32 - K).toNat by omega]
    generalize (2 : Int) ^ (32 - K).toNat = q at *
    omega
  rw [r, hH, u32_andNot a _ ha ha' (by omega) (by omega)]
  have e3 : 4294967295 - (4294967296 - (2 : Int) ^ (32 - K).toNat).toNat = 2 ^ (32 - K).toNat - 1 := by
    have e : ((2 ^ (32 - K).toNat : Nat) : Int) = (2 : Int) ^ (32 - K).toNat := by simp
    omega
  rw [e3, Nat.and_two_pow_sub_one_eq_mod, Int.natCast_emod, Int.toNat_of_nonneg ha]
  simp
theorem cut_cut (a : Int) : cutVal (cutVal a 16) 8 = cutVal a 8 := by
  show a % 65536 % 256 = a % 256
  omega
end Wd
end Go.Proofs.YtcabnckinkdloaaDoor
