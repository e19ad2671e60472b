/-
  PLAIN FACTS: numbers' digits, decimal and hexadecimal, with zeros ahead or a letter behind; no program. Own work.
-/
import Derived.Test.YtlgkcjhoaecekaaDoorLxPos
namespace Go.Proofs.YtlgkcjhoaecekaaDoor
namespace Lx
set_option linter.unusedVariables false

/-- The digit of a small number. -/
def dgb (x : Nat) : UInt8 := if x < 10 then UInt8.ofNat (48 + x) else UInt8.ofNat (87 + x)
theorem dgb_all : ∀ x : Fin 16, dig (dgb x.val) = x.val ∧ isHx (dgb x.val) = true ∧ (x.val < 10 → isDg (dgb x.val) = true) ∧ noNl (dgb x.val) = true := by decide
theorem dig_dgb {x : Nat} (h : x < 16) : dig (dgb x) = x := (dgb_all ⟨x, h⟩).1
theorem hx_dgb {x : Nat} (h : x < 16) : isHx (dgb x) = true := (dgb_all ⟨x, h⟩).2.1
theorem dg_dgb {x : Nat} (h : x < 10) : isDg (dgb x) = true := (dgb_all ⟨x, by omega⟩).2.2.1 h
theorem fold_val (q : Nat) : ∀ (ds : List UInt8) (n : Nat), ds.foldl (fun n b => n * q + dig b) n = n * q ^ ds.length + val q ds
  | [], n => by simp [val]
  | b :: ds, n => by
    have h1 := fold_val q ds (n * q + dig b)
    have h2 := fold_val q ds (0 * q + dig b)
    unfold val
    rw [List.foldl_cons, List.foldl_cons, h1, h2, List.length_cons, Nat.pow_succ, Nat.add_mul, Nat.zero_mul, Nat.zero_add, Nat.mul_assoc, Nat.mul_comm q, Nat.add_assoc]
theorem val_cons (q : Nat) (b : UInt8) (ds : List UInt8) : val q (b :: ds) = dig b * q ^ ds.length + val q ds := by
  have := fold_val q ds (0 * q + dig b)
  unfold val
  rw [List.foldl_cons, this, Nat.zero_mul, Nat.zero_add]
  rfl
theorem val_zero (q : Nat) (ds : List UInt8) : val q (48 :: ds) = val q ds := by
  rw [val_cons, show dig 48 = 0 by decide, Nat.zero_mul, Nat.zero_add]
theorem val_app (q : Nat) (a b : List UInt8) : val q (a ++ b) = val q a * q ^ b.length + val q b := by
  have := fold_val q b (val q a)
  rw [← this]
  unfold val
  rw [List.foldl_append]
/-- The digits so far, and what is left of the number. -/
structure Dgt (q n x : Nat) (d : List UInt8) : Prop where
  num : n = x * q ^ d.length + val q d
  all : ∀ b ∈ d, ∃ y, y < q ∧ b = dgb y
  len : d.length ≤ 32
  lt : x < 2 ^ (32 - d.length)
theorem Dgt.start {q n : Nat} (h : n < 4294967296) : Dgt q n n [] := ⟨by simp [val], by simp, by simp, by simpa using h⟩
theorem Dgt.next {q n x : Nat} {d : List UInt8} (h : Dgt q n x d) (hq : 2 ≤ q) (hq2 : q ≤ 16) (hl : d.length < 32) : Dgt q n (x / q) (dgb (x % q) :: d) := by
  have hm := Nat.mod_lt x (show 0 < q by omega)
  refine ⟨?_, ?_, by simp; omega, ?_⟩
  · rw [h.num, val_cons, dig_dgb (by omega), List.length_cons, Nat.pow_succ]
    have e := Nat.div_add_mod x q
    have : x * q ^ d.length = x / q * (q ^ d.length * q) + x % q * q ^ d.length := by
      conv => lhs; rw [← e]
      rw [Nat.add_mul, Nat.mul_comm q (x / q), Nat.mul_assoc, Nat.mul_comm q]
    omega
  · intro b hb
    rw [List.mem_cons] at hb
    rcases hb with rfl | hb
    · exact ⟨_, hm, rfl⟩
    · exact h.all b hb
  · have h1 := h.lt
    have e : 32 - d.length = (32 - (d.length + 1)) + 1 := by omega
    rw [e, Nat.pow_succ] at h1
    rw [List.length_cons]
    have : x / q ≤ x / 2 := Nat.div_le_div_left hq (by decide)
    omega
/-- At the end, and ahead of it. -/
theorem Dgt.val {q n : Nat} {d : List UInt8} (h : Dgt q n 0 d) : val q d = n := by have := h.num; simpa using this.symm
theorem Dgt.more {q n x : Nat} {d : List UInt8} (h : Dgt q n x d) (hx : 0 < x) : d.length < 32 := by
  rcases Nat.lt_or_ge d.length 32 with g | g
  · exact g
  · have := h.lt
    rw [show 32 - d.length = 0 by omega] at this
    simp at this
    omega
theorem all_dg {d : List UInt8} (h : ∀ b ∈ d, ∃ y, y < 10 ∧ b = dgb y) : ∀ b ∈ d, isDg b = true := fun b hb => by
  obtain ⟨y, hy, rfl⟩ := h b hb
  exact dg_dgb hy
theorem all_hx {d : List UInt8} (h : ∀ b ∈ d, ∃ y, y < 16 ∧ b = dgb y) : ∀ b ∈ d, isHx b = true := fun b hb => by
  obtain ⟨y, hy, rfl⟩ := h b hb
  exact hx_dgb hy
theorem dg_no {b : UInt8} (h : isDg b = true) : b ≠ 10 ∧ isBl b = false ∧ b ≠ 47 ∧ stW b = false := by
  have : ∀ n : Fin 256, isDg (UInt8.ofNat n.val) = true → UInt8.ofNat n.val ≠ 10 ∧ isBl (UInt8.ofNat n.val) = false ∧ UInt8.ofNat n.val ≠ 47 ∧ stW (UInt8.ofNat n.val) = false := by decide +kernel
  have e : UInt8.ofNat b.toNat = b := by simp
  have := this ⟨b.toNat, b.toNat_lt⟩
  rw [show ((⟨b.toNat, b.toNat_lt⟩ : Fin 256).val) = b.toNat from rfl, e] at this
  exact this h
theorem pre_cons {x y b : UInt8} {q : List UInt8} (h : b ≠ x) : [x, y].isPrefixOf (b :: q) = false := by
  simp only [List.isPrefixOf]
  have : (x == b) = false := by simpa using fun e => h e.symm
  rw [this, Bool.false_and]
theorem hd_digit {b : UInt8} {q : List UInt8} (h : isDg b = true) (g : [48, 120].isPrefixOf (b :: q) = false) : hdOf (b :: q) = .dg :=
  have d := dg_no h
  hd_dg.2 ⟨d.1, d.2.1, pre_cons d.2.2.1, d.2.2.2, g, h⟩
theorem no_0x {b : UInt8} {q : List UInt8} (h : ∀ c ∈ q, isDg c = true) : [48, 120].isPrefixOf (b :: q) = false := by
  cases q with
  | nil => simp [List.isPrefixOf]
  | cons c q =>
    have hc := h c (by simp)
    have : c ≠ 120 := by intro e; subst e; revert hc; decide
    simp only [List.isPrefixOf]
    have : (120 == c) = false := by simpa using fun e => this e.symm
    rw [this]
    simp
/-- A text of digits is one number. -/
theorem Lex_dec {d : List UInt8} {n : Nat} (h0 : d ≠ []) (hd : ∀ b ∈ d, isDg b = true) (hv : val 10 d = n) (hn : n < 4294967296) : Lex d 1 1 = .ok [⟨3, d, 1, 1, n⟩] := by
  cases d with
  | nil => exact absurd rfl h0
  | cons b q =>
    have hh := hd_digit (hd b (by simp)) (no_0x (q := q) (fun c hc => hd c (List.mem_cons_of_mem _ hc)))
    have hs := spn_all hd
    have ht : tokH (hdOf (b :: q)) (b :: q) = some (3, (b :: q).length, (n : Int)) := by
      rw [hh]
      simp only [tokH]
      unfold numT
      rw [List.drop_zero, hs, List.take_length, hv, if_neg (by simp), if_neg (by omega), Nat.zero_add, List.drop_length]
      rfl
    rw [Lex_yes ht, List.take_length, List.drop_length, Lex_fin rfl]
    rfl
theorem Lex_hex {d : List UInt8} {n : Nat} (h0 : d ≠ []) (hd : ∀ b ∈ d, isHx b = true) (hv : val 16 d = n) (hn : n < 4294967296) : Lex (48 :: 120 :: d) 1 1 = .ok [⟨3, 48 :: 120 :: d, 1, 1, n⟩] := by
  have hh : hdOf (48 :: 120 :: d) = .hx := hd_hx.2 ⟨by decide, by decide, pre_cons (by decide), by decide, by simp [List.isPrefixOf]⟩
  have hs := spn_all hd
  have hl : 0 < d.length := List.length_pos_iff.2 h0
  have ht : tokH (hdOf (48 :: 120 :: d)) (48 :: 120 :: d) = some (3, (48 :: 120 :: d).length, (n : Int)) := by
    rw [hh]
    simp only [tokH]
    unfold numT
    have e : (48 :: 120 :: d).drop 2 = d := rfl
    have e2 : (48 :: 120 :: d).drop (2 + d.length) = [] := by
      rw [List.drop_eq_nil_iff]
      simp
      omega
    rw [e, hs, List.take_length, hv, if_neg (by omega), if_neg (by omega), e2]
    simp
    omega
  rw [Lex_yes ht, List.take_length, List.drop_length, Lex_fin rfl]
  rfl
/-- Digits, and behind them a letter. -/
theorem Lex_letter {d : List UInt8} {n : Nat} {c : UInt8} (h0 : d ≠ []) (hd : ∀ b ∈ d, isDg b = true) (hv : val 10 d = n) (hn : n < 4294967296) (hc : 97 ≤ c.toNat ∧ c.toNat ≤ 122) : Lex (d ++ [c]) 1 1 = .error (1, 1) := by
  have hcd : isDg c = false := by unfold isDg; simp; omega
  have hcs : stick c = true := by unfold stick inW stW; simp [hc.1, hc.2]
  have hch : c ≠ 10 := by intro e; subst e; revert hc; decide
  cases d with
  | nil => exact absurd rfl h0
  | cons b q =>
    have hb := hd b (by simp)
    have dn := dg_no hb
    by_cases g : [48, 120].isPrefixOf (b :: (q ++ [c])) = true
    · -- 0x and nothing
      have hh : hdOf (b :: (q ++ [c])) = .hx := hd_hx.2 ⟨dn.1, dn.2.1, pre_cons dn.2.2.1, dn.2.2.2, g⟩
      have hq : q = [] := by
        cases q with
        | nil => rfl
        | cons e r =>
          have he := hd e (by simp)
          obtain ⟨t, ht⟩ := List.isPrefixOf_iff_prefix.1 g
          simp at ht
          obtain ⟨_, rfl, _⟩ := ht
          exact absurd he (by decide)
      subst hq
      have ht : tokH (hdOf (b :: ([] ++ [c]))) (b :: ([] ++ [c])) = none := by
        rw [hh]
        rfl
      exact Lex_no (.inr (.inl hh)) ht
    · have g' : [48, 120].isPrefixOf (b :: (q ++ [c])) = false := Bool.eq_false_iff.2 g
      have hh := hd_digit (q := q ++ [c]) hb g'
      have hs : spn isDg (b :: q ++ [c]) = (b :: q).length := by
        have : ∀ l : List UInt8, (∀ x ∈ l, isDg x = true) → spn isDg (l ++ [c]) = l.length := by
          intro l
          induction l with
          | nil => intro _; exact spn_cons_f hcd
          | cons x l ih => intro hx; rw [List.cons_append, spn_cons_t (hx x (by simp)), ih (fun y hy => hx y (by simp [hy]))]; rfl
        exact this _ hd
      have ht : tokH (hdOf (b :: (q ++ [c]))) (b :: (q ++ [c])) = none := by
        rw [hh]
        simp only [tokH]
        have e : b :: (q ++ [c]) = (b :: q) ++ [c] := rfl
        unfold numT
        rw [e, List.drop_zero, hs, take_sep (Nat.le_refl _), List.take_length, hv, if_neg (by simp), if_neg (by omega), Nat.zero_add, drop_sep (Nat.le_refl _), List.drop_length, List.nil_append]
        simp [hcs]
      exact Lex_no (.inr (.inr (.inl hh))) ht
/-- Digits of a number that is too great. -/
theorem Lex_big {d : List UInt8} (h0 : d ≠ []) (hd : ∀ b ∈ d, isDg b = true) (hv : 4294967295 < val 10 d) : Lex d 1 1 = .error (1, 1) := by
  cases d with
  | nil => exact absurd rfl h0
  | cons b q =>
    have hh := hd_digit (hd b (by simp)) (no_0x (q := q) (fun c hc => hd c (List.mem_cons_of_mem _ hc)))
    have hs := spn_all hd
    have ht : tokH (hdOf (b :: q)) (b :: q) = none := by
      rw [hh]
      simp only [tokH]
      unfold numT
      rw [List.drop_zero, hs, List.take_length, if_neg (by simp), if_pos hv]
      rfl
    exact Lex_no (.inr (.inr (.inl hh))) ht
theorem big_val {d : List UInt8} : 4294967295 < val 10 (49 :: 48 :: 48 :: 48 :: 48 :: 48 :: 48 :: 48 :: 48 :: 48 :: 48 :: d) := by
  rw [val_cons, show dig 49 = 1 by decide, Nat.one_mul, show (48 :: 48 :: 48 :: 48 :: 48 :: 48 :: 48 :: 48 :: 48 :: 48 :: d).length = d.length + 10 by simp]
  have : 0 < 10 ^ d.length := Nat.pow_pos (by decide)
  rw [Nat.pow_add]
  have : 10 ^ d.length * 10 ^ 10 ≥ 1 * 10 ^ 10 := Nat.mul_le_mul_right _ this
  omega
end Lx
end Go.Proofs.YtlgkcjhoaecekaaDoor
