/-
  WALKS: Count of package lines, and what it calls. Own work.
-/
import Derived.Test.YtlhbpklilfabnaaDoorLinSmall
namespace Go.Proofs.YtlhbpklilfabnaaDoor
namespace Ln
open Go.RowKit Go
set_option linter.unusedVariables false
theorem pop_word {s : Int} (h0 : 0 ≤ s) (h1 : s < 4294967296) {a b c d : Nat} (ha : a = pop8 (s.toNat / 16777216)) (hb : b = pop8 (s.toNat / 65536 % 256)) (hc : c = pop8 (s.toNat / 256 % 256)) (hd : d = pop8 (s.toNat % 256)) :
    ones s = ((a + b + c + d : Nat) : Int) := by
  rw [ones_split s h0, ha, hb, hc, hd]
theorem pop8_le (n : Nat) : pop8 n ≤ 8 := by unfold pop8; have := List.length_filter_le n.testBit (List.range 8); simpa using this
theorem at_any {S : ByteArray} (hp : ∀ k, k < 256 → (S.data.toList.getD k 0).toNat = pop8 k) (k : Nat) (hk : k < S.size) (hk' : k < 256) : (S[k]).toNat = pop8 k := by
  rw [← hp k hk']
  congr 1
  have e : S[k] = S.data.toList[k]'(by simpa using hk) := rfl
  rw [e, List.getD, List.getElem?_eq_getElem]; rfl
set_option maxRecDepth 100000 in
theorem count8 (s : Int) (w : World) (hs : 0 ≤ s) (hs' : s < 4294967296) :
    Calls Tryd.prog 26 #[.int .u32 s] w fun e w' => e = .returned (.int .i64 (ones s)) ∧ Kp w w' := by
  have m1 : bits .and .u32 (s / 65536) 255 = s / 65536 % 256 := by rw [u32_and _ _ (by omega) (by omega) (by omega) (by omega)]; show ((_ &&& 255 : Nat) : Int) = _; rw [nat_mask8]; omega
  have m2 : bits .and .u32 (s / 256) 255 = s / 256 % 256 := by rw [u32_and _ _ (by omega) (by omega) (by omega) (by omega)]; show ((_ &&& 255 : Nat) : Int) = _; rw [nat_mask8]; omega
  have m3 : bits .and .u32 s 255 = s % 256 := by rw [u32_and _ _ (by omega) (by omega) (by omega) (by omega)]; show ((_ &&& 255 : Nat) : Int) = _; rw [nat_mask8]; omega
  go_enter Tryd.func26, Tryd.ntmps26
  generalize hS : ByteArray.mk _ = S
  have hsz : S.size = 256 := by rw [← hS]; decide +kernel
  have hp : Hid (∀ k, k < 256 → (S.data.toList.getD k 0).toNat = pop8 k) := Lib.hid (by rw [← hS]; decide +kernel)
  clear hS
  have i1 : 0 ≤ s / 16777216 ∧ s / 16777216 < 256 := by omega
  have i2 : 0 ≤ s / 65536 % 256 ∧ s / 65536 % 256 < 256 := by omega
  have i3 : 0 ≤ s / 256 % 256 ∧ s / 256 % 256 < 256 := by omega
  have i4 : 0 ≤ s % 256 ∧ s % 256 < 256 := by omega
  obtain ⟨i1, j1⟩ := i1
  obtain ⟨i2, j2⟩ := i2
  obtain ⟨i3, j3⟩ := i3
  obtain ⟨i4, j4⟩ := i4
  go_wp2
  go_quiet (fail)
  go_wp2
  go_ret
  refine ⟨ret_int ?_, (Kp.refl _).drewN _⟩
  have q1 := at_any hp.out (s / 16777216).toNat (by omega) (by omega)
  have q2 := at_any hp.out (s / 65536 % 256).toNat (by omega) (by omega)
  have q3 := at_any hp.out (s / 256 % 256).toNat (by omega) (by omega)
  have q4 := at_any hp.out (s % 256).toNat (by omega) (by omega)
  rw [q1, q2, q3, q4, pop_word hs hs' rfl rfl rfl rfl]
  rw [show (s / 16777216).toNat = s.toNat / 16777216 by omega, show (s / 65536 % 256).toNat = s.toNat / 65536 % 256 by omega, show (s / 256 % 256).toNat = s.toNat / 256 % 256 by omega, show (s % 256).toNat = s.toNat % 256 by omega]
  have p1 := pop8_le (s.toNat / 16777216)
  have p2 := pop8_le (s.toNat / 65536 % 256)
  have p3 := pop8_le (s.toNat / 256 % 256)
  have p4 := pop8_le (s.toNat % 256)
  omega
theorem count_any (s : Int) (w : World) (hs : 0 ≤ s) (hs' : s < 4294967296) :
    Calls Tryd.prog 12 #[.int .u32 s] w fun e w' => e = .returned (.int .i64 (ones s)) ∧ Kp w w' := by
  have ho : 0 ≤ ones s ∧ ones s ≤ 32 := by have := linesOf_le s; unfold ones; omega
  obtain ⟨o1, o2⟩ := ho
  go_enter Tryd.func12, Tryd.ntmps12
  go_wp2_with (go_at_call 26; refine (count8 s w hs hs').mono ?_; rintro e w1 ⟨rfl, hk⟩)
  go_ret
  exact ⟨rfl, hk⟩
end Ln
end Go.Proofs.YtlhbpklilfabnaaDoor
