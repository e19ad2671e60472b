/-
  The walk of WordOrders: the comparisons are total orders, for unsigned and for signed words. Own work.
-/
import Derived.Test.YtcabnckinkdloaaWordDov
import Derived.Test.YtcabnckinkdloaaWordLaws
namespace Go.Proofs.Ytcabnckinkdloaa
namespace Wd
open Go.RowKit Go
set_option linter.unusedVariables false

theorem beq_of_iff {p : Prop} [Decidable p] {x : Int} (h : x = 1 ↔ p) : (decide p == (x == 1)) = true := by
  by_cases g : p
  · have e := h.2 g
    simp [g, e]
  · have e : ¬ x = 1 := fun e => g (h.1 e)
    simp [g, e]

set_option maxHeartbeats 1000000 in
theorem orders_core (a b c E NE L0 M0 P0 B0 C0 L1 M1 P1 B1 C1 xa xb : Int) (w : World) (ha : 0 ≤ a) (ha' : a < 4294967296) (hb : 0 ≤ b) (hb' : b < 4294967296) (hc : 0 ≤ c) (hc' : c < 4294967296)
    (hE : val 14 a b = E) (hNE : val 15 a b = NE) (hL0 : val 16 a b = L0) (hM0 : val 16 b a = M0) (hP0 : val 17 a b = P0) (hB0 : val 16 b c = B0) (hC0 : val 16 a c = C0)
    (hL1 : val 18 a b = L1) (hM1 : val 18 b a = M1) (hP1 : val 19 a b = P1) (hB1 : val 18 b c = B1) (hC1 : val 18 a c = C1)
    (e0 : 0 ≤ E) (e1 : E ≤ 1) (l0 : 0 ≤ L0) (l0' : L0 ≤ 1) (m0 : 0 ≤ M0) (m0' : M0 ≤ 1) (l1 : 0 ≤ L1) (l1' : L1 ≤ 1) (m1 : 0 ≤ M1) (m1' : M1 ≤ 1)
    (hxa : bits .xor .u32 a 2147483648 = xa) (hxb : bits .xor .u32 b 2147483648 = xb) (xa0 : 0 ≤ xa) (xa1 : xa < 4294967296) (xb0 : 0 ≤ xb) (xb1 : xb < 4294967296) (hX : val 16 xa xb = L1)
    (S0 : Hid (L0 + M0 + E = 1)) (S1 : Hid (L1 + M1 + E = 1)) (Q0 : Hid (P0 = L0 + E)) (Q1 : Hid (P1 = L1 + E)) (N0 : Hid (NE = 1 - E))
    (T0 : Hid (L0 = 1 → B0 = 1 → C0 = 1)) (T1 : Hid (L1 = 1 → B1 = 1 → C1 = 1)) (I1 : Hid (L1 = 1 ↔ wrap32 a < wrap32 b)) :
    Calls Try.prog 4 #[.int .u32 a, .int .u32 b, .int .u32 c] w (Yes w) := by
  have k0 := Kp.refl w
  go_enter Try.func4, Try.ntmps4
  go_wp2_with (go_at_call 8; refine (lives_yes (by assumption)).mono ?_; rintro e w1 ⟨rfl, h1⟩)
  go_loopw [16] (fun i wr => (i = .int .i64 0 ∨ i = .int .i64 1 ∨ i = .int .i64 2) ∧ Kp (w1.alloc (.cells #[.int .i64 16, .int .i64 18] 3)) wr) (fun i _ => 2 - (intOf i).toNat)
  case atStart => exact ⟨Or.inl rfl, Kp.refl _⟩
  case round =>
    obtain ⟨hi, hk⟩ := hrel
    have c0 : wr.cell? ⟨w1.heap.size, 0, none⟩ = some (.int .i64 16) := by rw [hk.cell (by simp)]; go_simp
    have c1 : wr.cell? ⟨w1.heap.size, 1, none⟩ = some (.int .i64 18) := by rw [hk.cell (by simp)]; go_simp
    rcases hi with rfl | rfl | rfl
    · clear c1
      go_wp2_with (go_at_call 9; refine (dov (by assumption) _ _ _ (by omega) (by omega) (by omega) (by omega)).mono ?_; rintro e w2 ⟨rfl, h2⟩)
      all_goals (have s0 := S0.out; have q0 := Q0.out; have n0 := N0.out; have t0 := T0.out; clear S0 S1 Q0 Q1 N0 T0 T1 I1)
      all_goals first | exact ⟨⟨Or.inr (Or.inl rfl), by assumption⟩, by simp [intOf]⟩ | (exfalso; simp at *; omega)
    · clear c0
      go_wp2_with (go_at_call 9; refine (dov (by assumption) _ _ _ (by omega) (by omega) (by omega) (by omega)).mono ?_; rintro e w2 ⟨rfl, h2⟩)
      all_goals (have s0 := S1.out; have q0 := Q1.out; have n0 := N0.out; have t0 := T1.out; clear S0 S1 Q0 Q1 N0 T0 T1 I1)
      all_goals first | exact ⟨⟨Or.inr (Or.inr rfl), by assumption⟩, by simp [intOf]⟩ | (exfalso; simp at *; omega)
    · clear c0 c1
      have hk2 : Kp w wr := (h1.alloc #[.int .i64 16, .int .i64 18] 3).trans hk
      clear hk h1 k0
      go_wp2_with (first | (go_at_call 9; refine (dov (by assumption) _ _ _ (by omega) (by omega) (by omega) (by omega)).mono ?_; rintro e w2 ⟨rfl, h2⟩) | (go_at_call 11; refine (signed_any _ _ (by omega) (by omega)).mono ?_; rintro e w1 ⟨rfl, rfl⟩))
      all_goals (have t0 := I1.out; clear S0 S1 Q0 Q1 N0 T0 T1 I1)
      go_ret
      exact ⟨ret_bool (beq_of_iff t0), by assumption⟩

theorem orders_walk (a b c : Int) (w : World) (ha : 0 ≤ a) (ha1 : a ≤ 4294967295) (hb : 0 ≤ b) (hb1 : b ≤ 4294967295) (hc : 0 ≤ c) (hc1 : c ≤ 4294967295) :
    Calls Try.prog 4 #[.int .u32 a, .int .u32 b, .int .u32 c] w (Yes w) := by
  have ha' : a < 4294967296 := by omega
  have hb' : b < 4294967296 := by omega
  have hc' : c < 4294967296 := by omega
  have x := wrap32_bd a
  have y := wrap32_bd b
  have e := bit14 a b
  have l0 := bit16 a b
  have m0 := bit16 b a
  have l1 := bit18 a b
  have m1 := bit18 b a
  exact orders_core a b c _ _ _ _ _ _ _ _ _ _ _ _ _ _ w ha ha' hb hb' hc hc' rfl rfl rfl rfl rfl rfl rfl rfl rfl rfl rfl rfl e.1 e.2 l0.1 l0.2 m0.1 m0.2 l1.1 l1.2 m1.1 m1.2
    (xor_high a ha ha') (xor_high b hb hb') (by omega) (by omega) (by omega) (by omega) (signs_order a b).symm
    (Lib.hid (sum16 a b)) (Lib.hid (sum18 a b ha ha' hb hb')) (Lib.hid (le16 a b)) (Lib.hid (le18 a b ha ha' hb hb')) (Lib.hid (ne14 a b)) (Lib.hid (trans16 a b c)) (Lib.hid (trans18 a b c)) (Lib.hid (less_iff a b))
end Wd
end Go.Proofs.Ytcabnckinkdloaa
