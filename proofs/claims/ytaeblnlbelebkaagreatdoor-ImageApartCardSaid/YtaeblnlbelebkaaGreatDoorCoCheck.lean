/-
  WALKS: package code, which numbers are allowed; Check. Own work.
-/
import Derived.Test.YtaeblnlbelebkaaGreatDoorCoRow
namespace Go.Proofs.YtaeblnlbelebkaaGreatDoor
namespace Co
open Go.RowKit Go
set_option linter.unusedVariables false

theorem str_ne {l : List UInt8} (h : l ≠ []) : (bytesOf l).toList.isEmpty = false := by
  rw [bytesOf_toList]; simp [h]
theorem allows_rng1 (n : Int) (w : World) : Calls Tryz.prog 110 #[.int .i64 1, .int .i64 n] w fun e w' => e = .returned (.bool (alw 1 n)) ∧ w = w' := by
  rw [alw_1]
  go_enter Tryz.func110, Tryz.ntmps110
  go_wp2
  all_goals (go_ret; exact ⟨ret_bool (by simp <;> omega), rfl⟩)
theorem allows_rng2 (n : Int) (w : World) : Calls Tryz.prog 110 #[.int .i64 2, .int .i64 n] w fun e w' => e = .returned (.bool (alw 2 n)) ∧ w = w' := by
  rw [alw_2]
  go_enter Tryz.func110, Tryz.ntmps110
  go_wp2
  all_goals (go_ret; exact ⟨ret_bool (by simp <;> omega), rfl⟩)
theorem allows_rng3 (n : Int) (w : World) (hlo : -9223372036854775808 ≤ n) (hhi : n ≤ 9223372036854775807) : Calls Tryz.prog 110 #[.int .i64 3, .int .i64 n] w fun e w' => e = .returned (.bool (alw 3 n)) ∧ w = w' := by
  rw [alw_3]
  by_cases h : 0 ≤ n
  all_goals
    go_enter Tryz.func110, Tryz.ntmps110
    go_wp2
    all_goals (go_ret; exact ⟨ret_bool (by simp <;> omega), rfl⟩)
theorem allows_rng7 (n : Int) (w : World) : Calls Tryz.prog 110 #[.int .i64 7, .int .i64 n] w fun e w' => e = .returned (.bool (alw 7 n)) ∧ w = w' := by
  rw [alw_7]
  go_enter Tryz.func110, Tryz.ntmps110
  go_wp2
  all_goals (go_ret; exact ⟨ret_bool (by simp <;> omega), rfl⟩)
theorem allows_rng8 (n : Int) (w : World) : Calls Tryz.prog 110 #[.int .i64 8, .int .i64 n] w fun e w' => e = .returned (.bool (alw 8 n)) ∧ w = w' := by
  rw [alw_8]
  go_enter Tryz.func110, Tryz.ntmps110
  go_wp2
  all_goals (go_ret; exact ⟨ret_bool (by simp <;> omega), rfl⟩)
theorem allows_none (n : Int) (w : World) : Calls Tryz.prog 110 #[.int .i64 0, .int .i64 n] w fun e w' => e = .returned (.bool (alw 0 n)) ∧ w = w' := by
  rw [alw_0]
  go_enter Tryz.func110, Tryz.ntmps110
  go_wp2
  go_ret
  exact ⟨rfl, rfl⟩
theorem allows_width (n : Int) (w : World) : Calls Tryz.prog 110 #[.int .i64 4, .int .i64 n] w fun e w' => e = .returned (.bool (alw 4 n)) ∧ w = w' := by
  rw [alw_4]
  by_cases h : n = 8 ∨ n = 16 ∨ n = 32
  · go_enter Tryz.func110, Tryz.ntmps110
    go_wp2_with (go_at_call 120; refine (cut_yes n _ h).mono ?_; rintro e w1 ⟨rfl, rfl⟩)
    go_ret
    exact ⟨ret_bool (by simp [h]), rfl⟩
  · go_enter Tryz.func110, Tryz.ntmps110
    go_wp2_with (go_at_call 120; refine (cut_no n _ (by simp; omega) (by simp; omega) (by simp; omega)).mono ?_; rintro e w1 ⟨rfl, rfl⟩)
    go_ret
    exact ⟨ret_bool (by simp [h]), rfl⟩
theorem signL_some : ∀ n : Fin 20, 1 ≤ n.val → signL n.val ≠ [] := by decide +kernel
theorem nameL_some : ∀ n : Fin 4, 1 ≤ n.val → nameL n.val ≠ [] := by decide +kernel
theorem signL_iff (n : Int) : signL n ≠ [] ↔ 1 ≤ n ∧ n ≤ 19 := by
  by_cases h : n < 1 ∨ 19 < n
  · unfold signL; rw [if_pos h]; simp; omega
  · have := signL_some ⟨n.toNat, by omega⟩ (by simp; omega)
    simp only [Int.toNat_of_nonneg (show 0 ≤ n by omega)] at this
    simp only [this, ne_eq, not_false_eq_true, true_iff]; omega
theorem nameL_iff (n : Int) : nameL n ≠ [] ↔ 1 ≤ n ∧ n ≤ 3 := by
  by_cases h : n < 1 ∨ 3 < n
  · unfold nameL; rw [if_pos h]; simp; omega
  · have := nameL_some ⟨n.toNat, by omega⟩ (by simp; omega)
    simp only [Int.toNat_of_nonneg (show 0 ≤ n by omega)] at this
    simp only [this, ne_eq, not_false_eq_true, true_iff]; omega
theorem neq_nil (l : List UInt8) (p : Prop) [Decidable p] (h : l ≠ [] ↔ p) : (!(bytesOf l).toList.isEmpty) = decide p := by
  rw [bytesOf_toList, Bool.eq_iff_iff]
  simp [← h]
theorem allows_sign (n : Int) (w : World) (hS : SignsIn w) : Calls Tryz.prog 110 #[.int .i64 5, .int .i64 n] w fun e w' => e = .returned (.bool (alw 5 n)) ∧ w = w' := by
  rw [alw_5]
  go_enter Tryz.func110, Tryz.ntmps110
  go_wp2_with (go_at_call 111; refine (Sign_any hS n).mono ?_; rintro e w1 ⟨rfl, rfl⟩)
  go_ret
  exact ⟨ret_bool (neq_nil _ _ (signL_iff n)), rfl⟩
theorem allows_name (n : Int) (w : World) (hS : NamesIn w) : Calls Tryz.prog 110 #[.int .i64 6, .int .i64 n] w fun e w' => e = .returned (.bool (alw 6 n)) ∧ w = w' := by
  rw [alw_6]
  go_enter Tryz.func110, Tryz.ntmps110
  go_wp2_with (go_at_call 112; refine (Name_any hS n).mono ?_; rintro e w1 ⟨rfl, rfl⟩)
  go_ret
  exact ⟨ret_bool (neq_nil _ _ (nameL_iff n)), rfl⟩
theorem allows_any {w : World} (hS : SignsIn w) (hN : NamesIn w) (k n : Int) (hk : 0 ≤ k ∧ k ≤ 8) (hlo : -9223372036854775808 ≤ n) (hhi : n ≤ 9223372036854775807) :
    Calls Tryz.prog 110 #[.int .i64 k, .int .i64 n] w fun e w' => e = .returned (.bool (alw k n)) ∧ w = w' := by
  have hk' : k = 0 ∨ k = 1 ∨ k = 2 ∨ k = 3 ∨ k = 4 ∨ k = 5 ∨ k = 6 ∨ k = 7 ∨ k = 8 := by omega
  rcases hk' with rfl | rfl | rfl | rfl | rfl | rfl | rfl | rfl | rfl
  · exact allows_none n w
  · exact allows_rng1 n w
  · exact allows_rng2 n w
  · exact allows_rng3 n w hlo hhi
  · exact allows_width n w
  · exact allows_sign n w hS
  · exact allows_name n w hN
  · exact allows_rng7 n w
  · exact allows_rng8 n w
/-- Numbers of 64 bits. -/
structure Wf (i : In) : Prop where
  op : -9223372036854775808 ≤ i.op ∧ i.op ≤ 9223372036854775807
  a : -9223372036854775808 ≤ i.a ∧ i.a ≤ 9223372036854775807
  b : -9223372036854775808 ≤ i.b ∧ i.b ≤ 9223372036854775807
  c : -9223372036854775808 ≤ i.c ∧ i.c ≤ 9223372036854775807
theorem allows_c {w0 w : World} (hE : Env w0) (hk : Kp w0 w) (k n : Int) (b : Bool) (hkk : 0 ≤ k ∧ k ≤ 8) (hlo : -9223372036854775808 ≤ n) (hhi : n ≤ 9223372036854775807) (h : alw k n = b) :
    Calls Tryz.prog 110 #[.int .i64 k, .int .i64 n] w fun e w' => e = .returned (.bool b) ∧ w = w' := by
  have := allows_any (hE.signs.kept hk) (hE.names.kept hk) k n hkk hlo hhi
  rwa [h] at this
theorem rowOf_c {w0 w : World} (hE : Env w0) (hk : Kp w0 w) (op : Int) (nm : List UInt8) (a b c tk gv : Int) (jm sp : Bool) (h : rowAt op = ⟨nm, a, b, c, tk, gv, jm, sp⟩) :
    Calls Tryz.prog 91 #[.int .i64 op] w fun e w' => e = .returned (.agg #[.string (bytesOf nm), .int .i64 a, .int .i64 b, .int .i64 c, .int .i64 tk, .int .i64 gv, .bool jm, .bool sp]) ∧ Kp w0 w' :=
  (rowOf_any (hE.rows.kept hk) op nm a b c tk gv jm sp h).mono fun _ _ h => ⟨h.1, hk.trans h.2⟩
theorem name_fin : ∀ n : Fin 25, 1 ≤ n.val → opL n.val ≠ [] := by decide +kernel
theorem opL_iff (op : Int) : opL op ≠ [] ↔ 1 ≤ op ∧ op ≤ 24 := by
  by_cases h : op < 1 ∨ 24 < op
  · by_cases h0 : op = 0
    · subst h0; decide
    · unfold opL; rw [rowAt_out (by omega)]; simp [r0]; omega
  · have := name_fin ⟨op.toNat, by omega⟩ (by simp; omega)
    simp only [Int.toNat_of_nonneg (show 0 ≤ op by omega)] at this
    simp only [this, ne_eq, not_false_eq_true, true_iff]; omega
def chkE (i : In) : Int := if chk i = true then 0 else 2
theorem chkE_yes {i : In} (h : chk i = true) : chkE i = 0 := by unfold chkE; rw [if_pos h]
theorem chkE_no {i : In} (h : chk i = false) : chkE i = 2 := by unfold chkE; rw [if_neg (by simp [h])]
set_option maxHeartbeats 1000000 in
set_option maxRecDepth 100000 in
theorem Check_core {w0 w : World} (hE : Env w0) (hk : Kp w0 w) (op x y z : Int) (nm : List UInt8) (a b c tk gv : Int) (jm sp : Bool) (h : rowAt op = ⟨nm, a, b, c, tk, gv, jm, sp⟩) (ka : 0 ≤ a ∧ a ≤ 8) (kb : 0 ≤ b ∧ b ≤ 8) (kc : 0 ≤ c ∧ c ≤ 8)
    (hx : -9223372036854775808 ≤ x ∧ x ≤ 9223372036854775807) (hy : -9223372036854775808 ≤ y ∧ y ≤ 9223372036854775807) (hz : -9223372036854775808 ≤ z ∧ z ≤ 9223372036854775807) (bn ba bb bc : Bool)
    (hn : (bytesOf nm).toList.isEmpty = bn) (ha : alw a x = ba) (hb : alw b y = bb) (hc : alw c z = bc) :
    Calls Tryz.prog 89 #[.agg #[.int .i64 op, .int .i64 x, .int .i64 y, .int .i64 z]] w fun e w' => e = .returned (.int .i64 (if (!bn && ba && bb && bc) = true then 0 else 2)) ∧ Kp w0 w' := by
  have H := Lib.hid h
  have HA := Lib.hid ha
  have HB := Lib.hid hb
  have HC := Lib.hid hc
  clear h ha hb hc
  cases bn <;> cases ba <;> cases bb <;> cases bc
  all_goals
    go_enter Tryz.func89, Tryz.ntmps89
    go_wp2_with (first
      | (go_at_call 91; refine (rowOf_any (hE.kept (hk.alloc _ _)).rows op nm a b c tk gv jm sp H.out).mono ?_; rintro e w1 ⟨rfl, k1⟩; have hc1 := k1.cells; have hz1 : w.heap.size < w1.heap.size := by { have := k1.size; simp at this; omega }; have kk := (hk.alloc _ _).trans k1)
      | (go_at_call 110; refine (allows_c hE (kk.alloc _ _) _ _ _ (by omega) (by omega) (by omega) (by first | exact HA.out | exact HB.out | exact HC.out)).mono ?_; rintro e w2 ⟨rfl, rfl⟩))
    go_ret
    exact ⟨rfl, kk.alloc _ _⟩
theorem Check_any {w0 w : World} (hE : Env w0) (hk : Kp w0 w) (i : In) (hi : Wf i) :
    Calls Tryz.prog 89 #[.agg #[.int .i64 i.op, .int .i64 i.a, .int .i64 i.b, .int .i64 i.c]] w fun e w' => e = .returned (.int .i64 (chkE i)) ∧ Kp w0 w' := by
  have hn := opL_iff i.op
  unfold opL at hn
  have kk := kinds_in i.op
  unfold chkE chk
  generalize hr : rowAt i.op = r at *
  obtain ⟨nm, a, b, c, tk, gv, jm, sp⟩ := r
  have := Check_core hE hk i.op i.a i.b i.c nm a b c tk gv jm sp hr kk.1 kk.2.1 kk.2.2.1 hi.a hi.b hi.c _ _ _ _ rfl rfl rfl rfl
  have e : (!(bytesOf nm).toList.isEmpty) = decide (1 ≤ i.op ∧ i.op ≤ 24) := neq_nil _ _ hn
  rw [e] at this
  exact this
theorem Check_c {w0 w : World} (hE : Env w0) (hk : Kp w0 w) (op a b c e : Int) (hi : Wf ⟨op, a, b, c⟩) (he : chkE ⟨op, a, b, c⟩ = e) :
    Calls Tryz.prog 89 #[.agg #[.int .i64 op, .int .i64 a, .int .i64 b, .int .i64 c]] w fun r w' => r = .returned (.int .i64 e) ∧ Kp w0 w' := by
  have := Check_any hE hk ⟨op, a, b, c⟩ hi
  rwa [he] at this
end Co
end Go.Proofs.YtaeblnlbelebkaaGreatDoor
