/-
  WALKS: package code, find: the number that has a name. Own work.
-/
import Derived.Test.YtehmpakcfahmaaaDoorCoRow
namespace Go.Proofs.YtehmpakcfahmaaaDoor
namespace Co
open Go.RowKit Go
set_option linter.unusedVariables false

theorem fndFrom_stop {f : Int → List UInt8} {t : List UInt8} {n : Int} (m : Nat) (h : f n = t) : fndFrom f t (m + 1) n = n := by unfold fndFrom; rw [if_pos h]
theorem fndFrom_next {f : Int → List UInt8} {t : List UInt8} {n : Int} (m : Nat) (h : f n ≠ t) : fndFrom f t (m + 1) n = fndFrom f t m (n + 1) := by rw [fndFrom, if_neg h]
theorem opL_some {n : Int} (h : 1 ≤ n ∧ n ≤ 24) : opL n ≠ [] := by
  have key : ∀ n : Fin 25, 1 ≤ n.val → opL n.val ≠ [] := by decide +kernel
  have := key ⟨n.toNat, by omega⟩ (by simp; omega)
  simpa only [Int.toNat_of_nonneg (show 0 ≤ n by omega)] using this
theorem signL_some' {n : Int} (h : 1 ≤ n ∧ n ≤ 19) : signL n ≠ [] := by
  have key : ∀ n : Fin 20, 1 ≤ n.val → signL n.val ≠ [] := by decide +kernel
  have := key ⟨n.toNat, by omega⟩ (by simp; omega)
  simpa only [Int.toNat_of_nonneg (show 0 ≤ n by omega)] using this
theorem nameL_some' {n : Int} (h : 1 ≤ n ∧ n ≤ 3) : nameL n ≠ [] := by
  have key : ∀ n : Fin 4, 1 ≤ n.val → nameL n.val ≠ [] := by decide +kernel
  have := key ⟨n.toNat, by omega⟩ (by simp; omega)
  simpa only [Int.toNat_of_nonneg (show 0 ≤ n by omega)] using this
theorem isEmpty_no {l : List UInt8} (h : l ≠ []) : (bytesOf l).toList.isEmpty = false := by rw [bytesOf_toList]; simp [h]
theorem isEmpty_yes {l : List UInt8} (h : l = []) : (bytesOf l).toList.isEmpty = true := by rw [bytesOf_toList]; simp [h]
theorem beq_bytes (l t : List UInt8) : ((bytesOf l).toList == (bytesOf t).toList) = decide (l = t) := by
  rw [bytesOf_toList, bytesOf_toList, Bool.eq_iff_iff]; simp

theorem Sign_r {w : World} (hE : Env w) (op : Int) :
    Calls Tryd.prog 38 #[.int .i64 op] w fun e w' => e = .returned (.string (bytesOf (signL op))) ∧ Kp w w' :=
  (Sign_any hE.signs op).mono fun _ _ ⟨h, k⟩ => ⟨h, by rw [← k]; exact Kp.refl _⟩
theorem Name_r {w : World} (hE : Env w) (op : Int) :
    Calls Tryd.prog 39 #[.int .i64 op] w fun e w' => e = .returned (.string (bytesOf (nameL op))) ∧ Kp w w' :=
  (Name_any hE.names op).mono fun _ _ ⟨h, k⟩ => ⟨h, by rw [← k]; exact Kp.refl _⟩

set_option maxHeartbeats 1000000 in
set_option maxRecDepth 100000 in
theorem find_op {w : World} (hE : Env w) (t : List UInt8) :
    Calls Tryd.prog 40 #[.string (bytesOf t), .func (.func 23) #[] #[]] w fun e w' => e = .returned (.int .i64 (fnd opL 24 t)) ∧ Kp w w' := by
  go_enter Tryd.func40, Tryd.ntmps40
  go_wp2
  go_loopw [5] (fun i wr => ∃ (n : Int) (m : Nat), i = .int .i64 n ∧ 1 ≤ n ∧ n + m = 25 ∧ fnd opL 24 t = fndFrom opL t m n ∧ Kp w wr) (fun i _ => (25 - intOf i).toNat)
  case atStart => exact ⟨1, 24, rfl, by omega, by omega, rfl, Kp.refl _⟩
  case round =>
    obtain ⟨n, m, rfl, h1, hm, hf, kr⟩ := hrel
    have HF := Lib.hid hf
    clear hf
    by_cases hlt : n ≤ 24
    · obtain ⟨m', rfl⟩ : ∃ m', m = m' + 1 := ⟨m - 1, by omega⟩
      have he := isEmpty_no (opL_some ⟨h1, hlt⟩)
      have hb := beq_bytes (opL n) t
      by_cases hc : opL n = t
      · have b : ((bytesOf (opL n)).toList == (bytesOf t).toList) = true := by rw [hb]; simp [hc]
        have HC := Lib.hid hc
        clear hb hc
        go_wp2_with (go_at_call 23; refine (nameOf_any (hE.kept (kr)).rows _).mono ?_; rintro e w1 ⟨rfl, k1⟩; have kr := kr.trans k1)
        go_ret
        exact ⟨ret_int (by rw [HF.out, fndFrom_stop _ HC.out]), kr⟩
      · have b : ((bytesOf (opL n)).toList == (bytesOf t).toList) = false := by rw [hb]; simp [hc]
        have HC := Lib.hid hc
        clear hb hc
        go_wp2_with (go_at_call 23; refine (nameOf_any (hE.kept (kr)).rows _).mono ?_; rintro e w1 ⟨rfl, k1⟩; have kr := kr.trans k1)
        go_roundw
        case rel => exact ⟨n + 1, m', by go_num, by omega, by omega, by rw [HF.out, fndFrom_next _ HC.out], kr⟩
        case measure => simp [intOf]; omega
    · obtain rfl : n = 25 := by omega
      obtain rfl : m = 0 := by omega
      have he := isEmpty_yes (show opL 25 = [] by rfl)
      go_wp2_with (go_at_call 23; refine (nameOf_any (hE.kept (kr)).rows _).mono ?_; rintro e w1 ⟨rfl, k1⟩; have kr := kr.trans k1)
      go_ret
      exact ⟨ret_int (by rw [HF.out]; rfl), kr⟩

set_option maxHeartbeats 1000000 in
set_option maxRecDepth 100000 in
theorem find_sign {w : World} (hE : Env w) (t : List UInt8) :
    Calls Tryd.prog 40 #[.string (bytesOf t), .func (.func 38) #[] #[]] w fun e w' => e = .returned (.int .i64 (fnd signL 19 t)) ∧ Kp w w' := by
  go_enter Tryd.func40, Tryd.ntmps40
  go_wp2
  go_loopw [5] (fun i wr => ∃ (n : Int) (m : Nat), i = .int .i64 n ∧ 1 ≤ n ∧ n + m = 20 ∧ fnd signL 19 t = fndFrom signL t m n ∧ Kp w wr) (fun i _ => (20 - intOf i).toNat)
  case atStart => exact ⟨1, 19, rfl, by omega, by omega, rfl, Kp.refl _⟩
  case round =>
    obtain ⟨n, m, rfl, h1, hm, hf, kr⟩ := hrel
    have HF := Lib.hid hf
    clear hf
    by_cases hlt : n ≤ 19
    · obtain ⟨m', rfl⟩ : ∃ m', m = m' + 1 := ⟨m - 1, by omega⟩
      have he := isEmpty_no (signL_some' ⟨h1, hlt⟩)
      have hb := beq_bytes (signL n) t
      by_cases hc : signL n = t
      · have b : ((bytesOf (signL n)).toList == (bytesOf t).toList) = true := by rw [hb]; simp [hc]
        have HC := Lib.hid hc
        clear hb hc
        go_wp2_with (go_at_call 38; refine (Sign_r (hE.kept (kr)) _).mono ?_; rintro e w1 ⟨rfl, k1⟩; have kr := kr.trans k1)
        go_ret
        exact ⟨ret_int (by rw [HF.out, fndFrom_stop _ HC.out]), kr⟩
      · have b : ((bytesOf (signL n)).toList == (bytesOf t).toList) = false := by rw [hb]; simp [hc]
        have HC := Lib.hid hc
        clear hb hc
        go_wp2_with (go_at_call 38; refine (Sign_r (hE.kept (kr)) _).mono ?_; rintro e w1 ⟨rfl, k1⟩; have kr := kr.trans k1)
        go_roundw
        case rel => exact ⟨n + 1, m', by go_num, by omega, by omega, by rw [HF.out, fndFrom_next _ HC.out], kr⟩
        case measure => simp [intOf]; omega
    · obtain rfl : n = 20 := by omega
      obtain rfl : m = 0 := by omega
      have he := isEmpty_yes (show signL 20 = [] by rfl)
      go_wp2_with (go_at_call 38; refine (Sign_r (hE.kept (kr)) _).mono ?_; rintro e w1 ⟨rfl, k1⟩; have kr := kr.trans k1)
      go_ret
      exact ⟨ret_int (by rw [HF.out]; rfl), kr⟩

set_option maxHeartbeats 1000000 in
set_option maxRecDepth 100000 in
theorem find_name {w : World} (hE : Env w) (t : List UInt8) :
    Calls Tryd.prog 40 #[.string (bytesOf t), .func (.func 39) #[] #[]] w fun e w' => e = .returned (.int .i64 (fnd nameL 3 t)) ∧ Kp w w' := by
  go_enter Tryd.func40, Tryd.ntmps40
  go_wp2
  go_loopw [5] (fun i wr => ∃ (n : Int) (m : Nat), i = .int .i64 n ∧ 1 ≤ n ∧ n + m = 4 ∧ fnd nameL 3 t = fndFrom nameL t m n ∧ Kp w wr) (fun i _ => (4 - intOf i).toNat)
  case atStart => exact ⟨1, 3, rfl, by omega, by omega, rfl, Kp.refl _⟩
  case round =>
    obtain ⟨n, m, rfl, h1, hm, hf, kr⟩ := hrel
    have HF := Lib.hid hf
    clear hf
    by_cases hlt : n ≤ 3
    · obtain ⟨m', rfl⟩ : ∃ m', m = m' + 1 := ⟨m - 1, by omega⟩
      have he := isEmpty_no (nameL_some' ⟨h1, hlt⟩)
      have hb := beq_bytes (nameL n) t
      by_cases hc : nameL n = t
      · have b : ((bytesOf (nameL n)).toList == (bytesOf t).toList) = true := by rw [hb]; simp [hc]
        have HC := Lib.hid hc
        clear hb hc
        go_wp2_with (go_at_call 39; refine (Name_r (hE.kept (kr)) _).mono ?_; rintro e w1 ⟨rfl, k1⟩; have kr := kr.trans k1)
        go_ret
        exact ⟨ret_int (by rw [HF.out, fndFrom_stop _ HC.out]), kr⟩
      · have b : ((bytesOf (nameL n)).toList == (bytesOf t).toList) = false := by rw [hb]; simp [hc]
        have HC := Lib.hid hc
        clear hb hc
        go_wp2_with (go_at_call 39; refine (Name_r (hE.kept (kr)) _).mono ?_; rintro e w1 ⟨rfl, k1⟩; have kr := kr.trans k1)
        go_roundw
        case rel => exact ⟨n + 1, m', by go_num, by omega, by omega, by rw [HF.out, fndFrom_next _ HC.out], kr⟩
        case measure => simp [intOf]; omega
    · obtain rfl : n = 4 := by omega
      obtain rfl : m = 0 := by omega
      have he := isEmpty_yes (show nameL 4 = [] by rfl)
      go_wp2_with (go_at_call 39; refine (Name_r (hE.kept (kr)) _).mono ?_; rintro e w1 ⟨rfl, k1⟩; have kr := kr.trans k1)
      go_ret
      exact ⟨ret_int (by rw [HF.out]; rfl), kr⟩
end Co
end Go.Proofs.YtehmpakcfahmaaaDoor
