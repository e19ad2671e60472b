/-
  WALKS: rows of lines: Of, List of package lines; Ints of the kit. Own work.
-/
import Derived.Test.YtlhbpklilfabnaaDoorLinTake
namespace Go.Proofs.YtlhbpklilfabnaaDoor
namespace Ln
open Go.RowKit Go
set_option linter.unusedVariables false

/-- A row of n ints lies there. -/
structure Ics (w : World) (b off : Nat) (xs : Nat → Int) (n : Nat) : Prop where
  size : b < w.heap.size
  c : ∀ i, i < n → w.cell? ⟨b, off + i, none⟩ = some (.int .i64 (xs i))
def IIn (w : World) (ao : Option Addr) (xs : Nat → Int) (n : Nat) : Prop := n = 0 ∨ ∃ b off, ao = some ⟨b, off, none⟩ ∧ Ics w b off xs n
theorem Ics.kp {w w' : World} {b off : Nat} {xs : Nat → Int} {n : Nat} (h : Ics w b off xs n) (k : Kp w w') : Ics w' b off xs n :=
  ⟨Nat.lt_of_lt_of_le h.size k.size, fun i hi => (k.cells _ _ h.size).trans (h.c i hi)⟩
theorem IIn.kp {w w' : World} {ao : Option Addr} {xs : Nat → Int} {n : Nat} (h : IIn w ao xs n) (k : Kp w w') : IIn w' ao xs n := by
  rcases h with h | ⟨b, off, h, g⟩
  · exact .inl h
  · exact .inr ⟨b, off, h, g.kp k⟩
theorem IIn.at {w : World} {ao : Option Addr} {xs : Nat → Int} {n : Nat} (h : IIn w ao xs n) {i : Nat} (hi : i < n) : ∃ b off, ao = some ⟨b, off, none⟩ ∧ Ics w b off xs n := by
  rcases h with h | h
  · omega
  · exact h

set_option maxHeartbeats 400000 in
theorem of_any (ao : Option Addr) (n cap : Nat) (xs : Nat → Int) (w : World) (hv : IIn w ao xs n) (hn : n ≤ maxLen) :
    Calls Tryd.prog 8 #[.slice ao n cap] w fun e w' => e = .returned (.tuple #[.int .u32 (ofV xs n), .int .i64 (ofE xs n)]) ∧ w = w' := by
  unfold maxLen at hn
  go_enter Tryd.func8, Tryd.ntmps8
  go_wp2
  go_loop [4, 9] (fun s i => ∃ (k : Nat), k ≤ n ∧ i = .int .i64 k ∧ s = .int .u32 (setI xs k) ∧ AllEx xs k) (fun _ i => n - (intOf i).toNat)
  case atStart => exact ⟨0, Nat.zero_le _, rfl, rfl, AllEx.zero xs⟩
  case round =>
    obtain ⟨k, hk, rfl, rfl, ha⟩ := hrel
    have HA := Lib.hid ha
    have hsb := setI_bd ha
    obtain ⟨hs0, hs1⟩ := hsb
    clear ha
    by_cases hlt : k < n
    · obtain ⟨b, off, hao, hvc⟩ := hv.at hlt
      subst hao
      have cl := hvc.c k hlt
      clear hvc
      cases hx : exB (xs k) with
      | false =>
        have HN := Lib.hid (show ¬ AllEx xs n from fun g => by have := g k hlt; have := exB_false hx; omega)
        go_wp2_with (go_at_call 24; refine (exists_any (xs k) w).mono ?_; rintro e w' ⟨rfl, rfl⟩)
        go_ret2
        exact ⟨ret2_int (ofV_no HN.out).symm (ofE_no HN.out).symm, rfl⟩
      | true =>
        obtain ⟨h0, h1⟩ := exB_iff.1 hx
        have hbb := bitV_bd h0 h1
        obtain ⟨hb0, hb1⟩ := hbb
        have hor := or_bd hs0 hs1 (show 0 ≤ bitV (xs k) by omega) hb1
        obtain ⟨ho0, ho1⟩ := hor
        go_wp2_with (first | (go_at_call 24; refine (exists_any (xs k) w).mono ?_; rintro e w' ⟨rfl, rfl⟩) | (go_at_call 25; refine (bit_any (xs k) w h0 h1).mono ?_; rintro e w' ⟨rfl, rfl⟩))
        go_round
        case rel => exact ⟨k + 1, by omega, by go_num, rfl, HA.out.succ h0 h1⟩
        case measure => simp [intOf]; omega
    · obtain rfl : k = n := by omega
      go_wp2
      go_ret2
      exact ⟨ret2_int (ofV_yes HA.out).symm (ofE_yes HA.out).symm, rfl⟩

set_option maxHeartbeats 400000 in
theorem ints_any (ao bo : Option Addr) (n m cap cap2 : Nat) (xs ys : Nat → Int) (w : World) (hv : IIn w ao xs n) (hv2 : IIn w bo ys m) (hn : n ≤ maxLen) (hm : m ≤ maxLen) :
    Calls Tryd.prog 20 #[.slice ao n cap, .slice bo m cap2] w fun e w' => e = .returned (.bool (eqI xs n ys m)) ∧ Kp w w' := by
  unfold maxLen at hn hm
  by_cases hnm : n = m
  · subst hnm
    go_enter Tryd.func20, Tryd.ntmps20
    go_wp2
    go_loopw [5] (fun i wr => ∃ (k : Nat), k ≤ n ∧ i = .int .i64 k ∧ Kp w wr ∧ ∀ j, j < k → xs j = ys j) (fun i _ => n - (intOf i).toNat)
    case atStart => exact ⟨0, Nat.zero_le _, rfl, Kp.refl _, fun j h => absurd h (Nat.not_lt_zero j)⟩
    case round =>
      obtain ⟨k, hk, rfl, hkp, ha⟩ := hrel
      have HA := Lib.hid ha
      clear ha
      by_cases hlt : k < n
      · obtain ⟨b, off, hao, hvc⟩ := (hv.kp hkp).at hlt
        subst hao
        obtain ⟨b2, off2, hbo, hvc2⟩ := (hv2.kp hkp).at hlt
        subst hbo
        have cl := hvc.c k hlt
        have cl2 := hvc2.c k hlt
        clear hvc hvc2
        have hk0 : (0 : Int) ≤ (k : Int) := Int.natCast_nonneg _
        have hk1 : (k : Int) < (n : Int) := by omega
        by_cases hx : xs k = ys k
        · have HX := Lib.hid hx
          have hx : (xs k != ys k) = false := by simpa using hx
          go_wp2
          go_quiet (fail)
          go_wp2
          go_roundw
          case rel => exact ⟨k + 1, by omega, by go_num, hkp.drewN _, fun j hj => by
            rcases Nat.lt_succ_iff_lt_or_eq.1 hj with h2 | h2
            · exact HA.out j h2
            · subst h2; exact HX.out⟩
          case measure => simp [intOf]; omega
        · have HX := Lib.hid hx
          have hx : (xs k != ys k) = true := by simpa using hx
          go_wp2
          go_quiet (fail)
          go_wp2
          go_ret
          exact ⟨ret_bool (eqI_no hlt HX.out).symm, hkp.drewN _⟩
      · obtain rfl : k = n := by omega
        go_wp2
        go_ret
        exact ⟨ret_bool (eqI_yes HA.out).symm, hkp⟩
  · rw [eqI_len hnm]
    have hne : ((n : Int) != (m : Int)) = true := by simpa using (by omega : ¬ (n : Int) = m)
    go_enter Tryd.func20, Tryd.ntmps20
    go_wp2
    go_ret
    exact ⟨rfl, Kp.refl _⟩
end Ln
end Go.Proofs.YtlhbpklilfabnaaDoor
