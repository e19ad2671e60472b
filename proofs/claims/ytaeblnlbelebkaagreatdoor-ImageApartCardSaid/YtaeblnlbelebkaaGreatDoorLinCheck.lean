/-
  WALKS: package lines, what Check needs (walked in the round of stage 2, here with package code's word for a world that is kept). Own work.
-/
import Derived.Test.YtaeblnlbelebkaaGreatDoorCoWord
import Derived.Test.YtaeblnlbelebkaaGreatDoorLinSem
import Derived.Deep.Slices
namespace Go.Proofs.YtaeblnlbelebkaaGreatDoor
namespace Ln
open Go.RowKit Go
open Co (Kp ret_int ret_bool)
set_option linter.unusedVariables false

theorem exists_any (x : Int) (w : World) :
    Calls Tryz.prog 124 #[.int .i64 x] w fun e w' => e = .returned (.bool (exB x)) ∧ w = w' := by
  by_cases h0 : 0 ≤ x
  · by_cases h1 : x < 32
    · rw [exB_true h0 h1]
      go_enter Tryz.func124, Tryz.ntmps124
      go_wp2
      go_ret
      exact ⟨rfl, rfl⟩
    · rw [exB_no (by omega)]
      go_enter Tryz.func124, Tryz.ntmps124
      go_wp2
      go_ret
      exact ⟨rfl, rfl⟩
  · rw [exB_no (by omega)]
    go_enter Tryz.func124, Tryz.ntmps124
    go_wp2
    go_ret
    exact ⟨rfl, rfl⟩

theorem bit_any (x : Int) (w : World) (h0 : 0 ≤ x) (h1 : x < 32) :
    Calls Tryz.prog 117 #[.int .i64 x] w fun e w' => e = .returned (.int .u32 (bitV x)) ∧ w = w' := by
  have hs := Lib.hid (shl_bit2 h0 h1)
  go_enter Tryz.func117, Tryz.ntmps117
  go_wp2
  go_ret
  exact ⟨ret_int hs.out, rfl⟩

theorem has_any (s x : Int) (w : World) (hs : 0 ≤ s) (hs' : s < 4294967296) :
    Calls Tryz.prog 116 #[.int .u32 s, .int .i64 x] w fun e w' => e = .returned (.bool (hasB s x)) ∧ w = w' := by
  cases hx : exB x with
  | false =>
    rw [hasB_no hx]
    go_enter Tryz.func116, Tryz.ntmps116
    go_wp2_with (go_at_call 124; refine (exists_any x w).mono ?_; rintro e w' ⟨rfl, rfl⟩)
    go_ret
    exact ⟨rfl, rfl⟩
  | true =>
    obtain ⟨h0, h1⟩ := exB_iff.1 hx
    have hb := bitV_bd h0 h1
    have ha := and_bit hs hs' h0 h1
    rw [hasB_ex hx]
    cases ht : s.toNat.testBit x.toNat with
    | false =>
      rw [ht, if_neg (by decide)] at ha
      go_enter Tryz.func116, Tryz.ntmps116
      go_wp2_with (first | (go_at_call 124; refine (exists_any x w).mono ?_; rintro e w' ⟨rfl, rfl⟩) | (go_at_call 117; refine (bit_any x w h0 h1).mono ?_; rintro e w' ⟨rfl, rfl⟩))
      go_ret
      exact ⟨rfl, rfl⟩
    | true =>
      rw [ht, if_pos rfl] at ha
      have hne : (bitV x != 0) = true := by simp; omega
      go_enter Tryz.func116, Tryz.ntmps116
      go_wp2_with (first | (go_at_call 124; refine (exists_any x w).mono ?_; rintro e w' ⟨rfl, rfl⟩) | (go_at_call 117; refine (bit_any x w h0 h1).mono ?_; rintro e w' ⟨rfl, rfl⟩))
      go_ret
      exact ⟨rfl, rfl⟩

/-- A slice of n vectors lies there (nil, if there are none). -/
structure Vcs (w : World) (b off : Nat) (vs : Nat → Vc) (n : Nat) : Prop where
  size : b < w.heap.size
  l : ∀ i, i < n → w.cell? ⟨b, off + i * 3, none⟩ = some (.int .i64 (vs i).l)
  p : ∀ i, i < n → w.cell? ⟨b, off + i * 3 + 1, none⟩ = some (.int .i64 (vs i).p)
  f : ∀ i, i < n → w.cell? ⟨b, off + i * 3 + 2, none⟩ = some (.int .i64 (vs i).f)
def VIn (w : World) (ao : Option Addr) (vs : Nat → Vc) (n : Nat) : Prop := n = 0 ∨ ∃ b off, ao = some ⟨b, off, none⟩ ∧ Vcs w b off vs n
theorem Vcs.kp {w w' : World} {b off : Nat} {vs : Nat → Vc} {n : Nat} (h : Vcs w b off vs n) (k : Kp w w') : Vcs w' b off vs n :=
  ⟨Nat.lt_of_lt_of_le h.size k.size, fun i hi => (k.cells _ _ h.size).trans (h.l i hi), fun i hi => (k.cells _ _ h.size).trans (h.p i hi), fun i hi => (k.cells _ _ h.size).trans (h.f i hi)⟩
theorem VIn.kp {w w' : World} {ao : Option Addr} {vs : Nat → Vc} {n : Nat} (h : VIn w ao vs n) (k : Kp w w') : VIn w' ao vs n := by
  rcases h with h | ⟨b, off, h, g⟩
  · exact .inl h
  · exact .inr ⟨b, off, h, g.kp k⟩
theorem VIn.at {w : World} {ao : Option Addr} {vs : Nat → Vc} {n : Nat} (h : VIn w ao vs n) {i : Nat} (hi : i < n) : ∃ b off, ao = some ⟨b, off, none⟩ ∧ Vcs w b off vs n := by
  rcases h with h | h
  · omega
  · exact h

theorem valid_any (v : Vc) (w : World) :
    Calls Tryz.prog 115 #[.agg #[.int .i64 v.l, .int .i64 v.p, .int .i64 v.f]] w fun e w' => e = .returned (.bool (vaB v)) ∧ Kp w w' := by
  obtain ⟨l, p, f⟩ := v
  cases hv : vaB ⟨l, p, f⟩ with
  | true =>
    obtain ⟨h0, h1, h2, h3, h4⟩ := vaB_iff.1 hv
    have hx : exB l = true := exB_true h0 h1
    clear hv
    simp only at h0 h1 h2 h3 h4
    go_enter Tryz.func115, Tryz.ntmps115
    go_wp2_with (go_at_call 124; refine (exists_any l _).mono ?_; rintro e w' ⟨rfl, rfl⟩)
    go_ret
    exact ⟨rfl, (Co.Kp.refl _).alloc _ _⟩
  | false =>
    rcases vaB_no hv with hx | ⟨hx, h⟩
    · clear hv
      simp only at hx
      go_enter Tryz.func115, Tryz.ntmps115
      go_wp2_with (go_at_call 124; refine (exists_any l _).mono ?_; rintro e w' ⟨rfl, rfl⟩)
      go_ret
      exact ⟨rfl, (Co.Kp.refl _).alloc _ _⟩
    · clear hv
      simp only at hx h
      by_cases h1 : p < 1
      · go_enter Tryz.func115, Tryz.ntmps115
        go_wp2_with (go_at_call 124; refine (exists_any l _).mono ?_; rintro e w' ⟨rfl, rfl⟩)
        go_ret
        exact ⟨rfl, (Co.Kp.refl _).alloc _ _⟩
      · by_cases h2 : 15 < p
        · go_enter Tryz.func115, Tryz.ntmps115
          go_wp2_with (go_at_call 124; refine (exists_any l _).mono ?_; rintro e w' ⟨rfl, rfl⟩)
          go_ret
          exact ⟨rfl, (Co.Kp.refl _).alloc _ _⟩
        · have h3 : f < 0 := by omega
          clear h
          have h1 : 1 ≤ p := by omega
          have h2 : p ≤ 15 := by omega
          go_enter Tryz.func115, Tryz.ntmps115
          go_wp2_with (go_at_call 124; refine (exists_any l _).mono ?_; rintro e w' ⟨rfl, rfl⟩)
          go_ret
          exact ⟨ret_bool (by simp; omega), (Co.Kp.refl _).alloc _ _⟩

set_option maxHeartbeats 400000 in
theorem check_any (ao : Option Addr) (n cap : Nat) (vs : Nat → Vc) (w : World) (hv : VIn w ao vs n) (hn : n ≤ maxLen) :
    Calls Tryz.prog 103 #[.slice ao n cap] w fun e w' => e = .returned (.int .i64 (chk vs n)) ∧ Kp w w' := by
  unfold maxLen at hn
  by_cases hl : 32 < n
  · rw [chk_long hl]
    go_enter Tryz.func103, Tryz.ntmps103
    go_wp2
    go_ret
    exact ⟨rfl, Co.Kp.refl _⟩
  · have hl : n ≤ 32 := by omega
    go_enter Tryz.func103, Tryz.ntmps103
    go_wp2
    go_loopw [3, 11] (fun s i wr => ∃ (k : Nat) (S : Int), k ≤ n ∧ i = .int .i64 k ∧ s = .int .u32 S ∧ Good vs k ∧ SetOf vs k S ∧ Kp w wr) (fun _ i _ => n - (intOf i).toNat)
    case atStart => exact ⟨0, 0, Nat.zero_le _, rfl, rfl, Good.zero vs, SetOf.zero vs, Co.Kp.refl _⟩
    case round =>
      obtain ⟨k, S, hk, rfl, rfl, hg, hS, hkp⟩ := hrel
      by_cases hlt : k < n
      · obtain ⟨b, off, hao, hvc⟩ := (hv.kp hkp).at hlt
        subst hao
        have cl := hvc.l k hlt
        have cp := hvc.p k hlt
        have cf := hvc.f k hlt
        have HS := Lib.hid hS
        have HG := Lib.hid hg
        have HV := Lib.hid hvc
        clear hS hg hvc
        cases hvb : vaB (vs k) with
        | false =>
          go_wp2_with fail
          refine (valid_any (vs k) _).mono ?_
          rintro e w1 ⟨rfl, hk1⟩
          go_wp2
          go_ret
          refine ⟨ret_int ?_, (hkp.alloc _ _).trans hk1⟩
          rw [chk_bad hl (fun g => by have := (g k hlt).1; rw [hvb] at this; cases this)]
        | true =>
          obtain ⟨h0, h1, _, _, _⟩ := vaB_iff.1 hvb
          obtain ⟨s0, s1, _⟩ := HS.out
          cases hhb : hasB S (vs k).l with
          | true =>
            go_wp2_with fail
            refine (valid_any (vs k) _).mono ?_
            rintro e w1 ⟨rfl, hk1⟩
            have hc1 := hk1.cells
            go_wp2_with (go_at_call 116; refine (has_any S (vs k).l _ s0 s1).mono ?_; rintro e w' ⟨rfl, rfl⟩)
            go_ret
            refine ⟨ret_int ?_, (hkp.alloc _ _).trans hk1⟩
            obtain ⟨j, hj, e⟩ := HS.out.twice hhb
            rw [chk_bad hl (fun g => (g k hlt).2 j hj e)]
          | false =>
            have hob := or_bd s0 s1 (b := bitV (vs k).l) (by have := bitV_bd h0 h1; omega) (by have := bitV_bd h0 h1; omega)
            go_wp2_with fail
            refine (valid_any (vs k) _).mono ?_
            rintro e w1 ⟨rfl, hk1⟩
            have hc1 := hk1.cells
            go_wp2_with (first | (go_at_call 116; refine (has_any S (vs k).l _ s0 s1).mono ?_; rintro e w' ⟨rfl, rfl⟩) | (go_at_call 117; refine (bit_any (vs k).l _ h0 h1).mono ?_; rintro e w' ⟨rfl, rfl⟩))
            go_roundw
            case rel => exact ⟨k + 1, _, by omega, by go_num, rfl, HG.out.succ hvb (HS.out.fresh hhb), HS.out.succ h0 h1, (hkp.alloc _ _).trans hk1⟩
            case measure => simp [intOf]; omega
      · obtain rfl : k = n := by omega
        go_wp2
        go_ret
        refine ⟨ret_int ?_, hkp⟩
        rw [chk_ok hl hg]
end Ln
end Go.Proofs.YtaeblnlbelebkaaGreatDoor
