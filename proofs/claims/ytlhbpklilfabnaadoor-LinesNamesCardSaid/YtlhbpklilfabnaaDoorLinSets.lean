/-
  WALK: the statement LinesSets. Own work.
-/
import Derived.Test.YtlhbpklilfabnaaDoorLinList
import Derived.Test.YtlhbpklilfabnaaDoorLinCount
namespace Go.Proofs.YtlhbpklilfabnaaDoor
namespace Ln
open Go.RowKit Go
set_option linter.unusedVariables false

/-- What a law's walk ends in. -/
def Yes (w0 : World) (e : Ending) (w' : World) : Prop := e = .returned (.bool true) ∧ Kp w0 w'
theorem hasq (s x : Int) (b : Bool) (w : World) (n : Nat) (hs : 0 ≤ s) (hs' : s < 4294967296) (h : hasB s x = b) :
    Calls Tryd.prog 13 #[.int .u32 s, .int .i64 x] (w.drewN n) fun e w'' => e = .returned (.bool b) ∧ ∃ m, w'' = w.drewN m :=
  Calls.quiet_of_same ((has_any s x _ hs hs').mono fun _ _ ⟨he, hw⟩ => ⟨by rw [he, h], hw.symm⟩)
theorem hasc (s x : Int) (b : Bool) (w : World) (hs : 0 ≤ s) (hs' : s < 4294967296) (h : hasB s x = b) :
    Calls Tryd.prog 13 #[.int .u32 s, .int .i64 x] w fun e w' => e = .returned (.bool b) ∧ w = w' :=
  (has_any s x _ hs hs').mono fun _ _ ⟨he, hw⟩ => ⟨by rw [he, h], hw⟩
/-- Not all of the first k lines exist. -/
def badB (xs : Nat → Int) (k : Nat) : Bool := decide (¬ AllEx xs k)
theorem badB_no {xs : Nat → Int} {k : Nat} (h : AllEx xs k) : badB xs k = false := by unfold badB; simpa using h
theorem badB_yes {xs : Nat → Int} {k : Nat} (h : ¬ AllEx xs k) : badB xs k = true := by unfold badB; simpa using h
theorem badB_all {xs : Nat → Int} {k : Nat} (h : badB xs k = false) : AllEx xs k := by unfold badB at h; simpa using h
theorem badB_some {xs : Nat → Int} {k : Nat} (h : badB xs k = true) : ¬ AllEx xs k := by unfold badB at h; simpa using h

set_option maxRecDepth 100000 in
set_option maxHeartbeats 2000000 in
theorem sets_walk (s : Int) (ao : Option Addr) (n cap : Nat) (xs : Nat → Int) (w : World) (hT : TabIn w) (hv : IIn w ao xs n) (hn : n ≤ maxLen) (h0 : 0 ≤ s) (h1 : s < 4294967296) :
    Calls Tryd.prog 6 #[.int .u32 s, .slice ao n cap] w (Yes w) := by
  have HT := Lib.hid hT
  have HV := Lib.hid hv
  have HN := Lib.hid hn
  have hn2 : n ≤ 9223372036854775807 := by unfold maxLen at hn; omega
  clear hT hv hn
  obtain ⟨m, hm⟩ : ∃ m, (linesOf s).length = m := ⟨_, rfl⟩
  have hm32 : m ≤ 32 := by rw [← hm]; exact linesOf_le s
  have HM := Lib.hid hm
  clear hm
  by_cases h40 : 40 < n
  · go_enter Tryd.func6, Tryd.ntmps6
    go_wp2_with fail
    refine (lives_yes (Kp.refl w) HT.out).mono ?_
    rintro e w1 ⟨rfl, k1⟩
    go_wp2
    go_ret
    exact ⟨rfl, k1⟩
  · have h40 : n ≤ 40 := by omega
    go_enter Tryd.func6, Tryd.ntmps6
    go_wp2_with fail
    refine (lives_yes (Kp.refl w) HT.out).mono ?_
    rintro e w1 ⟨rfl, k1⟩
    go_wp2_with fail
    refine (list_any s _ h0 h1 (HT.out.kp k1)).mono ?_
    rintro e w2 ⟨bo, c2, rfl, hl, k2⟩
    rw [HM.out] at hl ⊢
    have HL := Lib.hid hl
    have K2 := Lib.hid (k1.trans k2)
    clear hl k1 k2
    have hof : Calls Tryd.prog 8 #[.slice bo m c2] w2 fun e w' => e = .returned (.tuple #[.int .u32 s, .int .i64 0]) ∧ w2 = w' := by
      have := of_any bo m c2 (lnF s) w2 HL.out (by unfold maxLen; omega)
      have hx := lnF_ex s
      have hy := setI_lines h0 h1
      rw [HM.out] at hx hy
      rwa [ofV_yes hx, ofE_yes hx, hy] at this
    have hct : Calls Tryd.prog 12 #[.int .u32 s] w2 fun e w' => e = .returned (.int .i64 (m : Int)) ∧ Kp w2 w' := by
      have := count_any s w2 h0 h1
      unfold ones at this
      rwa [HM.out] at this
    have HO := Lib.hid hof
    have HC := Lib.hid hct
    clear hof hct
    go_wp2_with (first | (go_at_call 8; refine HO.out.mono ?_; rintro e w' ⟨rfl, rfl⟩) | (go_at_call 12; refine HC.out.mono ?_; rintro e w3 ⟨rfl, k3⟩))
    have K3 := Lib.hid k3
    clear k3
    go_loopw [8] (fun i wr => ∃ (k : Nat), k ≤ m ∧ i = .int .i64 k ∧ Kp w3 wr) (fun i _ => m - (intOf i).toNat)
    case atStart => exact ⟨0, Nat.zero_le _, rfl, Kp.refl _⟩
    case round =>
      obtain ⟨k, hk, rfl, hkp⟩ := hrel
      have HK := Lib.hid hkp
      clear hkp
      by_cases hlt : k < m
      · obtain ⟨b, off, hbo, hvc⟩ := (HL.out.kp (K3.out.trans HK.out)).at hlt
        subst hbo
        have cl := hvc.c k hlt
        have hhas : hasB s (lnF s k) = true := lnF_has (by rw [HM.out]; exact hlt)
        have HH := Lib.hid hhas
        clear hhas
        rcases k with _ | k
        · have cl : wr.cell? ⟨b, off, none⟩ = some (.int .i64 (lnF s 0)) := hvc.c 0 hlt
          clear hvc
          have hk1 : (0 : Int) < (m : Int) := by omega
          go_wp2
          go_quiet ((go_at_call 13; exact hasq _ _ _ _ _ h0 h1 HH.out))
          go_wp2
          go_roundw
          case rel => exact ⟨0 + 1, by omega, by go_num, HK.out.drewN _⟩
          case measure => simp [intOf]; omega
        · have cl2 := hvc.c k (by omega)
          have hlt2 : lnF s k < lnF s (k + 1) := lnF_lt (by rw [HM.out]; exact hlt)
          clear hvc
          have hk0 : (0 : Int) ≤ (k : Int) := Int.natCast_nonneg _
          have hk1 : (k : Int) + 1 < (m : Int) := by omega
          have hk2 : (k : Int) < (m : Int) := by omega
          go_wp2
          go_quiet ((go_at_call 13; exact hasq _ _ _ _ _ h0 h1 HH.out))
          go_wp2
          go_roundw
          case rel => exact ⟨k + 1 + 1, by omega, by go_num, HK.out.drewN _⟩
          case measure => simp [intOf]; omega
      · obtain rfl : k = m := by omega
        have HV2 := Lib.hid (HV.out.kp (K2.out.trans (K3.out.trans HK.out)))
        have hvb := ofV_bd xs n
        obtain ⟨hv0, hv1⟩ := hvb
        by_cases hall : AllEx xs n
        · have HX := Lib.hid hall
          have hof2 : Calls Tryd.prog 8 #[.slice ao n cap] wr fun e w' => e = .returned (.tuple #[.int .u32 (ofV xs n), .int .i64 0]) ∧ wr = w' := by
            have := of_any ao n cap xs wr HV2.out HN.out
            rwa [ofE_yes hall] at this
          have hle : ones (ofV xs n) ≤ n := by rw [ofV_yes hall]; exact ones_setI hall
          have HO2 := Lib.hid hof2
          clear hof2 hall
          go_wp2_with (go_at_call 8; refine HO2.out.mono ?_; rintro e w' ⟨rfl, rfl⟩)
          go_loop [10, 11] (fun b i => ∃ (k : Nat), k ≤ n ∧ i = .int .i64 k ∧ b = .bool false) (fun _ i => n - (intOf i).toNat)
          case atStart => exact ⟨0, Nat.zero_le _, rfl, rfl⟩
          case round =>
            obtain ⟨k, hk, rfl, rfl⟩ := hrel
            by_cases hlt : k < n
            · obtain ⟨b, off, hao, hvc⟩ := HV2.out.at hlt
              subst hao
              have cl := hvc.c k hlt
              clear hvc
              obtain ⟨hx0, hx1⟩ := HX.out k hlt
              have hx2 : xs k ≤ 31 := by omega
              have HH := Lib.hid (show hasB (ofV xs n) (xs k) = true from by rw [ofV_yes HX.out]; exact (setI_has HX.out _).2 ⟨k, hlt, rfl⟩)
              go_wp2_with (go_at_call 13; refine (hasc _ _ _ _ hv0 hv1 HH.out).mono ?_; rintro e w' ⟨rfl, rfl⟩)
              go_round
              case rel => exact ⟨k + 1, by omega, by go_num, congrArg Value.bool (by simp; omega)⟩
              case measure => simp [intOf]; omega
            · obtain rfl : k = n := by omega
              go_wp2_with (go_at_call 12; refine (count_any _ _ hv0 hv1).mono ?_; rintro e w4 ⟨rfl, k4⟩)
              go_ret
              exact ⟨rfl, (K2.out.trans (K3.out.trans HK.out)).trans k4⟩
        · have HX := Lib.hid hall
          have hof2 : Calls Tryd.prog 8 #[.slice ao n cap] wr fun e w' => e = .returned (.tuple #[.int .u32 0, .int .i64 2]) ∧ wr = w' := by
            have := of_any ao n cap xs wr HV2.out HN.out
            rwa [ofE_no hall, ofV_no hall] at this
          have hle : ones 0 = 0 := by unfold ones; rw [linesOf_zero]; rfl
          have HO2 := Lib.hid hof2
          clear hof2 hall
          go_wp2_with (go_at_call 8; refine HO2.out.mono ?_; rintro e w' ⟨rfl, rfl⟩)
          go_loop [10, 11] (fun b i => ∃ (k : Nat), k ≤ n ∧ i = .int .i64 k ∧ b = .bool (badB xs k)) (fun _ i => n - (intOf i).toNat)
          case atStart => exact ⟨0, Nat.zero_le _, rfl, by rw [badB_no (AllEx.zero xs)]⟩
          case round =>
            obtain ⟨k, hk, rfl, rfl⟩ := hrel
            by_cases hlt : k < n
            · obtain ⟨b, off, hao, hvc⟩ := HV2.out.at hlt
              subst hao
              have cl := hvc.c k hlt
              clear hvc
              cases hbk : badB xs k with
              | true =>
                have HB := Lib.hid (badB_yes (xs := xs) (k := k + 1) (fun g => badB_some hbk (g.le (Nat.le_succ k))))
                go_wp2
                go_round
                case rel => exact ⟨k + 1, by omega, by go_num, by rw [HB.out]⟩
                case measure => simp [intOf]; omega
              | false =>
                have hak := badB_all hbk
                have HAK := Lib.hid hak
                clear hak
                by_cases hx0 : xs k < 0
                · have HB := Lib.hid (badB_yes (xs := xs) (k := k + 1) (fun g => by have := (g k (by omega)).1; omega))
                  go_wp2
                  go_round
                  case rel => exact ⟨k + 1, by omega, by go_num, by rw [HB.out]⟩
                  case measure => simp [intOf]; omega
                · by_cases hx1 : 31 < xs k
                  · have HB := Lib.hid (badB_yes (xs := xs) (k := k + 1) (fun g => by have := (g k (by omega)).2; omega))
                    have hx0 : 0 ≤ xs k := by omega
                    go_wp2
                    go_round
                    case rel => exact ⟨k + 1, by omega, by go_num, by rw [HB.out]⟩
                    case measure => simp [intOf]; omega
                  · have HB := Lib.hid (badB_no (HAK.out.succ (show 0 ≤ xs k by omega) (by omega)))
                    have hx0 : 0 ≤ xs k := by omega
                    have hx1 : xs k ≤ 31 := by omega
                    go_wp2
                    go_round
                    case rel => exact ⟨k + 1, by omega, by go_num, by rw [HB.out]⟩
                    case measure => simp [intOf]; omega
            · obtain rfl : k = n := by omega
              have hbk := badB_yes HX.out
              go_wp2_with (go_at_call 12; refine (count_any 0 _ (by decide) (by decide)).mono ?_; rintro e w4 ⟨rfl, k4⟩)
              go_ret
              exact ⟨rfl, (K2.out.trans (K3.out.trans HK.out)).trans k4⟩
end Ln
end Go.Proofs.YtlhbpklilfabnaaDoor
