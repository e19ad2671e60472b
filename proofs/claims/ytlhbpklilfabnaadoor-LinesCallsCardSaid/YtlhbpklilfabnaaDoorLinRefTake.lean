/-
  WALK: the document's own answer of layer 2: Take. Own work.
-/
import Derived.Test.YtlhbpklilfabnaaDoorLinRef
import Derived.Test.YtlhbpklilfabnaaDoorLinRefCheck
namespace Go.Proofs.YtlhbpklilfabnaaDoor
namespace Ln
open Go.RowKit Go
set_option linter.unusedVariables false

/-- The best so far as the loop keeps it. -/
def bi : Option Nat → Int
  | none => -1
  | some c => c
theorem bi_bd {o : Option Nat} {n : Nat} (h : ∀ b, o = some b → b < n) : -1 ≤ bi o ∧ bi o < n ∨ o = none := by
  cases o with
  | none => exact .inr rfl
  | some b => exact .inl ⟨by show -1 ≤ (b : Int); omega, by have := h b rfl; show (b : Int) < n; omega⟩
theorem rdy_not4 {p e lv ac : Int} {v : Vc} (h : rdy p e lv ac v = false) : hasB p v.l = false ∨ (hasB p v.l = true ∧ hasB e v.l = false) ∨ (hasB p v.l = true ∧ hasB e v.l = true ∧ v.p ≤ lv) ∨ (hasB p v.l = true ∧ hasB e v.l = true ∧ lv < v.p ∧ v.p ≤ ac) := by
  cases h1 : hasB p v.l with
  | false => exact .inl rfl
  | true =>
    cases h2 : hasB e v.l with
    | false => exact .inr (.inl ⟨rfl, rfl⟩)
    | true =>
      by_cases h3 : lv < v.p
      · by_cases h4 : ac < v.p
        · rw [rdy_iff.2 ⟨h1, h2, h3, h4⟩] at h; cases h
        · exact .inr (.inr (.inr ⟨rfl, rfl, h3, by omega⟩))
      · exact .inr (.inr (.inl ⟨rfl, rfl, by omega⟩))

set_option maxRecDepth 100000 in
set_option maxHeartbeats 2000000 in
theorem rtake_yes (p e lv ac : Int) (ao : Option Addr) (n cap : Nat) (vs : Nat → Vc) (w : World) (hv : VIn w ao vs n) (hn : n ≤ maxLen) (hp : 0 ≤ p) (hp' : p < 4294967296) (he : 0 ≤ e) (he' : e < 4294967296) (hc : chk vs n = 0) :
    Calls Tryd.prog 16 #[.int .u32 p, .int .u32 e, .int .i64 lv, .int .i64 ac, .slice ao n cap] w
      fun e' w' => e' = .returned (.tuple #[.int .i64 (oi (best (rdy p e lv ac) vs n)), .bool (ob (best (rdy p e lv ac) vs n))]) ∧ Kp w w' := by
  obtain ⟨h32, hg⟩ := chk_zero.1 hc
  have HC := Lib.hid (fun (w' : World) (hk : Kp w w') => (rcheck_any ao n cap vs w' (hv.kp hk) hn).mono (R' := fun e1 w'' => e1 = .returned (.int .i64 0) ∧ Kp w w'') fun _ _ ⟨h, k⟩ => ⟨by rw [h, hc], hk.trans k⟩)
  have HV := Lib.hid hv
  clear hv hc hg hn
  go_enter Tryd.func16, Tryd.ntmps16
  go_wp2
  go_loopw [12, 13] (fun b i wr => ∃ (k : Nat) (o : Option Nat), k ≤ n ∧ i = .int .i64 k ∧ b = .int .i64 (bi o) ∧ best (rdy p e lv ac) vs k = o ∧ Kp w wr) (fun _ i _ => n - (intOf i).toNat)
  case atStart => exact ⟨0, none, Nat.zero_le _, rfl, rfl, rfl, Kp.refl _⟩
  case round =>
    obtain ⟨k, o, hk, rfl, rfl, ho, hkp⟩ := hrel
    have HO := Lib.hid ho
    have HK := Lib.hid hkp
    clear ho hkp
    by_cases hlt : k < n
    · have HC1 := Lib.hid (HC.out _ HK.out)
      cases hr : rdy p e lv ac (vs k) with
      | false =>
        have HN := Lib.hid hr
        rcases rdy_not4 hr with h1 | ⟨h1, h2⟩ | ⟨h1, h2, h3⟩ | ⟨h1, h2, h3, h4⟩
        all_goals
          clear hr
          go_wp2_with fail
          refine HC1.out.mono ?_
          rintro e1 w1 ⟨rfl, k1⟩
          obtain ⟨b, off, hao, hvc⟩ := (HV.out.kp k1).at hlt
          subst hao
          have cl := hvc.l k hlt
          have cp := hvc.p k hlt
          have cf := hvc.f k hlt
          clear hvc
          go_wp2_with (go_at_call 23; refine (rhas_any _ _ _ (by omega) (by omega)).mono ?_; rintro e w' ⟨rfl, rfl⟩)
          go_roundw
          case rel => exact ⟨k + 1, o, by omega, by go_num, rfl, by rw [best_no HN.out]; exact HO.out, k1.alloc _ _⟩
          case measure => simp [intOf]; omega
      | true =>
        obtain ⟨h1, h2, h3, h4⟩ := rdy_iff.1 hr
        have HY := Lib.hid hr
        clear hr
        cases o with
        | none =>
          have hbi : bi none = -1 := rfl
          rw [hbi]
          clear hbi
          go_wp2_with fail
          refine HC1.out.mono ?_
          rintro e1 w1 ⟨rfl, k1⟩
          obtain ⟨b, off, hao, hvc⟩ := (HV.out.kp k1).at hlt
          subst hao
          have cl := hvc.l k hlt
          have cp := hvc.p k hlt
          have cf := hvc.f k hlt
          clear hvc
          go_wp2_with (go_at_call 23; refine (rhas_any _ _ _ (by omega) (by omega)).mono ?_; rintro e w' ⟨rfl, rfl⟩)
          go_quiet (fail)
          go_wp2
          go_roundw
          case rel => exact ⟨k + 1, some k, by omega, by go_num, rfl, best_first HY.out HO.out, (k1.alloc _ _).drewN _⟩
          case measure => simp [intOf]; omega
        | some c =>
          have hcn : c < n := by have := (best_spec HO.out).1; omega
          have ic0 : (0 : Int) ≤ (c : Int) := Int.natCast_nonneg _
          have ic1 : (c : Int) < (n : Int) := by omega
          have ic2 : decide ((c : Int) < 0) = false := by simp
          have hbi : bi (some c) = (c : Int) := rfl
          rw [hbi]
          clear hbi
          cases hbe : beB (vs k) (vs c) with
          | true =>
            have HB := Lib.hid hbe
            rcases beB_iff.1 hbe with hb1 | ⟨hb1, hb2⟩
            · have hb3 : decide ((vs c).p < (vs k).p) = true := by simpa using hb1
              clear hbe
              go_wp2_with fail
              refine HC1.out.mono ?_
              rintro e1 w1 ⟨rfl, k1⟩
              obtain ⟨b, off, hao, hvc⟩ := (HV.out.kp k1).at hlt
              subst hao
              have cl := hvc.l k hlt
              have cp := hvc.p k hlt
              have cf := hvc.f k hlt
              have dl := hvc.l c hcn
              have dp := hvc.p c hcn
              have hbs := hvc.size
              clear hvc
              go_wp2_with (go_at_call 23; refine (rhas_any _ _ _ (by omega) (by omega)).mono ?_; rintro e w' ⟨rfl, rfl⟩)
              go_quiet (fail)
              go_wp2
              go_roundw
              case rel => exact ⟨k + 1, some k, by omega, by go_num, rfl, best_new HY.out HO.out HB.out, (k1.alloc _ _).drewN _⟩
              case measure => simp [intOf]; omega
            · have hb3 : decide ((vs c).p < (vs k).p) = false := by simp; omega
              have hb4 : ((vs c).p == (vs k).p) = true := by simp; omega
              have hb5 : (vs k).p ≤ (vs c).p := by omega
              clear hbe hb1
              go_wp2_with fail
              refine HC1.out.mono ?_
              rintro e1 w1 ⟨rfl, k1⟩
              obtain ⟨b, off, hao, hvc⟩ := (HV.out.kp k1).at hlt
              subst hao
              have cl := hvc.l k hlt
              have cp := hvc.p k hlt
              have cf := hvc.f k hlt
              have dl := hvc.l c hcn
              have dp := hvc.p c hcn
              have hbs := hvc.size
              clear hvc
              go_wp2_with (go_at_call 23; refine (rhas_any _ _ _ (by omega) (by omega)).mono ?_; rintro e w' ⟨rfl, rfl⟩)
              go_quiet (fail)
              go_wp2
              go_roundw
              case rel => exact ⟨k + 1, some k, by omega, by go_num, rfl, best_new HY.out HO.out HB.out, (k1.alloc _ _).drewN _⟩
              case measure => simp [intOf]; omega
          | false =>
            have HB := Lib.hid hbe
            rcases beB_no.1 hbe with hb1 | ⟨hb1, hb2⟩
            · have hb3 : decide ((vs c).p < (vs k).p) = false := by simp; omega
              have hb4 : ((vs c).p == (vs k).p) = false := by simp; omega
              have hb5 : (vs k).p ≤ (vs c).p := by omega
              clear hbe
              go_wp2_with fail
              refine HC1.out.mono ?_
              rintro e1 w1 ⟨rfl, k1⟩
              obtain ⟨b, off, hao, hvc⟩ := (HV.out.kp k1).at hlt
              subst hao
              have cl := hvc.l k hlt
              have cp := hvc.p k hlt
              have cf := hvc.f k hlt
              have dl := hvc.l c hcn
              have dp := hvc.p c hcn
              have hbs := hvc.size
              clear hvc
              go_wp2_with (go_at_call 23; refine (rhas_any _ _ _ (by omega) (by omega)).mono ?_; rintro e w' ⟨rfl, rfl⟩)
              go_quiet (fail)
              go_wp2
              go_roundw
              case rel => exact ⟨k + 1, some c, by omega, by go_num, rfl, best_old HY.out HO.out HB.out, (k1.alloc _ _).drewN _⟩
              case measure => simp [intOf]; omega
            · have hb3 : decide ((vs c).p < (vs k).p) = false := by simp; omega
              have hb4 : ((vs c).p == (vs k).p) = true := by simp; omega
              have hb5 : (vs k).p ≤ (vs c).p := by omega
              clear hbe hb1
              go_wp2_with fail
              refine HC1.out.mono ?_
              rintro e1 w1 ⟨rfl, k1⟩
              obtain ⟨b, off, hao, hvc⟩ := (HV.out.kp k1).at hlt
              subst hao
              have cl := hvc.l k hlt
              have cp := hvc.p k hlt
              have cf := hvc.f k hlt
              have dl := hvc.l c hcn
              have dp := hvc.p c hcn
              have hbs := hvc.size
              clear hvc
              go_wp2_with (go_at_call 23; refine (rhas_any _ _ _ (by omega) (by omega)).mono ?_; rintro e w' ⟨rfl, rfl⟩)
              go_quiet (fail)
              go_wp2
              go_roundw
              case rel => exact ⟨k + 1, some c, by omega, by go_num, rfl, best_old HY.out HO.out HB.out, (k1.alloc _ _).drewN _⟩
              case measure => simp [intOf]; omega
    · obtain rfl : k = n := by omega
      cases o with
      | none =>
        have hbi : bi none = -1 := rfl
        rw [hbi]
        clear hbi
        go_wp2
        go_ret2
        exact ⟨ret2_ib (by rw [HO.out]; rfl) (by rw [HO.out]; rfl), HK.out⟩
      | some c =>
        have ic0 : (0 : Int) ≤ (c : Int) := Int.natCast_nonneg _
        have hbi : bi (some c) = (c : Int) := rfl
        rw [hbi]
        clear hbi
        rcases c with _ | c
        · go_wp2
          go_ret2
          exact ⟨ret2_ib (by rw [HO.out]; rfl) (by rw [HO.out]; rfl), HK.out⟩
        · have ic1 : (0 : Int) < ((c + 1 : Nat) : Int) := by omega
          go_wp2
          go_ret2
          exact ⟨ret2_ib (by rw [HO.out]; rfl) (by rw [HO.out]; rfl), HK.out⟩

theorem rtake_not (p e lv ac : Int) (ao : Option Addr) (n cap : Nat) (vs : Nat → Vc) (w : World) (hv : VIn w ao vs n) (hn : n ≤ maxLen) (hc : ¬ chk vs n = 0) :
    Calls Tryd.prog 16 #[.int .u32 p, .int .u32 e, .int .i64 lv, .int .i64 ac, .slice ao n cap] w
      fun e' w' => e' = .returned (.tuple #[.int .i64 0, .bool false]) ∧ Kp w w' := by
  have hck := Lib.hid (rcheck_any ao n cap vs w hv hn)
  have hne : (chk vs n == 0) = false := by simpa using hc
  have h0 : 0 < n := by
    rcases Nat.eq_zero_or_pos n with h | h
    · subst h; exact absurd (chk_ok (by omega) (Good.zero vs)) hc
    · exact h
  have hn2 : n ≤ 9223372036854775807 := by unfold maxLen at hn; omega
  have h1 : (0 : Int) < (n : Int) := by omega
  clear hc hn
  go_enter Tryd.func16, Tryd.ntmps16
  go_wp2
  refine wp_loop_rounds 1 ?_
  rw [rounds_succ]
  go_wp2_with fail
  refine hck.out.mono ?_
  rintro e1 w1 ⟨rfl, k1⟩
  go_wp2
  go_ret2
  exact ⟨rfl, k1⟩
theorem rtake_any (p e lv ac : Int) (ao : Option Addr) (n cap : Nat) (vs : Nat → Vc) (w : World) (hv : VIn w ao vs n) (hn : n ≤ maxLen) (hp : 0 ≤ p) (hp' : p < 4294967296) (he : 0 ≤ e) (he' : e < 4294967296) :
    Calls Tryd.prog 16 #[.int .u32 p, .int .u32 e, .int .i64 lv, .int .i64 ac, .slice ao n cap] w
      fun e' w' => e' = .returned (.tuple #[.int .i64 (oi (tk p e lv ac vs n)), .bool (ob (tk p e lv ac vs n))]) ∧ Kp w w' := by
  by_cases hc : chk vs n = 0
  · obtain ⟨h32, hg⟩ := chk_zero.1 hc
    rw [tk_ok h32 hg]
    exact rtake_yes p e lv ac ao n cap vs w hv hn hp hp' he he' hc
  · rw [tk_no hc]
    exact rtake_not p e lv ac ao n cap vs w hv hn hc
end Ln
end Go.Proofs.YtlhbpklilfabnaaDoor
