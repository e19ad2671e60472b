/-
  WALKS: vectors in memory; valid, before, Check of package lines. Own work.
-/
import Derived.Test.YtlhbpklilfabnaaDoorLinSmall
import Derived.Deep.Slices
namespace Go.Proofs.YtlhbpklilfabnaaDoor
namespace Ln
open Go.RowKit Go
set_option linter.unusedVariables false

/-- A slice of n vectors lies there (nil, if there are none). -/
structure Vcs (w : World) (b off : Nat) (vs : Nat → Vc) (n : Nat) : Prop where
  size : b < w.heap.size
  l : ∀ i, i < n → w.cell? ⟨b, off + i * 3, none⟩ = some (.int .i64 (vs i).l)
  p : ∀ i, i < n → w.cell? ⟨b, off + i * 3 + 1, none⟩ = some (.int .i64 (vs i).p)
  f : ∀ i, i < n → w.cell? ⟨b, off + i * 3 + 2, none⟩ = some (.int .i64 (vs i).f)
def VIn (w : World) (ao : Option Addr) (vs : Nat → Vc) (n : Nat) : Prop := n = 0 ∨ ∃ b off, ao = some ⟨b, off, none⟩ ∧ Vcs w b off vs n
theorem Vcs.kp {w w' : World} {b off : Nat} {vs : Nat → Vc} {n : Nat} (h : Vcs w b off vs n) (k : Kp w w') : Vcs w' b off vs n :=
  ⟨Nat.lt_of_lt_of_le h.size k.size, fun i hi => (k.cells _ _ h.size).trans (h.l i hi), fun i hi => (k.cells _ _ h.size).trans (h.p i hi), fun i hi => (k.cells _ _ h.size).trans (h.f i hi)⟩
theorem VIn.kp {w w' : World} {ao : Option Addr} {vs : Nat → Vc} {n : Nat} (h : VIn w ao vs n) (k : Kp w w') : VIn w' ao vs n := by
  rcases h with h | ⟨b, off, h, g⟩
  · exact .inl h
  · exact .inr ⟨b, off, h, g.kp k⟩
theorem VIn.at {w : World} {ao : Option Addr} {vs : Nat → Vc} {n : Nat} (h : VIn w ao vs n) {i : Nat} (hi : i < n) : ∃ b off, ao = some ⟨b, off, none⟩ ∧ Vcs w b off vs n := by
  rcases h with h | h
  · omega
  · exact h

theorem valid_any (v : Vc) (w : World) :
    Calls Tryd.prog 27 #[.agg #[.int .i64 v.l, .int .i64 v.p, .int .i64 v.f]] w fun e w' => e = .returned (.bool (vaB v)) ∧ Kp w w' := by
  obtain ⟨l, p, f⟩ := v
  cases hv : vaB ⟨l, p, f⟩ with
  | true =>
    obtain ⟨h0, h1, h2, h3, h4⟩ := vaB_iff.1 hv
    have hx : exB l = true := exB_true h0 h1
    clear hv
    simp only at h0 h1 h2 h3 h4
    go_enter Tryd.func27, Tryd.ntmps27
    go_wp2_with (go_at_call 24; refine (exists_any l _).mono ?_; rintro e w' ⟨rfl, rfl⟩)
    go_ret
    exact ⟨rfl, (Kp.refl _).alloc _ _⟩
  | false =>
    rcases vaB_no hv with hx | ⟨hx, h⟩
    · clear hv
      simp only at hx
      go_enter Tryd.func27, Tryd.ntmps27
      go_wp2_with (go_at_call 24; refine (exists_any l _).mono ?_; rintro e w' ⟨rfl, rfl⟩)
      go_ret
      exact ⟨rfl, (Kp.refl _).alloc _ _⟩
    · clear hv
      simp only at hx h
      by_cases h1 : p < 1
      · go_enter Tryd.func27, Tryd.ntmps27
        go_wp2_with (go_at_call 24; refine (exists_any l _).mono ?_; rintro e w' ⟨rfl, rfl⟩)
        go_ret
        exact ⟨rfl, (Kp.refl _).alloc _ _⟩
      · by_cases h2 : 15 < p
        · go_enter Tryd.func27, Tryd.ntmps27
          go_wp2_with (go_at_call 24; refine (exists_any l _).mono ?_; rintro e w' ⟨rfl, rfl⟩)
          go_ret
          exact ⟨rfl, (Kp.refl _).alloc _ _⟩
        · have h3 : f < 0 := by omega
          clear h
          have h1 : 1 ≤ p := by omega
          have h2 : p ≤ 15 := by omega
          go_enter Tryd.func27, Tryd.ntmps27
          go_wp2_with (go_at_call 24; refine (exists_any l _).mono ?_; rintro e w' ⟨rfl, rfl⟩)
          go_ret
          exact ⟨ret_bool (by simp; omega), (Kp.refl _).alloc _ _⟩

theorem before_any (v u : Vc) (w : World) :
    Calls Tryd.prog 29 #[.agg #[.int .i64 v.l, .int .i64 v.p, .int .i64 v.f], .agg #[.int .i64 u.l, .int .i64 u.p, .int .i64 u.f]] w fun e w' => e = .returned (.bool (beB v u)) ∧ Kp w w' := by
  obtain ⟨l, p, f⟩ := v
  obtain ⟨l', p', f'⟩ := u
  by_cases h1 : p' < p
  · have e : beB ⟨l, p, f⟩ ⟨l', p', f'⟩ = true := beB_iff.2 (.inl h1)
    rw [e]; clear e
    go_enter Tryd.func29, Tryd.ntmps29
    go_wp2
    go_ret
    exact ⟨rfl, ((Kp.refl _).alloc _ _).alloc _ _⟩
  · by_cases h2 : p = p'
    · subst h2
      by_cases h3 : l < l'
      · have e : beB ⟨l, p, f⟩ ⟨l', p, f'⟩ = true := beB_iff.2 (.inr ⟨rfl, h3⟩)
        rw [e]; clear e
        go_enter Tryd.func29, Tryd.ntmps29
        go_wp2
        go_ret
        exact ⟨rfl, ((Kp.refl _).alloc _ _).alloc _ _⟩
      · have e : beB ⟨l, p, f⟩ ⟨l', p, f'⟩ = false := beB_no.2 (.inr ⟨rfl, by simp; omega⟩)
        rw [e]; clear e
        go_enter Tryd.func29, Tryd.ntmps29
        go_wp2
        go_ret
        exact ⟨rfl, ((Kp.refl _).alloc _ _).alloc _ _⟩
    · have h4 : p < p' := by omega
      have e : beB ⟨l, p, f⟩ ⟨l', p', f'⟩ = false := beB_no.2 (.inl h4)
      rw [e]; clear e
      have h2 : (p == p') = false := by simpa using h2
      go_enter Tryd.func29, Tryd.ntmps29
      go_wp2
      go_ret
      exact ⟨rfl, ((Kp.refl _).alloc _ _).alloc _ _⟩

set_option maxHeartbeats 400000 in
theorem check_any (ao : Option Addr) (n cap : Nat) (vs : Nat → Vc) (w : World) (hv : VIn w ao vs n) (hn : n ≤ maxLen) :
    Calls Tryd.prog 14 #[.slice ao n cap] w fun e w' => e = .returned (.int .i64 (chk vs n)) ∧ Kp w w' := by
  unfold maxLen at hn
  by_cases hl : 32 < n
  · rw [chk_long hl]
    go_enter Tryd.func14, Tryd.ntmps14
    go_wp2
    go_ret
    exact ⟨rfl, Kp.refl _⟩
  · have hl : n ≤ 32 := by omega
    go_enter Tryd.func14, Tryd.ntmps14
    go_wp2
    go_loopw [3, 11] (fun s i wr => ∃ (k : Nat) (S : Int), k ≤ n ∧ i = .int .i64 k ∧ s = .int .u32 S ∧ Good vs k ∧ SetOf vs k S ∧ Kp w wr) (fun _ i _ => n - (intOf i).toNat)
    case atStart => exact ⟨0, 0, Nat.zero_le _, rfl, rfl, Good.zero vs, SetOf.zero vs, Kp.refl _⟩
    case round =>
      obtain ⟨k, S, hk, rfl, rfl, hg, hS, hkp⟩ := hrel
      by_cases hlt : k < n
      · obtain ⟨b, off, hao, hvc⟩ := (hv.kp hkp).at hlt
        subst hao
        have cl := hvc.l k hlt
        have cp := hvc.p k hlt
        have cf := hvc.f k hlt
        have HS := Lib.hid hS
        have HG := Lib.hid hg
        have HV := Lib.hid hvc
        clear hS hg hvc
        cases hvb : vaB (vs k) with
        | false =>
          go_wp2_with fail
          refine (valid_any (vs k) _).mono ?_
          rintro e w1 ⟨rfl, hk1⟩
          go_wp2
          go_ret
          refine ⟨ret_int ?_, (hkp.alloc _ _).trans hk1⟩
          rw [chk_bad hl (fun g => by have := (g k hlt).1; rw [hvb] at this; cases this)]
        | true =>
          obtain ⟨h0, h1, _, _, _⟩ := vaB_iff.1 hvb
          obtain ⟨s0, s1, _⟩ := HS.out
          cases hhb : hasB S (vs k).l with
          | true =>
            go_wp2_with fail
            refine (valid_any (vs k) _).mono ?_
            rintro e w1 ⟨rfl, hk1⟩
            have hc1 := hk1.cells
            go_wp2_with (go_at_call 13; refine (has_any S (vs k).l _ s0 s1).mono ?_; rintro e w' ⟨rfl, rfl⟩)
            go_ret
            refine ⟨ret_int ?_, (hkp.alloc _ _).trans hk1⟩
            obtain ⟨j, hj, e⟩ := HS.out.twice hhb
            rw [chk_bad hl (fun g => (g k hlt).2 j hj e)]
          | false =>
            have hob := or_bd s0 s1 (b := bitV (vs k).l) (by have := bitV_bd h0 h1; omega) (by have := bitV_bd h0 h1; omega)
            go_wp2_with fail
            refine (valid_any (vs k) _).mono ?_
            rintro e w1 ⟨rfl, hk1⟩
            have hc1 := hk1.cells
            go_wp2_with (first | (go_at_call 13; refine (has_any S (vs k).l _ s0 s1).mono ?_; rintro e w' ⟨rfl, rfl⟩) | (go_at_call 25; refine (bit_any (vs k).l _ h0 h1).mono ?_; rintro e w' ⟨rfl, rfl⟩))
            go_roundw
            case rel => exact ⟨k + 1, _, by omega, by go_num, rfl, HG.out.succ hvb (HS.out.fresh hhb), HS.out.succ h0 h1, (hkp.alloc _ _).trans hk1⟩
            case measure => simp [intOf]; omega
      · obtain rfl : k = n := by omega
        go_wp2
        go_ret
        refine ⟨ret_int ?_, hkp⟩
        rw [chk_ok hl hg]
end Ln
end Go.Proofs.YtlhbpklilfabnaaDoor
