/-
  WALKS: the document's own answers of layer 2: Has, Find, Of, List, Check. Own work.
-/
import Derived.Test.YtlhbpklilfabnaaDoorLinList
namespace Go.Proofs.YtlhbpklilfabnaaDoor
namespace Ln
open Go.RowKit Go
set_option linter.unusedVariables false

theorem has_div {s x : Int} (hs : 0 ≤ s) : ((s / 2 ^ x.toNat).tmod 2 == (1 : Int)) = s.toNat.testBit x.toNat := by
  rw [Int.tmod_eq_emod_of_nonneg (Int.ediv_nonneg hs (Int.le_of_lt (Int.pow_pos (by decide))))]
  obtain ⟨m, rfl⟩ := Int.eq_ofNat_of_zero_le hs
  rw [Int.toNat_natCast, Nat.testBit_eq_decide_div_mod_eq, Bool.eq_iff_iff]
  have e : ((m : Int) / 2 ^ x.toNat % 2) = ((m / 2 ^ x.toNat % 2 : Nat) : Int) := by simp
  rw [e]; simp; omega
theorem rhas_any (s x : Int) (w : World) (hs : 0 ≤ s) (hs' : s < 4294967296) :
    Calls Tryd.prog 23 #[.int .u32 s, .int .i64 x] w fun e w' => e = .returned (.bool (hasB s x)) ∧ w = w' := by
  by_cases h0 : 0 ≤ x
  · by_cases h1 : x < 32
    · have hd := Lib.hid (has_div (x := x) hs)
      rw [hasB_ex (exB_true h0 h1)]
      go_enter Tryd.func23, Tryd.ntmps23
      go_wp2
      go_ret
      exact ⟨ret_bool hd.out, rfl⟩
    · rw [hasB_no (exB_no (by omega))]
      go_enter Tryd.func23, Tryd.ntmps23
      go_wp2
      go_ret
      exact ⟨rfl, rfl⟩
  · rw [hasB_no (exB_no (by omega))]
    go_enter Tryd.func23, Tryd.ntmps23
    go_wp2
    go_ret
    exact ⟨rfl, rfl⟩

set_option maxHeartbeats 400000 in
theorem rfind_any (ao : Option Addr) (n cap : Nat) (vs : Nat → Vc) (x : Int) (w : World) (hv : VIn w ao vs n) (hn : n ≤ maxLen) :
    Calls Tryd.prog 17 #[.slice ao n cap, .int .i64 x] w fun e w' => e = .returned (.tuple #[.int .i64 (oi (fnd vs x n)), .bool (ob (fnd vs x n))]) ∧ w = w' := by
  unfold maxLen at hn
  go_enter Tryd.func17, Tryd.ntmps17
  go_wp2
  go_loop [6] (fun i => ∃ (k : Nat), k ≤ n ∧ i = .int .i64 k ∧ fnd vs x k = none) (fun i => n - (intOf i).toNat)
  case atStart => exact ⟨0, Nat.zero_le _, rfl, rfl⟩
  case round =>
    obtain ⟨k, hk, rfl, hf⟩ := hrel
    have HF := Lib.hid hf
    clear hf
    by_cases hlt : k < n
    · obtain ⟨b, off, hao, hvc⟩ := hv.at hlt
      subst hao
      have cl := hvc.l k hlt
      clear hvc
      by_cases hx : (vs k).l = x
      · have HX := Lib.hid hx
        have hx : ((vs k).l == x) = true := by simpa using hx
        go_wp2
        go_ret2
        exact ⟨ret2_ib (by rw [fnd_hit HF.out HX.out n hlt]; rfl) (by rw [fnd_hit HF.out HX.out n hlt]; rfl), rfl⟩
      · have HX := Lib.hid hx
        have hx : ((vs k).l == x) = false := by simpa using hx
        go_wp2
        go_round
        case rel => exact ⟨k + 1, by omega, by go_num, fnd_no HF.out HX.out⟩
        case measure => simp [intOf]; omega
    · obtain rfl : k = n := by omega
      go_wp2
      go_ret2
      exact ⟨ret2_ib (by rw [HF.out]; rfl) (by rw [HF.out]; rfl), rfl⟩

set_option maxHeartbeats 400000 in
theorem rof_any (ao : Option Addr) (n cap : Nat) (xs : Nat → Int) (w : World) (hv : IIn w ao xs n) (hn : n ≤ maxLen) :
    Calls Tryd.prog 18 #[.slice ao n cap] w fun e w' => e = .returned (.tuple #[.int .u32 (ofV xs n), .int .i64 (ofE xs n)]) ∧ w = w' := by
  unfold maxLen at hn
  go_enter Tryd.func18, Tryd.ntmps18
  go_wp2
  go_loop [4, 5] (fun s i => ∃ (k : Nat), k ≤ n ∧ i = .int .i64 k ∧ s = .int .u32 (setI xs k) ∧ AllEx xs k) (fun _ i => n - (intOf i).toNat)
  case atStart => exact ⟨0, Nat.zero_le _, rfl, rfl, AllEx.zero xs⟩
  case round =>
    obtain ⟨k, hk, rfl, rfl, ha⟩ := hrel
    have HA := Lib.hid ha
    have hsb := setI_bd ha
    obtain ⟨hs0, hs1⟩ := hsb
    clear ha
    by_cases hlt : k < n
    · obtain ⟨b, off, hao, hvc⟩ := hv.at hlt
      subst hao
      have cl := hvc.c k hlt
      clear hvc
      by_cases h0 : xs k < 0
      · have HN := Lib.hid (show ¬ AllEx xs n from fun g => by have := g k hlt; omega)
        go_wp2
        go_ret2
        exact ⟨ret2_int (ofV_no HN.out).symm (ofE_no HN.out).symm, rfl⟩
      · by_cases h1 : 31 < xs k
        · have HN := Lib.hid (show ¬ AllEx xs n from fun g => by have := g k hlt; omega)
          have h0 : 0 ≤ xs k := by omega
          go_wp2
          go_ret2
          exact ⟨ret2_int (ofV_no HN.out).symm (ofE_no HN.out).symm, rfl⟩
        · have h0 : 0 ≤ xs k := by omega
          have h1 : xs k ≤ 31 := by omega
          have h2 : xs k < 32 := by omega
          have hsh := shl_bit2 h0 h2
          have hbb := bitV_bd h0 h2
          obtain ⟨hb0, hb1⟩ := hbb
          have hor := or_bd hs0 hs1 (show 0 ≤ bitV (xs k) by omega) hb1
          obtain ⟨ho0, ho1⟩ := hor
          go_wp2
          go_round
          case rel => exact ⟨k + 1, by omega, by go_num, rfl, HA.out.succ h0 h2⟩
          case measure => simp [intOf]; omega
    · obtain rfl : k = n := by omega
      go_wp2
      go_ret2
      exact ⟨ret2_int (ofV_yes HA.out).symm (ofE_yes HA.out).symm, rfl⟩

/-- The lines of a set below k. -/
def linesTo (s : Int) (k : Nat) : List Nat := (List.range k).filter s.toNat.testBit
theorem linesTo_yes {s : Int} {k : Nat} (hk : k < 32) (h : hasB s (k : Int) = true) : linesTo s (k + 1) = linesTo s k ++ [k] := by
  rw [hasB_nat] at h; simp [hk] at h
  unfold linesTo; rw [List.range_succ, List.filter_append]; simp [h]
theorem linesTo_no {s : Int} {k : Nat} (hk : k < 32) (h : hasB s (k : Int) = false) : linesTo s (k + 1) = linesTo s k := by
  rw [hasB_nat] at h; simp [hk] at h
  unfold linesTo; rw [List.range_succ, List.filter_append]; simp [h]
theorem linesTo_le (s : Int) (k : Nat) : (linesTo s k).length ≤ k := by unfold linesTo; have := List.length_filter_le s.toNat.testBit (List.range k); simpa using this

set_option maxHeartbeats 800000 in
theorem rlist_any (s : Int) (w : World) (h0 : 0 ≤ s) (h1 : s < 4294967296) :
    Calls Tryd.prog 22 #[.int .u32 s] w (Lst w s) := by
  obtain ⟨i0, hi, hz0, hz1, hz2⟩ := info_parts info_int
  go_enter Tryd.func22, Tryd.ntmps22
  go_wp2
  go_loopw [3, 4] (fun v i wr => ∃ (k : Nat), k ≤ 32 ∧ i = .int .i64 k ∧ wr.ownsRow w.heap.size 3 1 v (linesTo s k).length (vls (linesTo s k)) ∧ Kp w wr) (fun _ i _ => 32 - (intOf i).toNat)
  case atStart => exact ⟨0, Nat.zero_le _, rfl, World.ownsRow_nil _ _ _ _, Kp.refl _⟩
  case round =>
    obtain ⟨k, hk, rfl, hown, hkp⟩ := hrel
    have hal := linesTo_le s k
    by_cases hlt : k < 32
    · cases hb : hasB s (k : Int) with
      | true =>
        have HY := Lib.hid (linesTo_yes hlt hb)
        go_wp2_with (first | (go_at_call 23; refine (rhas_any s _ _ h0 h1).mono ?_; rintro e w' ⟨rfl, rfl⟩) | (at_builtin; refine wpList_append_own _ rfl _ _ 36 rfl w.heap.size 3 i0 (.int .i64 0) 1 8 Tryd.underlying36 hi hz0 hz1 hz2 rfl (by decide) _ _ _ rfl (hown.alloc _) ⟨wr.heap.size, 0, none⟩ 1 1 [.int .i64 (k : Int)] rfl rfl ?c1 ?c2 ?c3 ?c4 ?c5 ?_))
        case c1 =>
          intro j u hj
          match j, hj with
          | 0, hj => simp at hj; subst hj; simp [Addr.add]
        case c2 => intro u hu; simp at hu; subst hu; rfl
        case c3 => unfold maxLen; omega
        case c4 => omega
        case c5 => have := hkp.size; simp; omega
        intro v' w1 hown' hgrow _
        have hk1 : Kp w w1 := ⟨(hkp.alloc _ _).below.grown hgrow (by have := hkp.size; simp; omega) (fun k hk => (hown.lt k hk).1)⟩
        have hown2 : w1.ownsRow w.heap.size 3 1 v' (linesTo s (k + 1)).length (vls (linesTo s (k + 1))) := by
          rw [HY.out, vls_snoc, List.length_append]; exact hown'
        clear hown' hgrow hown
        go_wp2
        go_roundw
        case rel => exact ⟨k + 1, by omega, by go_num, hown2, hk1⟩
        case measure => simp [intOf]; omega
      | false =>
        have HY := Lib.hid (linesTo_no hlt hb)
        go_wp2_with (go_at_call 23; refine (rhas_any s _ _ h0 h1).mono ?_; rintro e w' ⟨rfl, rfl⟩)
        go_roundw
        case rel => exact ⟨k + 1, by omega, by go_num, by rw [HY.out]; exact hown, hkp⟩
        case measure => simp [intOf]; omega
    · obtain rfl : k = 32 := by omega
      go_wp2
      go_ret
      exact lst_of (B := w.heap.size) hown hkp
end Ln
end Go.Proofs.YtlhbpklilfabnaaDoor
