/-
  WALK: the statement LinesNames. Own work.
-/
import Derived.Test.YtlhbpklilfabnaaDoorLinTurned
namespace Go.Proofs.YtlhbpklilfabnaaDoor
namespace Ln
open Go.RowKit Go
set_option linter.unusedVariables false

theorem check_long {w0 w : World} (hk : Kp w0 w) (ao : Option Addr) (n cap : Nat) (hl : 32 < n) (hn : n ≤ 9223372036854775807) :
    Calls Tryd.prog 14 #[.slice ao n cap] w fun e w' => e = .returned (.int .i64 3) ∧ Kp w0 w' := by
  have hl2 : (32 : Int) < (n : Int) := by omega
  go_enter Tryd.func14, Tryd.ntmps14
  go_wp2
  go_ret
  exact ⟨rfl, hk⟩
theorem of_c {w0 w : World} (hk : Kp w0 w) (ao : Option Addr) (n cap : Nat) (xs : Nat → Int) (hv : IIn w ao xs n) (hn : n ≤ maxLen) (a b : Int) (ha : ofV xs n = a) (hb : ofE xs n = b) :
    Calls Tryd.prog 8 #[.slice ao n cap] w fun e w' => e = .returned (.tuple #[.int .u32 a, .int .i64 b]) ∧ Kp w0 w' :=
  (of_any ao n cap xs w hv hn).mono fun _ _ ⟨h, k⟩ => ⟨by rw [h, ha, hb], by rw [← k]; exact hk⟩
theorem find_c {w0 w : World} (hk : Kp w0 w) (ao : Option Addr) (n cap : Nat) (vs : Nat → Vc) (x : Int) (hv : VIn w ao vs n) (hn : n ≤ maxLen) (i : Int) (b : Bool) (hi : oi (fnd vs x n) = i) (hb : ob (fnd vs x n) = b) :
    Calls Tryd.prog 9 #[.slice ao n cap, .int .i64 x] w fun e w' => e = .returned (.tuple #[.int .i64 i, .bool b]) ∧ Kp w0 w' :=
  (find_any ao n cap vs x w hv hn).mono fun _ _ ⟨h, k⟩ => ⟨by rw [h, hi, hb], hk.trans k⟩
theorem count_c {w0 w : World} (hk : Kp w0 w) (s c : Int) (hs : 0 ≤ s) (hs' : s < 4294967296) (hc : ones s = c) :
    Calls Tryd.prog 12 #[.int .u32 s] w fun e w' => e = .returned (.int .i64 c) ∧ Kp w0 w' :=
  (count_any s w hs hs').mono fun _ _ ⟨h, k⟩ => ⟨by rw [h, hc], hk.trans k⟩
theorem has_c {w0 w : World} (hk : Kp w0 w) (s x : Int) (b : Bool) (hs : 0 ≤ s) (hs' : s < 4294967296) (h : hasB s x = b) :
    Calls Tryd.prog 13 #[.int .u32 s, .int .i64 x] w fun e w' => e = .returned (.bool b) ∧ Kp w0 w' :=
  (has_any s x w hs hs').mono fun _ _ ⟨he, hw⟩ => ⟨by rw [he, h], by rw [← hw]; exact hk⟩
def fst4 : Nat → Vc
  | 0 => ⟨3, 2, 0⟩
  | 1 => ⟨5, 4, 0⟩
  | 2 => ⟨1, 4, 0⟩
  | _ => ⟨3, 1, 0⟩
def oneOf (x : Int) : Nat → Int := fun _ => x
theorem one_in (w : World) (x : Int) : IIn (w.alloc (.cells #[.int .i64 x] 3)) (some ⟨w.heap.size, 0, none⟩) (oneOf x) 1 := by
  refine .inr ⟨_, _, rfl, by simp, fun i hi => ?_⟩
  obtain rfl : i = 0 := by omega
  simp [oneOf]

set_option maxRecDepth 100000 in
set_option maxHeartbeats 2000000 in
theorem names_walk (w : World) (hT : TabIn w) : Calls Tryd.prog 3 #[] w (Yes w) := by
  obtain ⟨i0, hi, hz0, hz1, hz2⟩ := info_parts info_vec
  have HT := Lib.hid hT
  clear hT
  have hmk : ∃ C : Array Value, ∀ w : World, (Instr.makeSlice 28 (.int .i64 33) (.int .i64 33)).run Tryd.prog w = .ok (.slice (some ⟨w.heap.size, 0, none⟩) 33 33) (w.alloc (.cells C 35)) :=
    ⟨_, fun w => run_makeSlice w 28 35 i0 _ Tryd.underlying28 hi hz0 .i64 .i64 33 33 (by decide) (by decide) (by rw [hz1]; decide) (by rw [hz2]; decide) (by decide)⟩
  obtain ⟨C33, hmk⟩ := hmk
  go_enter Tryd.func3, Tryd.ntmps3
  go_wp2_with fail
  refine (of_c ((Kp.refl w).alloc _ _) _ 3 3 three (three_in w) (by decide) 42 0 (by decide +kernel) (by decide +kernel)).mono ?_
  rintro e1 w1 ⟨rfl, k1⟩
  go_wp2_with fail
  refine (of_c (k1.alloc _ _) _ 1 1 (oneOf 32) (one_in w1 32) (by decide) 0 2 (by decide +kernel) (by decide +kernel)).mono ?_
  rintro e2 w2 ⟨rfl, k2⟩
  go_wp2_with fail
  refine (first_in k2).mono ?_
  rintro e3 w3 ⟨rfl, v3, k3⟩
  have V3 := Lib.hid v3
  clear v3
  go_wp2_with fail
  refine (find_c k3 _ 3 3 fst3 5 V3.out (by decide) 1 true (by decide +kernel) (by decide +kernel)).mono ?_
  rintro e4 w4 ⟨rfl, k4⟩
  go_wp2_with fail
  refine (first_in k4).mono ?_
  rintro e5 w5 ⟨rfl, v5, k5⟩
  have V5 := Lib.hid v5
  clear v5
  go_wp2_with fail
  refine (find_c k5 _ 3 3 fst3 6 V5.out (by decide) 0 false (by decide +kernel) (by decide +kernel)).mono ?_
  rintro e6 w6 ⟨rfl, k6⟩
  clear k1 k2 k3 k4 k5
  go_wp2_with fail
  refine (lives_yes k6 HT.out).mono ?_
  rintro e7 w7 ⟨rfl, k7⟩
  go_wp2_with fail
  refine (count_c k7 42 3 (by decide) (by decide) (by unfold ones; rw [lines42]; rfl)).mono ?_
  rintro e8 w8 ⟨rfl, k8⟩
  go_wp2_with fail
  refine (has_c k8 42 5 true (by decide) (by decide) (by decide +kernel)).mono ?_
  rintro e9 w9 ⟨rfl, k9⟩
  go_wp2_with fail
  refine (has_c k9 42 (-1) false (by decide) (by decide) (by decide +kernel)).mono ?_
  rintro e10 w10 ⟨rfl, k10⟩
  clear k6 k7 k8 k9
  go_wp2_with fail
  refine (first_in k10).mono ?_
  rintro e11 w11 ⟨rfl, v11, k11⟩
  have V11 := Lib.hid v11
  clear v11
  go_wp2_with fail
  refine (check_c k11 _ 3 3 fst3 V11.out (by decide) 0 (by decide +kernel)).mono ?_
  rintro e12 w12 ⟨rfl, k12⟩
  clear k10 k11
  go_wp2_with fail
  refine (first_any w12).mono ?_
  rintro e13 w13 ⟨rfl, rfl⟩
  have own0 := World.ownsRow_lit (base := w12.heap.size) (e := 35) (size := 3) w12 #[.int .i64 3, .int .i64 2, .int .i64 0, .int .i64 5, .int .i64 4, .int .i64 0, .int .i64 1, .int .i64 4, .int .i64 0] 3 (Nat.le_refl _) (by decide) rfl
  have OWN := Lib.hid own0
  have K12 := Lib.hid k12
  clear own0 k12
  go_wp2_with (at_builtin; refine BigFrame.wpList_want (by rfl) (fun K hK => ?_); refine wp_append_own _ (.tmp 70) (.tmp 72) 28 rfl w12.heap.size 35 i0 (.agg #[.int .i64 0, .int .i64 0, .int .i64 0]) 3 24 Tryd.underlying28 hi hz0 hz1 hz2 rfl (by decide) _ 3 _ rfl (OWN.out.alloc _) ⟨w12.heap.size + 1, 0, none⟩ 1 1 [.int .i64 3, .int .i64 1, .int .i64 0] rfl rfl ?c1 ?c2 ?c3 ?c4 ?c5 ?_)
  case c1 =>
    intro j u hj
    match j, hj with
    | 0, hj => simp at hj; subst hj; simp [Addr.add]
    | 1, hj => simp at hj; subst hj; simp [Addr.add]
    | 2, hj => simp at hj; subst hj; simp [Addr.add]
  case c2 =>
    intro u hu
    simp at hu
    rcases hu with rfl | rfl | rfl <;> rfl
  case c3 => decide
  case c4 => decide
  case c5 => simp; omega
  intro v' wa hown' hgrow _
  have hk1 : Kp w wa := ⟨((K12.out.alloc _ _).alloc _ _).below.grown hgrow (by have := K12.out.size; simp; omega) (fun k hk => Nat.le_trans K12.out.size ((OWN.out.alloc (.cells #[.int .i64 3, .int .i64 1, .int .i64 0] 35)).lt k hk).1)⟩
  have hown2 : wa.ownsRow w12.heap.size 35 3 v' 4 (vcs fst4 4) := hown'
  obtain ⟨ao4, cap4, rfl, hv4⟩ := own_vecs hown2
  have H4 := Lib.hid hv4
  clear hown' hown2 hgrow hv4
  refine hK _ _ ?_
  clear hK
  go_wp2_with fail
  refine (check_c hk1 _ 4 cap4 fst4 H4.out (by decide) 2 (by decide +kernel)).mono ?_
  rintro e14 w14 ⟨rfl, k14⟩
  clear hk1
  go_wp2_with fail
  refine (check_long (k14.alloc _ _) _ 33 33 (by decide) (by decide)).mono ?_
  rintro e15 w15 ⟨rfl, k15⟩
  go_wp2
  go_ret
  exact ⟨rfl, k15⟩
end Ln
end Go.Proofs.YtlhbpklilfabnaaDoor
