/-
  WALKS: the document's own answers of layer 3: Effect, Jumps, Names. Own work.
-/
import Derived.Test.YtehmpakcfahmaaaDoorCoRefSmall
import Derived.Test.YtehmpakcfahmaaaDoorCoNames
namespace Go.Proofs.YtehmpakcfahmaaaDoor
namespace Co
open Go.RowKit Go
set_option linter.unusedVariables false

theorem rEffect_bad {w : World} (op x y z : Int) (ao : Option Addr) (n cap : Nat) (hc : chkE ⟨op, x, y, z⟩ = 2) :
    Calls Tryd.prog 14 #[.agg #[.int .i64 op, .int .i64 x, .int .i64 y, .int .i64 z], .slice ao n cap] w fun r w' => r = .returned (.tuple #[.int .i64 0, .int .i64 0, .bool false]) ∧ Kp w w' := by
  have H := Lib.hid hc
  clear hc
  go_enter Tryd.func14, Tryd.ntmps14
  go_wp2_with (go_at_call 18; refine (rCheck_any _ _ _ _ _ 2 H.out).mono ?_; rintro e w1 ⟨rfl, k1⟩)
  go_ret3
  exact ⟨rfl, ((Kp.refl w).alloc _ _).trans k1⟩
set_option maxHeartbeats 4000000 in
theorem rEffect_plain {w : World} (op x y z : Int) (ao : Option Addr) (n cap : Nat) (hop : 1 ≤ op ∧ op ≤ 24) (h17 : op ≠ 17) (hc : chkE ⟨op, x, y, z⟩ = 0) :
    Calls Tryd.prog 14 #[.agg #[.int .i64 op, .int .i64 x, .int .i64 y, .int .i64 z], .slice ao n cap] w fun r w' => r = .returned (.tuple #[.int .i64 (rowAt op).tk, .int .i64 (rowAt op).gv, .bool true]) ∧ Kp w w' := by
  have hop' : op = 1 ∨ op = 2 ∨ op = 3 ∨ op = 4 ∨ op = 5 ∨ op = 6 ∨ op = 7 ∨ op = 8 ∨ op = 9 ∨ op = 10 ∨ op = 11 ∨ op = 12 ∨ op = 13 ∨ op = 14 ∨ op = 15 ∨ op = 16 ∨ op = 18 ∨ op = 19 ∨ op = 20 ∨ op = 21 ∨ op = 22 ∨ op = 23 ∨ op = 24 := by omega
  have H := Lib.hid hc
  clear hc hop h17
  rcases hop' with rfl | rfl | rfl | rfl | rfl | rfl | rfl | rfl | rfl | rfl | rfl | rfl | rfl | rfl | rfl | rfl | rfl | rfl | rfl | rfl | rfl | rfl | rfl
  all_goals
    go_enter Tryd.func14, Tryd.ntmps14
    go_wp2_with (go_at_call 18; refine (rCheck_any _ _ _ _ _ 0 H.out).mono ?_; rintro e w1 ⟨rfl, k1⟩; have c1 := k1.cells; have z1 := size_alloc k1)
    go_ret3
    exact ⟨rfl, ((Kp.refl w).alloc _ _).trans k1⟩
set_option maxHeartbeats 1000000 in
theorem rEffect_far {w : World} (x y z : Int) (ao : Option Addr) (n cap : Nat) (hc : chkE ⟨17, x, y, z⟩ = 0) (hn : (n : Int) ≤ x) :
    Calls Tryd.prog 14 #[.agg #[.int .i64 17, .int .i64 x, .int .i64 y, .int .i64 z], .slice ao n cap] w fun r w' => r = .returned (.tuple #[.int .i64 0, .int .i64 0, .bool false]) ∧ Kp w w' := by
  have H := Lib.hid hc
  clear hc
  go_enter Tryd.func14, Tryd.ntmps14
  go_wp2_with (go_at_call 18; refine (rCheck_any _ _ _ _ _ 0 H.out).mono ?_; rintro e w1 ⟨rfl, k1⟩; have c1 := k1.cells; have z1 := size_alloc k1)
  go_ret3
  exact ⟨rfl, ((Kp.refl w).alloc _ _).trans k1⟩
set_option maxHeartbeats 1000000 in
theorem rEffect_call {w : World} (x y z : Int) (b0 off : Nat) (xs : Nat → Int) (n cap : Nat) (hv : Ics w b0 off xs n) (hc : chkE ⟨17, x, y, z⟩ = 0) (h0 : 0 ≤ x) (hn : x < n) (v : Int) (hx : xs x.toNat = v) :
    Calls Tryd.prog 14 #[.agg #[.int .i64 17, .int .i64 x, .int .i64 y, .int .i64 z], .slice (some ⟨b0, off, none⟩) n cap] w fun r w' => r = .returned (.tuple #[.int .i64 v, .int .i64 1, .bool true]) ∧ Kp w w' := by
  have hcell := hv.at' x.toNat (by omega)
  have hsz := hv.size
  rw [hx] at hcell
  have H := Lib.hid hc
  clear hc hv hx
  go_enter Tryd.func14, Tryd.ntmps14
  go_wp2_with fail
  refine (rCheck_any _ _ _ _ _ 0 H.out).mono ?_
  rintro e w1 ⟨rfl, k1⟩
  have c1 := k1.cells
  have z1 := size_alloc k1
  have kk1 := ((Kp.refl w).alloc _ _).trans k1
  go_wp2
  first
    | (go_quiet (fail)
       go_wp2
       go_ret3
       exact ⟨rfl, kk1.drewN _⟩)
    | (go_ret3
       exact ⟨rfl, kk1⟩)
theorem rEffect_any {w : World} (i : In) (ao : Option Addr) (n cap : Nat) (xs : Nat → Int) (hv : IIn w ao xs n) (t g : Int) (o : Bool) (ht : effT i xs n = t) (hg : effG i n = g) (hO : effO i n = o) :
    Calls Tryd.prog 14 #[.agg #[.int .i64 i.op, .int .i64 i.a, .int .i64 i.b, .int .i64 i.c], .slice ao n cap] w fun r w' => r = .returned (.tuple #[.int .i64 t, .int .i64 g, .bool o]) ∧ Kp w w' := by
  obtain ⟨op, x, y, z⟩ := i
  cases hc : chk ⟨op, x, y, z⟩ with
  | false =>
    have e : effO ⟨op, x, y, z⟩ n = false := by unfold effO; rw [hc]; rfl
    have e1 : effT ⟨op, x, y, z⟩ xs n = 0 := by unfold effT; rw [e]; rfl
    have e2 : effG ⟨op, x, y, z⟩ n = 0 := by unfold effG; rw [e]; rfl
    rw [← ht, ← hg, ← hO, e, e1, e2]
    exact rEffect_bad op x y z ao n cap (chkE_no hc)
  | true =>
    by_cases ho : op = 17
    · subst ho
      have h0 : 0 ≤ x := chk_call hc rfl
      by_cases hn : x < n
      · have e : effO ⟨17, x, y, z⟩ n = true := by unfold effO; rw [hc]; simp [hn]
        have e1 : effT ⟨17, x, y, z⟩ xs n = xs x.toNat := by unfold effT; rw [if_pos e, if_pos rfl]
        have e2 : effG ⟨17, x, y, z⟩ n = 1 := by unfold effG; rw [if_pos e]; rfl
        rw [← ht, ← hg, ← hO, e, e1, e2]
        rcases hv with hv | ⟨b, off, rfl, hv⟩
        · omega
        · exact rEffect_call x y z b off xs n cap hv (chkE_yes hc) h0 hn _ rfl
      · have e : effO ⟨17, x, y, z⟩ n = false := by unfold effO; rw [hc]; simp; omega
        have e1 : effT ⟨17, x, y, z⟩ xs n = 0 := by unfold effT; rw [e]; rfl
        have e2 : effG ⟨17, x, y, z⟩ n = 0 := by unfold effG; rw [e]; rfl
        rw [← ht, ← hg, ← hO, e, e1, e2]
        exact rEffect_far x y z ao n cap (chkE_yes hc) (by omega)
    · have e : effO ⟨op, x, y, z⟩ n = true := by unfold effO; rw [hc]; simp [ho]
      have e1 : effT ⟨op, x, y, z⟩ xs n = (rowAt op).tk := by unfold effT; rw [if_pos e, if_neg ho]
      have e2 : effG ⟨op, x, y, z⟩ n = (rowAt op).gv := by unfold effG; rw [if_pos e]
      rw [← ht, ← hg, ← hO, e, e1, e2]
      exact rEffect_plain op x y z ao n cap (chk_parts hc).1 ho (chkE_yes hc)

theorem rJumps_bad {w : World} (op x y z : Int) (hc : chkE ⟨op, x, y, z⟩ = 2) :
    Calls Tryd.prog 15 #[.agg #[.int .i64 op, .int .i64 x, .int .i64 y, .int .i64 z]] w fun r w' => r = .returned (.tuple #[.int .i64 0, .bool false, .bool false]) ∧ Kp w w' := by
  have H := Lib.hid hc
  clear hc
  go_enter Tryd.func15, Tryd.ntmps15
  go_wp2_with (go_at_call 18; refine (rCheck_any _ _ _ _ _ 2 H.out).mono ?_; rintro e w1 ⟨rfl, k1⟩)
  go_ret3
  exact ⟨rfl, ((Kp.refl w).alloc _ _).trans k1⟩
set_option maxHeartbeats 2000000 in
theorem rJumps_good {w : World} (op x y z : Int) (hc : chkE ⟨op, x, y, z⟩ = 0) (t : Int) (j o : Bool)
    (b15 b16 b1 b18 : Bool) (e15 : (op == 15) = b15) (e16 : (op == 16) = b16) (e1 : (op == 1) = b1) (e18 : (op == 18) = b18)
    (hcomb : (b15 = true ∧ b16 = false ∧ b1 = false ∧ b18 = false ∧ t = x ∧ j = true ∧ o = false) ∨ (b15 = false ∧ b16 = true ∧ b1 = false ∧ b18 = false ∧ t = x ∧ j = true ∧ o = true) ∨ (b15 = false ∧ b16 = false ∧ b1 = true ∧ b18 = false ∧ t = 0 ∧ j = false ∧ o = false) ∨ (b15 = false ∧ b16 = false ∧ b1 = false ∧ b18 = true ∧ t = 0 ∧ j = false ∧ o = false) ∨ (b15 = false ∧ b16 = false ∧ b1 = false ∧ b18 = false ∧ t = 0 ∧ j = false ∧ o = true)) :
    Calls Tryd.prog 15 #[.agg #[.int .i64 op, .int .i64 x, .int .i64 y, .int .i64 z]] w fun r w' => r = .returned (.tuple #[.int .i64 t, .bool j, .bool o]) ∧ Kp w w' := by
  have H := Lib.hid hc
  clear hc
  rcases hcomb with ⟨rfl, rfl, rfl, rfl, rfl, rfl, rfl⟩ | ⟨rfl, rfl, rfl, rfl, rfl, rfl, rfl⟩ | ⟨rfl, rfl, rfl, rfl, rfl, rfl, rfl⟩ | ⟨rfl, rfl, rfl, rfl, rfl, rfl, rfl⟩ | ⟨rfl, rfl, rfl, rfl, rfl, rfl, rfl⟩
  all_goals
    go_enter Tryd.func15, Tryd.ntmps15
    go_wp2_with (go_at_call 18; refine (rCheck_any _ _ _ _ _ 0 H.out).mono ?_; rintro e w1 ⟨rfl, k1⟩; have c1 := k1.cells; have z1 := size_alloc k1)
    have kk1 := ((Kp.refl w).alloc _ _).trans k1
    first
      | (go_ret3
         exact ⟨rfl, kk1⟩)
      | (go_quiet (fail)
         go_wp2
         go_ret3
         exact ⟨rfl, kk1.drewN _⟩)
theorem rJumps_any {w : World} (i : In) (t : Int) (j o : Bool) (ht : jmpT i = t) (hj : jmpJ i = j) (hO : jmpO i = o) :
    Calls Tryd.prog 15 #[.agg #[.int .i64 i.op, .int .i64 i.a, .int .i64 i.b, .int .i64 i.c]] w fun r w' => r = .returned (.tuple #[.int .i64 t, .bool j, .bool o]) ∧ Kp w w' := by
  obtain ⟨op, x, y, z⟩ := i
  rw [← ht, ← hj, ← hO]
  cases hc : chk ⟨op, x, y, z⟩ with
  | false =>
    have e1 : jmpT ⟨op, x, y, z⟩ = 0 := by unfold jmpT; rw [hc]; rfl
    have e2 : jmpJ ⟨op, x, y, z⟩ = false := by unfold jmpJ; rw [hc]; rfl
    have e3 : jmpO ⟨op, x, y, z⟩ = false := by unfold jmpO; rw [hc]; rfl
    rw [e1, e2, e3]
    exact rJumps_bad op x y z (chkE_no hc)
  | true =>
    have hop := (chk_parts hc).1
    simp only at hop
    obtain ⟨hj, hs, _, _⟩ := goes_row hop
    refine rJumps_good op x y z (chkE_yes hc) _ _ _ (decide (op = 15)) (decide (op = 16)) (decide (op = 1)) (decide (op = 18)) rfl rfl rfl rfl ?_
    unfold jmpT jmpJ jmpO
    rw [hc, hj, hs]
    by_cases a : op = 15
    · subst a; simp
    by_cases b : op = 16
    · subst b; simp
    by_cases c : op = 1
    · subst c; simp
    by_cases d : op = 18
    · subst d; simp
    simp [a, b, c, d]
theorem rNames_any (w : World) : Calls Tryd.prog 22 #[] w fun e w' => e = .returned (.slice (some ⟨w.heap.size, 0, none⟩) 24 24) ∧ Scs w' w.heap.size 0 namesL ∧ Kp w w' := by
  go_enter Tryd.func22, Tryd.ntmps22
  go_wp2
  go_ret
  refine ⟨rfl, ⟨by simp, fun i hi => ?_⟩, (Kp.refl w).alloc _ _⟩
  have hi' : i < 24 := hi
  have hcase : i = 0 ∨ i = 1 ∨ i = 2 ∨ i = 3 ∨ i = 4 ∨ i = 5 ∨ i = 6 ∨ i = 7 ∨ i = 8 ∨ i = 9 ∨ i = 10 ∨ i = 11 ∨ i = 12 ∨ i = 13 ∨ i = 14 ∨ i = 15 ∨ i = 16 ∨ i = 17 ∨ i = 18 ∨ i = 19 ∨ i = 20 ∨ i = 21 ∨ i = 22 ∨ i = 23 := by omega
  rcases hcase with rfl | rfl | rfl | rfl | rfl | rfl | rfl | rfl | rfl | rfl | rfl | rfl | rfl | rfl | rfl | rfl | rfl | rfl | rfl | rfl | rfl | rfl | rfl | rfl
  all_goals (simp; rfl)
end Co
end Go.Proofs.YtehmpakcfahmaaaDoor
