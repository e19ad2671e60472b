/-
  WALKS: package code, Effect and Jumps. Own work.
-/
import Derived.Test.YtehmpakcfahmaaaDoorCoCheck
namespace Go.Proofs.YtehmpakcfahmaaaDoor
namespace Co
open Go.RowKit Go
set_option linter.unusedVariables false

theorem Check_r {w : World} (hE : Env w) (op a b c e : Int) (hi : Wf ⟨op, a, b, c⟩) (he : chkE ⟨op, a, b, c⟩ = e) :
    Calls Tryd.prog 13 #[.agg #[.int .i64 op, .int .i64 a, .int .i64 b, .int .i64 c]] w fun r w' => r = .returned (.int .i64 e) ∧ Kp w w' :=
  Check_c hE (Kp.refl w) op a b c e hi he
theorem size_alloc {w w1 : World} {cs : Array Value} {t : TypeId} (k : Kp (w.alloc (.cells cs t)) w1) : w.heap.size < w1.heap.size := by
  have := k.size
  simp at this
  omega

/-- A slice of ints: n = 0, or its cells. -/
structure Ics (w : World) (b off : Nat) (xs : Nat → Int) (n : Nat) : Prop where
  size : b < w.heap.size
  at' : ∀ i, i < n → w.cell? ⟨b, off + i, none⟩ = some (.int .i64 (xs i))
def IIn (w : World) (ao : Option Addr) (xs : Nat → Int) (n : Nat) : Prop := n = 0 ∨ ∃ b off, ao = some ⟨b, off, none⟩ ∧ Ics w b off xs n
theorem Ics.kp {w w' : World} {b off n : Nat} {xs : Nat → Int} (h : Ics w b off xs n) (k : Kp w w') : Ics w' b off xs n :=
  ⟨Nat.lt_of_lt_of_le h.size k.size, fun i hi => (k.cells _ _ h.size).trans (h.at' i hi)⟩
theorem IIn.kp {w w' : World} {ao : Option Addr} {xs : Nat → Int} {n : Nat} (h : IIn w ao xs n) (k : Kp w w') : IIn w' ao xs n := by
  rcases h with h | ⟨b, off, h, g⟩
  · exact .inl h
  · exact .inr ⟨b, off, h, g.kp k⟩

def effO (i : In) (n : Nat) : Bool := chk i && (decide (i.op ≠ 17) || decide (i.a < n))
def effT (i : In) (xs : Nat → Int) (n : Nat) : Int := if effO i n = true then (if i.op = 17 then xs i.a.toNat else (rowAt i.op).tk) else 0
def effG (i : In) (n : Nat) : Int := if effO i n = true then (rowAt i.op).gv else 0

set_option maxHeartbeats 1000000 in
theorem Effect_bad {w : World} (hE : Env w) (i : In) (hi : Wf i) (ao : Option Addr) (n cap : Nat) (hc : chk i = false) :
    Calls Tryd.prog 11 #[.agg #[.int .i64 i.op, .int .i64 i.a, .int .i64 i.b, .int .i64 i.c], .slice ao n cap] w fun r w' => r = .returned (.tuple #[.int .i64 0, .int .i64 0, .bool false]) ∧ Kp w w' := by
  have H := Lib.hid (chkE_no hc)
  have HI := Lib.hid hi
  clear hc hi
  go_enter Tryd.func11, Tryd.ntmps11
  go_wp2_with (go_at_call 13; refine (Check_r (hE.kept ((Kp.refl w).alloc _ _)) _ _ _ _ 2 HI.out H.out).mono ?_; rintro e w1 ⟨rfl, k1⟩)
  go_ret3
  exact ⟨rfl, ((Kp.refl w).alloc _ _).trans k1⟩
set_option maxHeartbeats 1000000 in
set_option maxRecDepth 100000 in
theorem Effect_plain {w : World} (hE : Env w) (i : In) (hi : Wf i) (ao : Option Addr) (n cap : Nat) (nm : List UInt8) (a b c tk gv : Int) (jm sp : Bool) (h : rowAt i.op = ⟨nm, a, b, c, tk, gv, jm, sp⟩) (hc : chk i = true) (ho : (i.op != 17) = true) :
    Calls Tryd.prog 11 #[.agg #[.int .i64 i.op, .int .i64 i.a, .int .i64 i.b, .int .i64 i.c], .slice ao n cap] w fun r w' => r = .returned (.tuple #[.int .i64 tk, .int .i64 gv, .bool true]) ∧ Kp w w' := by
  have H := Lib.hid (chkE_yes hc)
  have HI := Lib.hid hi
  have HR := Lib.hid h
  clear hc hi h
  go_enter Tryd.func11, Tryd.ntmps11
  go_wp2_with fail
  refine (Check_r (hE.kept ((Kp.refl w).alloc _ _)) _ _ _ _ 0 HI.out H.out).mono ?_
  rintro e w1 ⟨rfl, k1⟩
  have hc1 := k1.cells
  have hz1 := size_alloc k1
  have kk1 := ((Kp.refl w).alloc _ _).trans k1
  go_wp2_with fail
  refine (rowOf_any (hE.kept kk1).rows i.op nm a b c tk gv jm sp HR.out).mono ?_
  rintro e w2 ⟨rfl, k2⟩
  have hc2 := k2.cells
  have hz2 := Nat.lt_of_lt_of_le hz1 k2.size
  have kk2 := kk1.trans k2
  go_wp2
  go_quiet (fail)
  go_wp2
  go_ret3
  exact ⟨rfl, (kk2.alloc _ _).drewN _⟩
set_option maxHeartbeats 1000000 in
set_option maxRecDepth 100000 in
theorem Effect_far {w : World} (hE : Env w) (i : In) (hi : Wf i) (ao : Option Addr) (n cap : Nat) (hc : chk i = true) (ho : (i.op != 17) = false) (hn : (n : Int) ≤ i.a) :
    Calls Tryd.prog 11 #[.agg #[.int .i64 i.op, .int .i64 i.a, .int .i64 i.b, .int .i64 i.c], .slice ao n cap] w fun r w' => r = .returned (.tuple #[.int .i64 0, .int .i64 0, .bool false]) ∧ Kp w w' := by
  generalize hr : rowAt i.op = r
  obtain ⟨nm, a, b, c, tk, gv, jm, sp⟩ := r
  have H := Lib.hid (chkE_yes hc)
  have HI := Lib.hid hi
  have HR := Lib.hid hr
  clear hc hi hr
  go_enter Tryd.func11, Tryd.ntmps11
  go_wp2_with fail
  refine (Check_r (hE.kept ((Kp.refl w).alloc _ _)) _ _ _ _ 0 HI.out H.out).mono ?_
  rintro e w1 ⟨rfl, k1⟩
  have hc1 := k1.cells
  have hz1 := size_alloc k1
  have kk1 := ((Kp.refl w).alloc _ _).trans k1
  go_wp2_with fail
  refine (rowOf_any (hE.kept kk1).rows i.op nm a b c tk gv jm sp HR.out).mono ?_
  rintro e w2 ⟨rfl, k2⟩
  have hc2 := k2.cells
  have hz2 := Nat.lt_of_lt_of_le hz1 k2.size
  have kk2 := kk1.trans k2
  go_wp2
  go_ret3
  exact ⟨rfl, kk2.alloc _ _⟩
set_option maxHeartbeats 1000000 in
set_option maxRecDepth 100000 in
theorem Effect_call {w : World} (hE : Env w) (i : In) (hi : Wf i) (b0 off : Nat) (xs : Nat → Int) (n cap : Nat) (hv : Ics w b0 off xs n) (hc : chk i = true) (ho : (i.op != 17) = false) (h0 : 0 ≤ i.a) (hn : i.a < n) (x : Int) (hx : xs i.a.toNat = x) :
    Calls Tryd.prog 11 #[.agg #[.int .i64 i.op, .int .i64 i.a, .int .i64 i.b, .int .i64 i.c], .slice (some ⟨b0, off, none⟩) n cap] w fun r w' => r = .returned (.tuple #[.int .i64 x, .int .i64 1, .bool true]) ∧ Kp w w' := by
  have hop : i.op = 17 := by simpa using ho
  have hr : rowAt i.op = ⟨[99, 97, 108, 108], 1, 0, 0, 0, 1, false, false⟩ := by rw [hop]; rfl
  have hcell := hv.at' i.a.toNat (by omega)
  have hsz := hv.size
  rw [hx] at hcell
  have H := Lib.hid (chkE_yes hc)
  have HI := Lib.hid hi
  have HR := Lib.hid hr
  clear hc hi hr hv hop hx
  go_enter Tryd.func11, Tryd.ntmps11
  go_wp2_with fail
  refine (Check_r (hE.kept ((Kp.refl w).alloc _ _)) _ _ _ _ 0 HI.out H.out).mono ?_
  rintro e w1 ⟨rfl, k1⟩
  have hc1 := k1.cells
  have hz1 := size_alloc k1
  have kk1 := ((Kp.refl w).alloc _ _).trans k1
  go_wp2_with fail
  refine (rowOf_any (hE.kept kk1).rows i.op _ _ _ _ _ _ _ _ HR.out).mono ?_
  rintro e w2 ⟨rfl, k2⟩
  have hc2 := k2.cells
  have hz2 := Nat.lt_of_lt_of_le hz1 k2.size
  have kk2 := kk1.trans k2
  have hs2 : b0 < w2.heap.size := Nat.lt_of_lt_of_le hsz kk2.size
  have hcell2 : w2.cell? ⟨b0, off + i.a.toNat, none⟩ = some (.int .i64 x) := (kk2.cells _ _ hsz).trans hcell
  clear hcell
  go_wp2
  go_quiet (fail)
  go_wp2
  go_ret3
  exact ⟨rfl, (kk2.alloc _ _).drewN _⟩
theorem chk_call {i : In} (hc : chk i = true) (ho : i.op = 17) : 0 ≤ i.a := by
  have := (chk_parts hc).2.1
  rw [ho] at this
  have e : (rowAt 17).a = 1 := rfl
  rw [e, alw_1] at this
  simp at this
  omega
theorem Effect_any {w : World} (hE : Env w) (i : In) (hi : Wf i) (ao : Option Addr) (n cap : Nat) (xs : Nat → Int) (hv : IIn w ao xs n) (t g : Int) (o : Bool) (ht : effT i xs n = t) (hg : effG i n = g) (hO : effO i n = o) :
    Calls Tryd.prog 11 #[.agg #[.int .i64 i.op, .int .i64 i.a, .int .i64 i.b, .int .i64 i.c], .slice ao n cap] w fun r w' => r = .returned (.tuple #[.int .i64 t, .int .i64 g, .bool o]) ∧ Kp w w' := by
  cases hc : chk i with
  | false =>
    have e : effO i n = false := by unfold effO; rw [hc]; rfl
    have e1 : effT i xs n = 0 := by unfold effT; rw [e]; rfl
    have e2 : effG i n = 0 := by unfold effG; rw [e]; rfl
    rw [← ht, ← hg, ← hO, e, e1, e2]
    exact Effect_bad hE i hi ao n cap hc
  | true =>
    by_cases ho : i.op = 17
    · have h0 := chk_call hc ho
      by_cases hn : i.a < n
      · have e : effO i n = true := by unfold effO; rw [hc]; simp [hn]
        have e1 : effT i xs n = xs i.a.toNat := by unfold effT; rw [if_pos e, if_pos ho]
        have e2 : effG i n = 1 := by unfold effG; rw [if_pos e, ho]; rfl
        rw [← ht, ← hg, ← hO, e, e1, e2]
        rcases hv with hv | ⟨b, off, rfl, hv⟩
        · omega
        · exact Effect_call hE i hi b off xs n cap hv hc (by simp [ho]) h0 hn _ rfl
      · have e : effO i n = false := by unfold effO; rw [hc]; simp [ho]; omega
        have e1 : effT i xs n = 0 := by unfold effT; rw [e]; rfl
        have e2 : effG i n = 0 := by unfold effG; rw [e]; rfl
        rw [← ht, ← hg, ← hO, e, e1, e2]
        exact Effect_far hE i hi ao n cap hc (by simp [ho]) (by omega)
    · have e : effO i n = true := by unfold effO; rw [hc]; simp [ho]
      have e1 : effT i xs n = (rowAt i.op).tk := by unfold effT; rw [if_pos e, if_neg ho]
      have e2 : effG i n = (rowAt i.op).gv := by unfold effG; rw [if_pos e]
      rw [← ht, ← hg, ← hO, e, e1, e2]
      generalize hr : rowAt i.op = r
      obtain ⟨nm, a, b, c, tk, gv, jm, sp⟩ := r
      exact Effect_plain hE i hi ao n cap nm a b c tk gv jm sp hr hc (by simpa using ho)

def jmpT (i : In) : Int := if (chk i && (rowAt i.op).jm) = true then i.a else 0
def jmpJ (i : In) : Bool := chk i && (rowAt i.op).jm
def jmpO (i : In) : Bool := chk i && !(rowAt i.op).sp
set_option maxHeartbeats 1000000 in
theorem Jumps_bad {w : World} (hE : Env w) (i : In) (hi : Wf i) (hc : chk i = false) :
    Calls Tryd.prog 10 #[.agg #[.int .i64 i.op, .int .i64 i.a, .int .i64 i.b, .int .i64 i.c]] w fun r w' => r = .returned (.tuple #[.int .i64 0, .bool false, .bool false]) ∧ Kp w w' := by
  have H := Lib.hid (chkE_no hc)
  have HI := Lib.hid hi
  clear hc hi
  go_enter Tryd.func10, Tryd.ntmps10
  go_wp2_with (go_at_call 13; refine (Check_r (hE.kept ((Kp.refl w).alloc _ _)) _ _ _ _ 2 HI.out H.out).mono ?_; rintro e w1 ⟨rfl, k1⟩)
  go_ret3
  exact ⟨rfl, ((Kp.refl w).alloc _ _).trans k1⟩
set_option maxHeartbeats 1000000 in
set_option maxRecDepth 100000 in
theorem Jumps_good {w : World} (hE : Env w) (i : In) (hi : Wf i) (nm : List UInt8) (a b c tk gv : Int) (jm sp : Bool) (h : rowAt i.op = ⟨nm, a, b, c, tk, gv, jm, sp⟩) (hc : chk i = true) :
    Calls Tryd.prog 10 #[.agg #[.int .i64 i.op, .int .i64 i.a, .int .i64 i.b, .int .i64 i.c]] w fun r w' => r = .returned (.tuple #[.int .i64 (if jm = true then i.a else 0), .bool jm, .bool (!sp)]) ∧ Kp w w' := by
  have H := Lib.hid (chkE_yes hc)
  have HI := Lib.hid hi
  have HR := Lib.hid h
  clear hc hi h
  cases jm
  all_goals
    go_enter Tryd.func10, Tryd.ntmps10
    go_wp2_with fail
    refine (Check_r (hE.kept ((Kp.refl w).alloc _ _)) _ _ _ _ 0 HI.out H.out).mono ?_
    rintro e w1 ⟨rfl, k1⟩
    have hc1 := k1.cells
    have hz1 := size_alloc k1
    have kk1 := ((Kp.refl w).alloc _ _).trans k1
    go_wp2_with fail
    refine (rowOf_any (hE.kept kk1).rows i.op nm a b c tk gv _ sp HR.out).mono ?_
    rintro e w2 ⟨rfl, k2⟩
    have hc2 := k2.cells
    have hz2 := Nat.lt_of_lt_of_le hz1 k2.size
    have kk2 := kk1.trans k2
    go_wp2
    go_quiet (fail)
    go_wp2
    go_ret3
    exact ⟨rfl, (kk2.alloc _ _).drewN _⟩
theorem Jumps_any {w : World} (hE : Env w) (i : In) (hi : Wf i) (t : Int) (j o : Bool) (ht : jmpT i = t) (hj : jmpJ i = j) (hO : jmpO i = o) :
    Calls Tryd.prog 10 #[.agg #[.int .i64 i.op, .int .i64 i.a, .int .i64 i.b, .int .i64 i.c]] w fun r w' => r = .returned (.tuple #[.int .i64 t, .bool j, .bool o]) ∧ Kp w w' := by
  rw [← ht, ← hj, ← hO]
  unfold jmpT jmpJ jmpO
  cases hc : chk i with
  | false => exact Jumps_bad hE i hi hc
  | true =>
    generalize hr : rowAt i.op = r
    obtain ⟨nm, a, b, c, tk, gv, jm, sp⟩ := r
    exact Jumps_good hE i hi nm a b c tk gv jm sp hr hc
end Co
end Go.Proofs.YtehmpakcfahmaaaDoor
