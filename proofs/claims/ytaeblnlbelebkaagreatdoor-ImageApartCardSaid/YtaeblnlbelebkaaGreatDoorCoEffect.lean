/-
  WALKS: package code, Jumps. Own work.
-/
import Derived.Test.YtaeblnlbelebkaaGreatDoorCoCheck
namespace Go.Proofs.YtaeblnlbelebkaaGreatDoor
namespace Co
open Go.RowKit Go
set_option linter.unusedVariables false

theorem Check_r {w : World} (hE : Env w) (op a b c e : Int) (hi : Wf ⟨op, a, b, c⟩) (he : chkE ⟨op, a, b, c⟩ = e) :
    Calls Tryz.prog 89 #[.agg #[.int .i64 op, .int .i64 a, .int .i64 b, .int .i64 c]] w fun r w' => r = .returned (.int .i64 e) ∧ Kp w w' :=
  Check_c hE (Kp.refl w) op a b c e hi he
theorem size_alloc {w w1 : World} {cs : Array Value} {t : TypeId} (k : Kp (w.alloc (.cells cs t)) w1) : w.heap.size < w1.heap.size := by
  have := k.size
  simp at this
  omega

/-- A slice of ints: n = 0, or its cells. -/
structure Ics (w : World) (b off : Nat) (xs : Nat → Int) (n : Nat) : Prop where
  size : b < w.heap.size
  at' : ∀ i, i < n → w.cell? ⟨b, off + i, none⟩ = some (.int .i64 (xs i))
def IIn (w : World) (ao : Option Addr) (xs : Nat → Int) (n : Nat) : Prop := n = 0 ∨ ∃ b off, ao = some ⟨b, off, none⟩ ∧ Ics w b off xs n
theorem Ics.kp {w w' : World} {b off n : Nat} {xs : Nat → Int} (h : Ics w b off xs n) (k : Kp w w') : Ics w' b off xs n :=
  ⟨Nat.lt_of_lt_of_le h.size k.size, fun i hi => (k.cells _ _ h.size).trans (h.at' i hi)⟩
theorem IIn.kp {w w' : World} {ao : Option Addr} {xs : Nat → Int} {n : Nat} (h : IIn w ao xs n) (k : Kp w w') : IIn w' ao xs n := by
  rcases h with h | ⟨b, off, h, g⟩
  · exact .inl h
  · exact .inr ⟨b, off, h, g.kp k⟩

def jmpT (i : In) : Int := if (chk i && (rowAt i.op).jm) = true then i.a else 0
def jmpJ (i : In) : Bool := chk i && (rowAt i.op).jm
def jmpO (i : In) : Bool := chk i && !(rowAt i.op).sp
set_option maxHeartbeats 1000000 in
theorem Jumps_bad {w : World} (hE : Env w) (i : In) (hi : Wf i) (hc : chk i = false) :
    Calls Tryz.prog 107 #[.agg #[.int .i64 i.op, .int .i64 i.a, .int .i64 i.b, .int .i64 i.c]] w fun r w' => r = .returned (.tuple #[.int .i64 0, .bool false, .bool false]) ∧ Kp w w' := by
  have H := Lib.hid (chkE_no hc)
  have HI := Lib.hid hi
  clear hc hi
  go_enter Tryz.func107, Tryz.ntmps107
  go_wp2_with (go_at_call 89; refine (Check_r (hE.kept ((Kp.refl w).alloc _ _)) _ _ _ _ 2 HI.out H.out).mono ?_; rintro e w1 ⟨rfl, k1⟩)
  go_ret3
  exact ⟨rfl, ((Kp.refl w).alloc _ _).trans k1⟩
set_option maxHeartbeats 1000000 in
set_option maxRecDepth 100000 in
theorem Jumps_good {w : World} (hE : Env w) (i : In) (hi : Wf i) (nm : List UInt8) (a b c tk gv : Int) (jm sp : Bool) (h : rowAt i.op = ⟨nm, a, b, c, tk, gv, jm, sp⟩) (hc : chk i = true) :
    Calls Tryz.prog 107 #[.agg #[.int .i64 i.op, .int .i64 i.a, .int .i64 i.b, .int .i64 i.c]] w fun r w' => r = .returned (.tuple #[.int .i64 (if jm = true then i.a else 0), .bool jm, .bool (!sp)]) ∧ Kp w w' := by
  have H := Lib.hid (chkE_yes hc)
  have HI := Lib.hid hi
  have HR := Lib.hid h
  clear hc hi h
  cases jm
  all_goals
    go_enter Tryz.func107, Tryz.ntmps107
    go_wp2_with fail
    refine (Check_r (hE.kept ((Kp.refl w).alloc _ _)) _ _ _ _ 0 HI.out H.out).mono ?_
    rintro e w1 ⟨rfl, k1⟩
    have hc1 := k1.cells
    have hz1 := size_alloc k1
    have kk1 := ((Kp.refl w).alloc _ _).trans k1
    go_wp2_with fail
    refine (rowOf_any (hE.kept kk1).rows i.op nm a b c tk gv _ sp HR.out).mono ?_
    rintro e w2 ⟨rfl, k2⟩
    have hc2 := k2.cells
    have hz2 := Nat.lt_of_lt_of_le hz1 k2.size
    have kk2 := kk1.trans k2
    go_wp2
    go_quiet (fail)
    go_wp2
    go_ret3
    exact ⟨rfl, (kk2.alloc _ _).drewN _⟩
theorem Jumps_any {w : World} (hE : Env w) (i : In) (hi : Wf i) (t : Int) (j o : Bool) (ht : jmpT i = t) (hj : jmpJ i = j) (hO : jmpO i = o) :
    Calls Tryz.prog 107 #[.agg #[.int .i64 i.op, .int .i64 i.a, .int .i64 i.b, .int .i64 i.c]] w fun r w' => r = .returned (.tuple #[.int .i64 t, .bool j, .bool o]) ∧ Kp w w' := by
  rw [← ht, ← hj, ← hO]
  unfold jmpT jmpJ jmpO
  cases hc : chk i with
  | false => exact Jumps_bad hE i hi hc
  | true =>
    generalize hr : rowAt i.op = r
    obtain ⟨nm, a, b, c, tk, gv, jm, sp⟩ := r
    exact Jumps_good hE i hi nm a b c tk gv jm sp hr hc
end Co
end Go.Proofs.YtaeblnlbelebkaaGreatDoor
