/-
  WALKS: package image, what a reader takes: a function, a vector, an instruction, a port, a word. Own work.
-/
import Derived.Test.YtaeblnlbelebkaaGreatDoorImNum
namespace Go.Proofs.YtaeblnlbelebkaaGreatDoor
namespace Im
open Go.RowKit Go
open Co (Kp ret_int ret_bool ret2_int In in0 IIn Ics Wf)
open Ln (VIn Vcs)
set_option linter.unusedVariables false

/-- A block of a call's own: it may be written. -/
structure Mine (w : World) (B n : Nat) (v : Nat → Value) : Prop where
  size : B < w.heap.size
  at' : ∀ i, i < n → w.cell? ⟨B, i, none⟩ = some (v i)
  fro : ∀ o, w.frozen? ⟨B, o, none⟩ = false
theorem Mine.new (w : World) (cs : Array Value) (T : TypeId) (n : Nat) (v : Nat → Value) (h : ∀ i, i < n → cs[i]? = some (v i)) : Mine (w.alloc (.cells cs T)) w.heap.size n v :=
  ⟨by simp, fun i hi => by rw [new_alloc (Kp.refl _) i]; exact h i hi, fun o => by simp⟩
theorem Mine.kp {w w' : World} {B n : Nat} {v : Nat → Value} (h : Mine w B n v) (k : Kp w w') : Mine w' B n v :=
  ⟨Nat.lt_of_lt_of_le h.size k.size, fun i hi => (k.cells _ _ h.size).trans (h.at' i hi), fun o => (k.fros _ _ h.size).trans (h.fro o)⟩
theorem Mine.gx {w w' : World} {B n R : Nat} {v : Nat → Value} (h : Mine w B n v) (k : Gx R w w') (hR : B ≠ R) : Mine w' B n v :=
  ⟨Nat.lt_of_lt_of_le h.size k.size, fun i hi => (k.cell h.size hR).trans (h.at' i hi), fun o => (World.frozen?_of_block (w := w) (a := ⟨B, o, none⟩) (k.block B h.size hR)).trans (h.fro o)⟩
theorem zero3 : ∀ i, i < 3 → (#[Value.int .i64 0, .int .i64 0, .int .i64 0] : Array Value)[i]? = some (.int .i64 0) := fun i hi => by
  match i, hi with
  | 0, _ => rfl
  | 1, _ => rfl
  | 2, _ => rfl
set_option maxHeartbeats 1000000 in
set_option maxRecDepth 100000 in
theorem function_any {w : World} {R : Nat} {s : Rd} (h : RdIn w R s) (x : Fn) (t : Rd) (hx : fnE.v s = x) (ht : fnE.r s = t) :
    Calls Tryz.prog 65 #[.pointer (some ⟨R, 0, none⟩)] w fun e w' => e = .returned (.agg #[.int .i64 x.e, .int .i64 x.p, .int .i64 x.l]) ∧ Rdd w R t w' := by
  subst hx ht
  have hsz := h.size
  have K0 : Kp w ((w.alloc (.cells #[.int .i64 0, .int .i64 0, .int .i64 0] 69)).alloc (.cells #[.int .i64 0, .int .i64 0, .int .i64 0] 69)) := ((Kp.refl w).alloc _ _).alloc _ _
  have M1 := (Mine.new w #[.int .i64 0, .int .i64 0, .int .i64 0] 69 3 _ zero3).kp ((Kp.refl _).alloc #[.int .i64 0, .int .i64 0, .int .i64 0] 69)
  have M2 : Mine ((w.alloc (.cells #[.int .i64 0, .int .i64 0, .int .i64 0] 69)).alloc (.cells #[.int .i64 0, .int .i64 0, .int .i64 0] 69)) (w.heap.size + 1) 3 (fun _ => .int .i64 0) := by
    have := Mine.new (w.alloc (.cells #[.int .i64 0, .int .i64 0, .int .i64 0] 69)) #[.int .i64 0, .int .i64 0, .int .i64 0] 69 3 _ zero3
    simpa using this
  have R0 := Lib.hid (rdd_kp h K0)
  clear h
  unfold fnE
  simp only
  go_enter Tryz.func65, Tryz.ntmps65
  go_wp2_with fail
  revert K0 M1 M2 R0
  generalize (w.alloc _).alloc _ = w0
  intro K0 M1 M2 R0
  refine (number_any R0.out.rd).mono ?_
  rintro e w1 ⟨rfl, h1⟩
  have R1 := Lib.hid (R0.out.trans h1)
  have N1 := M1.gx h1.gx (by omega)
  have N2 := M2.gx h1.gx (by omega)
  clear M1 M2 R0 h1
  go_wp2_with fail
  refine (number_any R1.out.rd).mono ?_
  rintro e w2 ⟨rfl, h2⟩
  have R2 := Lib.hid (R1.out.trans h2)
  have M1 := N1.gx h2.gx (by omega)
  have M2 := N2.gx h2.gx (by omega)
  clear N1 N2 R1 h2
  go_wp2_with fail
  refine (number_any R2.out.rd).mono ?_
  rintro e w3 ⟨rfl, h3⟩
  have R3 := Lib.hid (R2.out.trans h3)
  have N1 := M1.gx h3.gx (by omega)
  have N2 := M2.gx h3.gx (by omega)
  clear M1 M2 R2 h3
  have a0 := N1.at' 0 (by omega)
  have a1 := N1.at' 1 (by omega)
  have a2 := N1.at' 2 (by omega)
  have b0 := N2.at' 0 (by omega)
  have b1 := N2.at' 1 (by omega)
  have b2 := N2.at' 2 (by omega)
  have fa0 := N1.fro 0
  have fa1 := N1.fro 1
  have fa2 := N1.fro 2
  have fb0 := N2.fro 0
  have fb1 := N2.fro 1
  have fb2 := N2.fro 2
  have sa := N1.size
  have sb := N2.size
  clear N1 N2
  go_wp2
  refine bodyPost_ret (v := .agg #[.int .i64 (nmV s), .int .i64 (nmV (nmR s)), .int .i64 (nmV (nmR (nmR s)))]) ?_ rfl ⟨rfl, ?_⟩
  · simp [results, Tryz.results65, go_sem, *]
  · repeat (refine Rdd.set ?_ (by omega) hsz _ _)
    exact R3.out
/- more -/
theorem zero4 : ∀ i, i < 4 → (#[Value.int .i64 0, .int .i64 0, .int .i64 0, .int .i64 0] : Array Value)[i]? = some (.int .i64 0) := fun i hi => by
  match i, hi with
  | 0, _ => rfl
  | 1, _ => rfl
  | 2, _ => rfl
  | 3, _ => rfl
set_option maxHeartbeats 1000000 in
set_option maxRecDepth 100000 in
theorem vector_any {w : World} {R : Nat} {s : Rd} (h : RdIn w R s) (x : Ln.Vc) (t : Rd) (hx : vcE.v s = x) (ht : vcE.r s = t) :
    Calls Tryz.prog 67 #[.pointer (some ⟨R, 0, none⟩)] w fun e w' => e = .returned (.agg #[.int .i64 x.l, .int .i64 x.p, .int .i64 x.f]) ∧ Rdd w R t w' := by
  subst hx ht
  have hsz := h.size
  have K0 : Kp w ((w.alloc (.cells #[.int .i64 0, .int .i64 0, .int .i64 0] 71)).alloc (.cells #[.int .i64 0, .int .i64 0, .int .i64 0] 71)) := ((Kp.refl w).alloc _ _).alloc _ _
  have M1 := (Mine.new w #[.int .i64 0, .int .i64 0, .int .i64 0] 71 3 _ zero3).kp ((Kp.refl _).alloc #[.int .i64 0, .int .i64 0, .int .i64 0] 71)
  have M2 : Mine ((w.alloc (.cells #[.int .i64 0, .int .i64 0, .int .i64 0] 71)).alloc (.cells #[.int .i64 0, .int .i64 0, .int .i64 0] 71)) (w.heap.size + 1) 3 (fun _ => .int .i64 0) := by
    have := Mine.new (w.alloc (.cells #[.int .i64 0, .int .i64 0, .int .i64 0] 71)) #[.int .i64 0, .int .i64 0, .int .i64 0] 71 3 _ zero3
    simpa using this
  have R0 := Lib.hid (rdd_kp h K0)
  clear h
  unfold vcE
  simp only
  go_enter Tryz.func67, Tryz.ntmps67
  go_wp2_with fail
  revert K0 M1 M2 R0
  generalize (w.alloc _).alloc _ = w0
  intro K0 M1 M2 R0
  refine (number_any R0.out.rd).mono ?_
  rintro e w1 ⟨rfl, h1⟩
  have R1 := Lib.hid (R0.out.trans h1)
  have N1 := M1.gx h1.gx (by omega)
  have N2 := M2.gx h1.gx (by omega)
  clear M1 M2 R0 h1
  go_wp2_with fail
  refine (number_any R1.out.rd).mono ?_
  rintro e w2 ⟨rfl, h2⟩
  have R2 := Lib.hid (R1.out.trans h2)
  have M1 := N1.gx h2.gx (by omega)
  have M2 := N2.gx h2.gx (by omega)
  clear N1 N2 R1 h2
  go_wp2_with fail
  refine (number_any R2.out.rd).mono ?_
  rintro e w3 ⟨rfl, h3⟩
  have R3 := Lib.hid (R2.out.trans h3)
  have N1 := M1.gx h3.gx (by omega)
  have N2 := M2.gx h3.gx (by omega)
  clear M1 M2 R2 h3
  have a0 := N1.at' 0 (by omega)
  have a1 := N1.at' 1 (by omega)
  have a2 := N1.at' 2 (by omega)
  have b0 := N2.at' 0 (by omega)
  have b1 := N2.at' 1 (by omega)
  have b2 := N2.at' 2 (by omega)
  have fa0 := N1.fro 0
  have fa1 := N1.fro 1
  have fa2 := N1.fro 2
  have fb0 := N2.fro 0
  have fb1 := N2.fro 1
  have fb2 := N2.fro 2
  have sa := N1.size
  have sb := N2.size
  clear N1 N2
  go_wp2
  refine bodyPost_ret (v := .agg #[.int .i64 (nmV s), .int .i64 (nmV (nmR s)), .int .i64 (nmV (nmR (nmR s)))]) ?_ rfl ⟨rfl, ?_⟩
  · simp [results, Tryz.results67, go_sem, *]
  · repeat (refine Rdd.set ?_ (by omega) hsz _ _)
    exact R3.out
set_option maxHeartbeats 1000000 in
set_option maxRecDepth 100000 in
theorem instruction_any {w : World} {R : Nat} {s : Rd} (h : RdIn w R s) (x : In) (t : Rd) (hx : inE.v s = x) (ht : inE.r s = t) :
    Calls Tryz.prog 76 #[.pointer (some ⟨R, 0, none⟩)] w fun e w' => e = .returned (.agg #[.int .i64 x.op, .int .i64 x.a, .int .i64 x.b, .int .i64 x.c]) ∧ Rdd w R t w' := by
  subst hx ht
  have hsz := h.size
  have K0 : Kp w ((w.alloc (.cells #[.int .i64 0, .int .i64 0, .int .i64 0, .int .i64 0] 55)).alloc (.cells #[.int .i64 0, .int .i64 0, .int .i64 0, .int .i64 0] 55)) := ((Kp.refl w).alloc _ _).alloc _ _
  have M1 := (Mine.new w #[.int .i64 0, .int .i64 0, .int .i64 0, .int .i64 0] 55 4 _ zero4).kp ((Kp.refl _).alloc #[.int .i64 0, .int .i64 0, .int .i64 0, .int .i64 0] 55)
  have M2 : Mine ((w.alloc (.cells #[.int .i64 0, .int .i64 0, .int .i64 0, .int .i64 0] 55)).alloc (.cells #[.int .i64 0, .int .i64 0, .int .i64 0, .int .i64 0] 55)) (w.heap.size + 1) 4 (fun _ => .int .i64 0) := by
    have := Mine.new (w.alloc (.cells #[.int .i64 0, .int .i64 0, .int .i64 0, .int .i64 0] 55)) #[.int .i64 0, .int .i64 0, .int .i64 0, .int .i64 0] 55 4 _ zero4
    simpa using this
  have R0 := Lib.hid (rdd_kp h K0)
  clear h
  unfold inE
  simp only
  go_enter Tryz.func76, Tryz.ntmps76
  go_wp2_with fail
  revert K0 M1 M2 R0
  generalize (w.alloc _).alloc _ = w0
  intro K0 M1 M2 R0
  refine (number_any R0.out.rd).mono ?_
  rintro e w1 ⟨rfl, h1⟩
  have R1 := Lib.hid (R0.out.trans h1)
  have N1 := M1.gx h1.gx (by omega)
  have N2 := M2.gx h1.gx (by omega)
  clear M1 M2 R0 h1
  go_wp2_with fail
  refine (number_any R1.out.rd).mono ?_
  rintro e w2 ⟨rfl, h2⟩
  have R2 := Lib.hid (R1.out.trans h2)
  have M1 := N1.gx h2.gx (by omega)
  have M2 := N2.gx h2.gx (by omega)
  clear N1 N2 R1 h2
  go_wp2_with fail
  refine (number_any R2.out.rd).mono ?_
  rintro e w3 ⟨rfl, h3⟩
  have R3 := Lib.hid (R2.out.trans h3)
  have N1 := M1.gx h3.gx (by omega)
  have N2 := M2.gx h3.gx (by omega)
  clear M1 M2 R2 h3
  go_wp2_with fail
  refine (number_any R3.out.rd).mono ?_
  rintro e w4 ⟨rfl, h4⟩
  have R4 := Lib.hid (R3.out.trans h4)
  have M1 := N1.gx h4.gx (by omega)
  have M2 := N2.gx h4.gx (by omega)
  clear N1 N2 R3 h4
  have N1 := M1
  have N2 := M2
  clear M1 M2
  have a0 := N1.at' 0 (by omega)
  have a1 := N1.at' 1 (by omega)
  have a2 := N1.at' 2 (by omega)
  have a3 := N1.at' 3 (by omega)
  have b3 := N2.at' 3 (by omega)
  have fa3 := N1.fro 3
  have fb3 := N2.fro 3
  have b0 := N2.at' 0 (by omega)
  have b1 := N2.at' 1 (by omega)
  have b2 := N2.at' 2 (by omega)
  have fa0 := N1.fro 0
  have fa1 := N1.fro 1
  have fa2 := N1.fro 2
  have fb0 := N2.fro 0
  have fb1 := N2.fro 1
  have fb2 := N2.fro 2
  have sa := N1.size
  have sb := N2.size
  clear N1 N2
  go_wp2
  refine bodyPost_ret (v := .agg #[.int .i64 (nmV s), .int .i64 (nmV (nmR s)), .int .i64 (nmV (nmR (nmR s))), .int .i64 (nmV (nmR (nmR (nmR s))))]) ?_ rfl ⟨rfl, ?_⟩
  · simp [results, Tryz.results76, go_sem, *]
  · repeat (refine Rdd.set ?_ (by omega) hsz _ _)
    exact R4.out
theorem word_any {w : World} {R : Nat} {s : Rd} (h : RdIn w R s) :
    Calls Tryz.prog 70 #[.pointer (some ⟨R, 0, none⟩)] w fun e w' => e = .returned (.int .u32 (nmV s)) ∧ Rdd w R (nmR s) w' := by
  have HN := Lib.hid (number_any h)
  have hb := nmV_bd s
  have hb' : (nmV s : Int) ≤ 4294967295 := by omega
  generalize nmV s = q at *
  generalize nmR s = t at *
  clear h hb
  go_enter Tryz.func70, Tryz.ntmps70
  go_wp2_with fail
  refine HN.out.mono ?_
  rintro e w1 ⟨rfl, h1⟩
  go_wp2
  go_ret
  exact ⟨rfl, h1⟩
theorem zero2 : ∀ i, i < 2 → (#[Value.bool false, .bool false] : Array Value)[i]? = some (.bool false) := fun i hi => by
  match i, hi with
  | 0, _ => rfl
  | 1, _ => rfl
theorem and_one : ∀ n : Fin 4, (bits .and .i64 (n.val : Int) 1 != 0) = decide (n.val % 2 = 1) := by decide +kernel
theorem and_two : ∀ n : Fin 4, (bits .and .i64 (n.val : Int) 2 != 0) = decide (2 ≤ n.val) := by decide +kernel
set_option maxHeartbeats 1000000 in
set_option maxRecDepth 100000 in
theorem port_any {w : World} {R : Nat} {s : Rd} (h : RdIn w R s) (x : Pt) (t : Rd) (hx : ptE.v s = x) (ht : ptE.r s = t) :
    Calls Tryz.prog 72 #[.pointer (some ⟨R, 0, none⟩)] w fun e w' => e = .returned (.agg #[.bool x.r, .bool x.w]) ∧ Rdd w R t w' := by
  subst hx ht
  have hsz := h.size
  have K0 : Kp w (w.alloc (.cells #[.bool false, .bool false] 74)) := (Kp.refl w).alloc _ _
  have M1 := Mine.new w #[.bool false, .bool false] 74 2 _ zero2
  have R0 := Lib.hid (rdd_kp h K0)
  have hub := upV_bd 3 s
  clear h
  unfold ptE ptOf
  simp only
  go_enter Tryz.func72, Tryz.ntmps72
  go_wp2_with fail
  revert K0 M1 R0
  generalize w.alloc _ = w0
  intro K0 M1 R0
  refine (upTo_any R0.out.rd 3).mono ?_
  rintro e w1 ⟨rfl, h1⟩
  have R1 := Lib.hid (R0.out.trans h1)
  have N1 := M1.gx h1.gx (by omega)
  clear M1 R0 h1
  have a0 := N1.at' 0 (by omega)
  have a1 := N1.at' 1 (by omega)
  have fa0 := N1.fro 0
  have fa1 := N1.fro 1
  have sa := N1.size
  clear N1
  generalize hq : upV 3 s = q at *
  have HQ := Lib.hid hq
  clear hq
  have b1 := and_one ⟨q, by omega⟩
  have b2 := and_two ⟨q, by omega⟩
  simp only at b1 b2
  generalize hc1 : decide (q % 2 = 1) = c1 at *
  generalize hc2 : decide (2 ≤ q) = c2 at *
  have HC1 := Lib.hid hc1
  have HC2 := Lib.hid hc2
  clear hc1 hc2
  go_wp2
  refine bodyPost_ret (v := .agg #[.bool c1, .bool c2]) ?_ rfl ⟨by rw [HQ.out, HC1.out, HC2.out], ?_⟩
  · simp [results, Tryz.results72, go_sem, *]
  · repeat (refine Rdd.set ?_ (by omega) hsz _ _)
    exact R1.out
end Im
end Go.Proofs.YtaeblnlbelebkaaGreatDoor
