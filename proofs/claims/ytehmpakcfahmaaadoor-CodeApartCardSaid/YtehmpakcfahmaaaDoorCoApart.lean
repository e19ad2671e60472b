/-
  WALK: the statement CodeApart. Own work.
-/
import Derived.Test.YtehmpakcfahmaaaDoorCoBack
import Derived.Deep.RegionHeld3
namespace Go.Proofs.YtehmpakcfahmaaaDoor
namespace Co
open Go.RowKit Go
set_option linter.unusedVariables false

/-- Text, beside two instructions in blocks of one's own. -/
theorem Text_s {w0 w : World} (hE : Env w0) {I J : Nat} {a b c d a' b' c' d' : Int} (h : Kp w0 w ∧ I < w.heap.size ∧ w.cell? ⟨I, 0, none⟩ = some (.int .i64 a) ∧ w.cell? ⟨I, 1, none⟩ = some (.int .i64 b) ∧ w.cell? ⟨I, 2, none⟩ = some (.int .i64 c) ∧ w.cell? ⟨I, 3, none⟩ = some (.int .i64 d) ∧ J < w.heap.size ∧ w.cell? ⟨J, 0, none⟩ = some (.int .i64 a') ∧ w.cell? ⟨J, 1, none⟩ = some (.int .i64 b') ∧ w.cell? ⟨J, 2, none⟩ = some (.int .i64 c') ∧ w.cell? ⟨J, 3, none⟩ = some (.int .i64 d')) (p q r s : Int) (hi : Wf ⟨p, q, r, s⟩) (t : List UInt8) (ht : txt ⟨p, q, r, s⟩ = t) :
    Calls Tryd.prog 19 #[.agg #[.int .i64 p, .int .i64 q, .int .i64 r, .int .i64 s]] w fun e w' => e = .returned (.string (bytesOf t)) ∧ (Kp w0 w' ∧ I < w'.heap.size ∧ w'.cell? ⟨I, 0, none⟩ = some (.int .i64 a) ∧ w'.cell? ⟨I, 1, none⟩ = some (.int .i64 b) ∧ w'.cell? ⟨I, 2, none⟩ = some (.int .i64 c) ∧ w'.cell? ⟨I, 3, none⟩ = some (.int .i64 d) ∧ J < w'.heap.size ∧ w'.cell? ⟨J, 0, none⟩ = some (.int .i64 a') ∧ w'.cell? ⟨J, 1, none⟩ = some (.int .i64 b') ∧ w'.cell? ⟨J, 2, none⟩ = some (.int .i64 c') ∧ w'.cell? ⟨J, 3, none⟩ = some (.int .i64 d')) := by
  obtain ⟨hk, s1, g0, g1, g2, g3, s2, h0, h1, h2, h3⟩ := h
  exact (Text_k hE hk p q r s hi t ht).mono fun _ _ ⟨h, k⟩ => ⟨h, hk.trans k, Nat.lt_of_lt_of_le s1 k.size, (k.cells _ _ s1).trans g0, (k.cells _ _ s1).trans g1, (k.cells _ _ s1).trans g2, (k.cells _ _ s1).trans g3,
    Nat.lt_of_lt_of_le s2 k.size, (k.cells _ _ s2).trans h0, (k.cells _ _ s2).trans h1, (k.cells _ _ s2).trans h2, (k.cells _ _ s2).trans h3⟩

set_option maxHeartbeats 4000000 in
set_option maxRecDepth 100000 in
theorem apart_good (op x y z op' x' y' z' : Int) (w : World) (hE : Env w) (hi : Wf ⟨op, x, y, z⟩) (hj : Wf ⟨op', x', y', z'⟩) (hc : chk ⟨op, x, y, z⟩ = true) (hd : chk ⟨op', x', y', z'⟩ = true) (t t' : List UInt8) (ht : txt ⟨op, x, y, z⟩ = t) (ht' : txt ⟨op', x', y', z'⟩ = t')
    (e : Bool) (he : (op == op' && (x == x' && (y == y' && z == z'))) = e) (hte : (t == t') = e) :
    Calls Tryd.prog 6 #[.agg #[.int .i64 op, .int .i64 x, .int .i64 y, .int .i64 z], .agg #[.int .i64 op', .int .i64 x', .int .i64 y', .int .i64 z']] w (Yes w) := by
  have HI := Lib.hid hi
  have HJ := Lib.hid hj
  have HC := Lib.hid (chkE_yes hc)
  have HD := Lib.hid (chkE_yes hd)
  have HT := Lib.hid ht
  have HT' := Lib.hid ht'
  have ie : ∀ W, (binOp .eql 27 (.agg #[.int .i64 op, .int .i64 x, .int .i64 y, .int .i64 z]) (.agg #[.int .i64 op', .int .i64 x', .int .i64 y', .int .i64 z'])).run Tryd.prog W = .ok (.bool e) W := fun W => ins_eq _ _ _ _ _ _ _ _ W e he
  have ig := ins_guard
  have hb : ((bytesOf t).toList == (bytesOf t').toList) = e := by rw [bytesOf_toList, bytesOf_toList]; exact hte
  have HIE := Lib.hid ie
  have HB := Lib.hid hb
  clear hi hj hc hd ht ht' he hte ie hb
  go_enter Tryd.func6, Tryd.ntmps6
  go_wp2_with fail
  refine (lives_k hE (((Kp.refl w).alloc _ _).alloc _ _)).mono ?_
  rintro r w1 ⟨rfl, k1⟩
  have K1 := (((Kp.refl w).alloc _ _).alloc _ _).trans k1
  have bi1 := ((Box.new w op x y z).kp ((Kp.refl _).alloc _ _)).kp k1
  have bj1 : Box w1 (w.heap.size + 1) op' x' y' z' := by
    have := (Box.new (w.alloc (.cells #[.int .i64 op, .int .i64 x, .int .i64 y, .int .i64 z] 27)) op' x' y' z').kp k1
    simpa using this
  clear k1
  have b1 := bi1
  have b2 := bj1
  obtain ⟨si, i0, i1, i2, i3, iu⟩ := bi1
  obtain ⟨sj, j0, j1, j2, j3, ju⟩ := bj1
  go_wp2_with fail
  refine (Check_k hE K1 op x y z 0 HI.out HC.out).mono ?_
  rintro r w2 ⟨rfl, k2⟩
  have K2 := K1.trans k2
  have bi2 := b1.kp k2
  have bj2 := b2.kp k2
  have c1 := bi2
  have c2 := bj2
  clear b1 b2 K1 k2 si i0 i1 i2 i3 iu sj j0 j1 j2 j3 ju
  obtain ⟨si, i0, i1, i2, i3, iu⟩ := bi2
  obtain ⟨sj, j0, j1, j2, j3, ju⟩ := bj2
  go_wp2_with fail
  refine (Check_k hE K2 op' x' y' z' 0 HJ.out HD.out).mono ?_
  rintro r w3 ⟨rfl, k3⟩
  have K3 := K2.trans k3
  have bi3 := c1.kp k3
  have bj3 := c2.kp k3
  clear c1 c2 K2 k3 si i0 i1 i2 i3 iu sj j0 j1 j2 j3 ju
  obtain ⟨si, i0, i1, i2, i3, iu⟩ := bi3
  obtain ⟨sj, j0, j1, j2, j3, ju⟩ := bj3
  go_wp2_with fail
  have K3d := K3.drew
  have ie := HIE.out
  go_region_held3 (fun w' => Kp w w' ∧ w.heap.size < w'.heap.size ∧ w'.cell? ⟨w.heap.size, 0, none⟩ = some (.int .i64 op) ∧ w'.cell? ⟨w.heap.size, 1, none⟩ = some (.int .i64 x) ∧ w'.cell? ⟨w.heap.size, 2, none⟩ = some (.int .i64 y) ∧ w'.cell? ⟨w.heap.size, 3, none⟩ = some (.int .i64 z) ∧
      w.heap.size + 1 < w'.heap.size ∧ w'.cell? ⟨w.heap.size + 1, 0, none⟩ = some (.int .i64 op') ∧ w'.cell? ⟨w.heap.size + 1, 1, none⟩ = some (.int .i64 x') ∧ w'.cell? ⟨w.heap.size + 1, 2, none⟩ = some (.int .i64 y') ∧ w'.cell? ⟨w.heap.size + 1, 3, none⟩ = some (.int .i64 z'))
    (first | assumption | go_keep)
    ((go_at_call 19; (with_reducible refine (Text_s hE (by assumption) _ _ _ _ (by first | exact HI.out | exact HJ.out) _ (by first | exact HT.out | exact HT'.out)).mono ?_); rintro r w4 ⟨rfl, hS4⟩))
  all_goals
    go_wp2
    go_ret
    exact ⟨ret_bool (by rw [HB.out]; simp), hS4.1⟩
set_option maxHeartbeats 1000000 in
set_option maxRecDepth 100000 in
theorem apart_bad (op x y z op' x' y' z' : Int) (w : World) (hE : Env w) (hi : Wf ⟨op, x, y, z⟩) (hc : chk ⟨op, x, y, z⟩ = false) :
    Calls Tryd.prog 6 #[.agg #[.int .i64 op, .int .i64 x, .int .i64 y, .int .i64 z], .agg #[.int .i64 op', .int .i64 x', .int .i64 y', .int .i64 z']] w (Yes w) := by
  have HI := Lib.hid hi
  have HC := Lib.hid (chkE_no hc)
  have HT := Lib.hid (txt_no hc)
  have be := bytesOf_toList []
  clear hi hc
  go_enter Tryd.func6, Tryd.ntmps6
  go_wp2_with fail
  refine (lives_k hE (((Kp.refl w).alloc _ _).alloc _ _)).mono ?_
  rintro r w1 ⟨rfl, k1⟩
  have K1 := (((Kp.refl w).alloc _ _).alloc _ _).trans k1
  have b1 := ((Box.new w op x y z).kp ((Kp.refl _).alloc #[.int .i64 op', .int .i64 x', .int .i64 y', .int .i64 z'] 27)).kp k1
  clear k1
  have b2 := b1
  obtain ⟨si, i0, i1, i2, i3, iu⟩ := b1
  go_wp2_with fail
  refine (Check_k hE K1 op x y z 2 HI.out HC.out).mono ?_
  rintro r w2 ⟨rfl, k2⟩
  have K2 := K1.trans k2
  have c1 := b2.kp k2
  have c2 := c1
  clear b2 K1 k2 si i0 i1 i2 i3 iu
  obtain ⟨si, i0, i1, i2, i3, iu⟩ := c1
  go_wp2_with fail
  refine (Check_k hE K2 op x y z 2 HI.out HC.out).mono ?_
  rintro r w3 ⟨rfl, k3⟩
  have K3 := K2.trans k3
  have d1 := c2.kp k3
  clear c2 K2 k3 si i0 i1 i2 i3 iu
  obtain ⟨si, i0, i1, i2, i3, iu⟩ := d1
  go_wp2_with fail
  refine (Text_k hE K3 op x y z HI.out [] HT.out).mono ?_
  rintro r w4 ⟨rfl, k4⟩
  go_wp2
  go_ret
  exact ⟨rfl, K3.trans k4⟩
set_option maxHeartbeats 1000000 in
set_option maxRecDepth 100000 in
theorem apart_other (op x y z op' x' y' z' : Int) (w : World) (hE : Env w) (hi : Wf ⟨op, x, y, z⟩) (hj : Wf ⟨op', x', y', z'⟩) (hc : chk ⟨op, x, y, z⟩ = true) (hd : chk ⟨op', x', y', z'⟩ = false) :
    Calls Tryd.prog 6 #[.agg #[.int .i64 op, .int .i64 x, .int .i64 y, .int .i64 z], .agg #[.int .i64 op', .int .i64 x', .int .i64 y', .int .i64 z']] w (Yes w) := by
  have HI := Lib.hid hi
  have HJ := Lib.hid hj
  have HC := Lib.hid (chkE_yes hc)
  have HD := Lib.hid (chkE_no hd)
  clear hi hj hc hd
  go_enter Tryd.func6, Tryd.ntmps6
  go_wp2_with fail
  refine (lives_k hE (((Kp.refl w).alloc _ _).alloc _ _)).mono ?_
  rintro r w1 ⟨rfl, k1⟩
  have K1 := (((Kp.refl w).alloc _ _).alloc _ _).trans k1
  have b1 := ((Box.new w op x y z).kp ((Kp.refl _).alloc #[.int .i64 op', .int .i64 x', .int .i64 y', .int .i64 z'] 27)).kp k1
  have e1 : Box w1 (w.heap.size + 1) op' x' y' z' := by
    have := (Box.new (w.alloc (.cells #[.int .i64 op, .int .i64 x, .int .i64 y, .int .i64 z] 27)) op' x' y' z').kp k1
    simpa using this
  clear k1
  have b2 := b1
  obtain ⟨si, i0, i1, i2, i3, iu⟩ := b1
  go_wp2_with fail
  refine (Check_k hE K1 op x y z 0 HI.out HC.out).mono ?_
  rintro r w2 ⟨rfl, k2⟩
  have K2 := K1.trans k2
  have c1 := b2.kp k2
  have e2 := e1.kp k2
  clear b2 e1 K1 k2 si i0 i1 i2 i3 iu
  obtain ⟨sj, j0, j1, j2, j3, ju⟩ := e2
  go_wp2_with fail
  refine (Check_k hE K2 op' x' y' z' 2 HJ.out HD.out).mono ?_
  rintro r w3 ⟨rfl, k3⟩
  have K3 := K2.trans k3
  have d1 := c1.kp k3
  clear c1 K2 k3 sj j0 j1 j2 j3 ju
  obtain ⟨si, i0, i1, i2, i3, iu⟩ := d1
  go_wp2_with fail
  refine (Check_k hE K3 op x y z 0 HI.out HC.out).mono ?_
  rintro r w4 ⟨rfl, k4⟩
  go_wp2
  go_ret
  exact ⟨rfl, K3.trans k4⟩
theorem apart_walk (i j : In) (w : World) (hE : Env w) (hi : Wf i) (hj : Wf j) :
    Calls Tryd.prog 6 #[.agg #[.int .i64 i.op, .int .i64 i.a, .int .i64 i.b, .int .i64 i.c], .agg #[.int .i64 j.op, .int .i64 j.a, .int .i64 j.b, .int .i64 j.c]] w (Yes w) := by
  obtain ⟨op, x, y, z⟩ := i
  obtain ⟨op', x', y', z'⟩ := j
  cases hc : chk ⟨op, x, y, z⟩ with
  | false => exact apart_bad op x y z op' x' y' z' w hE hi hc
  | true =>
    cases hd : chk ⟨op', x', y', z'⟩ with
    | false => exact apart_other op x y z op' x' y' z' w hE hi hj hc hd
    | true =>
      refine apart_good op x y z op' x' y' z' w hE hi hj hc hd _ _ rfl rfl _ rfl ?_
      rw [Bool.eq_iff_iff]
      simp only [beq_iff_eq, Bool.and_eq_true]
      constructor
      · intro h
        have := txt_inj hc hd h
        simp only [In.mk.injEq] at this
        exact this
      · rintro ⟨rfl, rfl, rfl, rfl⟩
        rfl
end Co
end Go.Proofs.YtehmpakcfahmaaaDoor
