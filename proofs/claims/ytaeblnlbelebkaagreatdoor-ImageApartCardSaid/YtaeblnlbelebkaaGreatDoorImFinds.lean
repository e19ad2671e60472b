/-
  WALKS: package image, what an instruction names and where it jumps: finds, stays. Own work.
-/
import Derived.Test.YtaeblnlbelebkaaGreatDoorImMem
import Derived.IntWalk
namespace Go.Proofs.YtaeblnlbelebkaaGreatDoor
namespace Im
open Go.RowKit Go
open Co (Kp ret_int ret_bool ret2_int In in0 IIn Ics Wf)
open Ln (VIn Vcs)
set_option linter.unusedVariables false

/-- A callee that leaves the world alone is quiet behind draws. -/
theorem quietL {P : Program} {f : FuncId} {args : Array Value} {w : World} {n : Nat} {v : Value}
    (h : Calls P f args (w.drewN n) fun e w' => e = .returned v ∧ w.drewN n = w') : Calls P f args (w.drewN n) fun e w'' => e = .returned v ∧ ∃ m, w'' = w.drewN m :=
  h.mono fun _ _ ⟨he, hm⟩ => ⟨he, n, hm.symm⟩
theorem chk_alw {i : In} (h : Co.chk i = true) : 1 ≤ i.op ∧ i.op ≤ 24 ∧ Co.alw (Co.rowAt i.op).a i.a = true ∧ Co.alw (Co.rowAt i.op).b i.b = true ∧ Co.alw (Co.rowAt i.op).c i.c = true := by
  unfold Co.chk at h
  simp only [Bool.and_eq_true, decide_eq_true_eq] at h
  exact ⟨h.1.1.1.1, h.1.1.1.2, h.1.1.2, h.1.2, h.2⟩
set_option maxHeartbeats 2000000 in
theorem finds_init {w : World} {p : Nat} {h : Hd} {m : Im} (hP : Ptr w p h m) (f : Nat) (op a b c : Int) (ho : op = 4 ∨ op = 5) (r : Bool) (hr : decide (0 ≤ a ∧ a < (m.init.length : Int)) = r) :
    Calls Tryz.prog 105 #[.agg #[.pointer (some ⟨p, 0, none⟩)], .int .i64 f, .agg #[.int .i64 op, .int .i64 a, .int .i64 b, .int .i64 c]] w fun e w' => e = .returned (.bool r) ∧ Kp w w' := by
  have hsz := hP.size
  have c4 := hP.c4
  have HR := Lib.hid hr
  clear hr hP
  rcases ho with rfl | rfl
  all_goals
    go_enter Tryz.func105, Tryz.ntmps105
    go_wp2
    go_quiet ((go_at_call 104; exact quietL (has_U _ _ _ _ _ r HR.out)))
    go_wp2
    go_ret
    exact ⟨rfl, (((Kp.refl w).alloc _ _).alloc _ _).drewN _⟩
set_option maxHeartbeats 2000000 in
theorem finds_x {w : World} {p : Nat} {h : Hd} {m : Im} (hP : Ptr w p h m) (f : Nat) (op a b c : Int) (ho : op = 6 ∨ op = 7) (ha : 0 ≤ a ∧ a ≤ 1048576) (hb : 1 ≤ b ∧ b ≤ 1048576) (r : Bool) (hr : decide (0 ≤ a + b - 1 ∧ a + b - 1 < (m.init.length : Int)) = r) :
    Calls Tryz.prog 105 #[.agg #[.pointer (some ⟨p, 0, none⟩)], .int .i64 f, .agg #[.int .i64 op, .int .i64 a, .int .i64 b, .int .i64 c]] w fun e w' => e = .returned (.bool r) ∧ Kp w w' := by
  have hsz := hP.size
  have c4 := hP.c4
  have HR := Lib.hid hr
  clear hr hP
  obtain ⟨ha0, ha1⟩ := ha
  obtain ⟨hb0, hb1⟩ := hb
  rcases ho with rfl | rfl
  all_goals
    go_enter Tryz.func105, Tryz.ntmps105
    go_wp2
    have hw1 : IntKind.i64.wrap (a + b) = a + b := IntWalk.i64_in _ (by omega)
    have hw2 : IntKind.i64.wrap (a + b - 1) = a + b - 1 := IntWalk.i64_in _ (by omega)
    go_quiet ((go_at_call 104; exact quietL (has_U _ _ _ _ _ r HR.out)))
    go_wp2
    go_ret
    exact ⟨rfl, (((Kp.refl w).alloc _ _).alloc _ _).drewN _⟩
set_option maxHeartbeats 2000000 in
theorem finds_l {w : World} {p : Nat} {h : Hd} {m : Im} (hP : Ptr w p h m) (f : Nat) (hf : f < m.funcs.length) (op a b c : Int) (ho : op = 8 ∨ op = 9) (r : Bool) (hr : decide (a < (m.fn f).l) = r) :
    Calls Tryz.prog 105 #[.agg #[.pointer (some ⟨p, 0, none⟩)], .int .i64 f, .agg #[.int .i64 op, .int .i64 a, .int .i64 b, .int .i64 c]] w fun e w' => e = .returned (.bool r) ∧ Kp w w' := by
  have hsz := hP.size
  have c1 := hP.c1
  obtain ⟨bF, oF, hao, hF⟩ := hP.in'.funcs.at hf
  rw [hao] at c1
  have x2 : w.cell? ⟨bF, oF + f * 3 + 2, none⟩ = some (.int .i64 (m.fn f).l) := hF.l' f hf
  have hbs := hF.size
  have HR := Lib.hid hr
  have i0 : (0 : Int) ≤ (f : Int) := by omega
  have i1 : (f : Int) < m.funcs.length := by omega
  generalize (m.fn f).l = q at *
  clear hr hP hao hF
  rcases ho with rfl | rfl
  all_goals
    go_enter Tryz.func105, Tryz.ntmps105
    go_wp2
    go_quiet (fail)
    go_wp2
    go_ret
    exact ⟨ret_bool HR.out, (((Kp.refl w).alloc _ _).alloc _ _).drewN _⟩
set_option maxHeartbeats 2000000 in
theorem finds_p {w : World} {p : Nat} {h : Hd} {m : Im} (hP : Ptr w p h m) (f : Nat) (op a b c : Int) (ho : op = 10 ∨ op = 11) (r : Bool) (hr : decide (0 ≤ a ∧ a < (m.ports.length : Int)) = r) :
    Calls Tryz.prog 105 #[.agg #[.pointer (some ⟨p, 0, none⟩)], .int .i64 f, .agg #[.int .i64 op, .int .i64 a, .int .i64 b, .int .i64 c]] w fun e w' => e = .returned (.bool r) ∧ Kp w w' := by
  have hsz := hP.size
  have c5 := hP.c5
  have HR := Lib.hid hr
  clear hr hP
  rcases ho with rfl | rfl
  all_goals
    go_enter Tryz.func105, Tryz.ntmps105
    go_wp2
    go_quiet ((go_at_call 118; exact quietL (has_P _ _ _ _ _ r HR.out)))
    go_wp2
    go_ret
    exact ⟨rfl, (((Kp.refl w).alloc _ _).alloc _ _).drewN _⟩
set_option maxHeartbeats 2000000 in
theorem finds_f {w : World} {p : Nat} {h : Hd} {m : Im} (hP : Ptr w p h m) (f : Nat) (op a b c : Int) (ho : op = 17) (r : Bool) (hr : decide (0 ≤ a ∧ a < (m.funcs.length : Int)) = r) :
    Calls Tryz.prog 105 #[.agg #[.pointer (some ⟨p, 0, none⟩)], .int .i64 f, .agg #[.int .i64 op, .int .i64 a, .int .i64 b, .int .i64 c]] w fun e w' => e = .returned (.bool r) ∧ Kp w w' := by
  have hsz := hP.size
  have c1 := hP.c1
  have HR := Lib.hid hr
  clear hr hP
  subst ho
  go_enter Tryz.func105, Tryz.ntmps105
  go_wp2
  go_quiet ((go_at_call 51; exact quietL (has_F _ _ _ _ _ r HR.out)))
  go_wp2
  go_ret
  exact ⟨rfl, (((Kp.refl w).alloc _ _).alloc _ _).drewN _⟩
set_option maxHeartbeats 2000000 in
theorem finds_s {w : World} {p : Nat} {h : Hd} {m : Im} (hP : Ptr w p h m) (f : Nat) (op a b c : Int) (ho : op = 23 ∨ op = 24) (r : Bool) (hr : decide (0 ≤ a ∧ a < (m.atoms.length : Int)) = r) :
    Calls Tryz.prog 105 #[.agg #[.pointer (some ⟨p, 0, none⟩)], .int .i64 f, .agg #[.int .i64 op, .int .i64 a, .int .i64 b, .int .i64 c]] w fun e w' => e = .returned (.bool r) ∧ Kp w w' := by
  have hsz := hP.size
  have c7 := hP.c7
  have HR := Lib.hid hr
  clear hr hP
  rcases ho with rfl | rfl
  all_goals
    go_enter Tryz.func105, Tryz.ntmps105
    go_wp2
    go_quiet ((go_at_call 119; exact quietL (has_A _ _ _ _ _ r HR.out)))
    go_wp2
    go_ret
    exact ⟨rfl, (((Kp.refl w).alloc _ _).alloc _ _).drewN _⟩
set_option maxHeartbeats 2000000 in
theorem finds_h {w : World} {p : Nat} {h : Hd} {m : Im} (hP : Ptr w p h m) (f : Nat) (op a b c : Int) (ho : op = 1) (r : Bool) (hr : ((f : Int) == m.main) = r) :
    Calls Tryz.prog 105 #[.agg #[.pointer (some ⟨p, 0, none⟩)], .int .i64 f, .agg #[.int .i64 op, .int .i64 a, .int .i64 b, .int .i64 c]] w fun e w' => e = .returned (.bool r) ∧ Kp w w' := by
  have hsz := hP.size
  have c3 := hP.c3
  have HR := Lib.hid hr
  clear hr hP
  subst ho
  go_enter Tryz.func105, Tryz.ntmps105
  go_wp2
  go_ret
  exact ⟨ret_bool HR.out, ((Kp.refl w).alloc _ _).alloc _ _⟩
set_option maxHeartbeats 2000000 in
theorem finds_o (w : World) (p : Nat) (f : Nat) (op a b c : Int) (ho : op = 2 ∨ op = 3 ∨ op = 12 ∨ op = 13 ∨ op = 14 ∨ op = 15 ∨ op = 16 ∨ op = 18 ∨ op = 19 ∨ op = 20 ∨ op = 21 ∨ op = 22) :
    Calls Tryz.prog 105 #[.agg #[.pointer (some ⟨p, 0, none⟩)], .int .i64 f, .agg #[.int .i64 op, .int .i64 a, .int .i64 b, .int .i64 c]] w fun e w' => e = .returned (.bool true) ∧ Kp w w' := by
  have b1 : (op == 1) = false := by rw [beq_eq_false_iff_ne]; omega
  have b4 : (op == 4) = false := by rw [beq_eq_false_iff_ne]; omega
  have b5 : (op == 5) = false := by rw [beq_eq_false_iff_ne]; omega
  have b6 : (op == 6) = false := by rw [beq_eq_false_iff_ne]; omega
  have b7 : (op == 7) = false := by rw [beq_eq_false_iff_ne]; omega
  have b8 : (op == 8) = false := by rw [beq_eq_false_iff_ne]; omega
  have b9 : (op == 9) = false := by rw [beq_eq_false_iff_ne]; omega
  have b10 : (op == 10) = false := by rw [beq_eq_false_iff_ne]; omega
  have b11 : (op == 11) = false := by rw [beq_eq_false_iff_ne]; omega
  have b17 : (op == 17) = false := by rw [beq_eq_false_iff_ne]; omega
  have b23 : (op == 23) = false := by rw [beq_eq_false_iff_ne]; omega
  have b24 : (op == 24) = false := by rw [beq_eq_false_iff_ne]; omega
  clear ho
  go_enter Tryz.func105, Tryz.ntmps105
  go_wp2
  go_ret
  exact ⟨rfl, ((Kp.refl w).alloc _ _).alloc _ _⟩
theorem dec_congr {p q : Prop} [Decidable p] [Decidable q] {r : Bool} (h : decide p = r) (e : p ↔ q) : decide q = r := by rw [← h]; exact decide_eq_decide.2 e.symm
theorem finds_any {w : World} {p : Nat} {h : Hd} {m : Im} (hP : Ptr w p h m) (f : Nat) (hf : f < m.funcs.length) (op a b c : Int) (hc : Co.chk ⟨op, a, b, c⟩ = true) (r : Bool) (hr : decide (Finds m f ⟨op, a, b, c⟩) = r) :
    Calls Tryz.prog 105 #[.agg #[.pointer (some ⟨p, 0, none⟩)], .int .i64 f, .agg #[.int .i64 op, .int .i64 a, .int .i64 b, .int .i64 c]] w fun e w' => e = .returned (.bool r) ∧ Kp w w' := by
  obtain ⟨o1, o2, ha, hb, _⟩ := chk_alw hc
  simp only at o1 o2 ha hb
  have hop : op = 4 ∨ op = 5 ∨ (op = 6 ∨ op = 7) ∨ (op = 8 ∨ op = 9) ∨ (op = 10 ∨ op = 11) ∨ op = 17 ∨ (op = 23 ∨ op = 24) ∨ op = 1 ∨ (op = 2 ∨ op = 3 ∨ op = 12 ∨ op = 13 ∨ op = 14 ∨ op = 15 ∨ op = 16 ∨ op = 18 ∨ op = 19 ∨ op = 20 ∨ op = 21 ∨ op = 22) := by omega
  rcases hop with e | e | e | e | e | e | e | e | e
  · exact finds_init hP f op a b c (.inl e) r (dec_congr hr (by subst e; simp [Finds]))
  · exact finds_init hP f op a b c (.inr e) r (dec_congr hr (by subst e; simp [Finds]))
  · have hab : (0 ≤ a ∧ a ≤ 1048576) ∧ (1 ≤ b ∧ b ≤ 1048576) := by
      rcases e with rfl | rfl
      · have ea : (Co.rowAt 6).a = 1 := rfl
        have eb : (Co.rowAt 6).b = 2 := rfl
        rw [ea, Co.alw_1] at ha; rw [eb, Co.alw_2] at hb
        exact ⟨of_decide_eq_true ha, of_decide_eq_true hb⟩
      · have ea : (Co.rowAt 7).a = 1 := rfl
        have eb : (Co.rowAt 7).b = 2 := rfl
        rw [ea, Co.alw_1] at ha; rw [eb, Co.alw_2] at hb
        exact ⟨of_decide_eq_true ha, of_decide_eq_true hb⟩
    exact finds_x hP f op a b c e hab.1 hab.2 r (dec_congr hr (by rcases e with rfl | rfl <;> simp [Finds]))
  · exact finds_l hP f hf op a b c e r (dec_congr hr (by rcases e with rfl | rfl <;> simp [Finds]))
  · exact finds_p hP f op a b c e r (dec_congr hr (by rcases e with rfl | rfl <;> simp [Finds]))
  · exact finds_f hP f op a b c e r (dec_congr hr (by subst e; simp [Finds]))
  · exact finds_s hP f op a b c e r (dec_congr hr (by rcases e with rfl | rfl <;> simp [Finds]))
  · refine finds_h hP f op a b c e r ?_
    rw [← hr, Bool.eq_iff_iff, beq_iff_eq, decide_eq_true_eq]
    subst e; simp [Finds]
  · have : r = true := by
      rw [← hr, decide_eq_true_eq]
      rcases e with rfl | rfl | rfl | rfl | rfl | rfl | rfl | rfl | rfl | rfl | rfl | rfl <;> simp [Finds]
    rw [this]
    exact finds_o w p f op a b c e

/-- stays: an instruction does not jump out of its function. -/
theorem stays_any {w : World} (hE : Co.Env w) (op x y z : Int) (hi : Wf ⟨op, x, y, z⟩) (a b : Int) (r : Bool) (hr : decide (Stays ⟨op, x, y, z⟩ a b) = r) :
    Calls Tryz.prog 106 #[.agg #[.int .i64 op, .int .i64 x, .int .i64 y, .int .i64 z], .int .i64 a, .int .i64 b] w fun e w' => e = .returned (.bool r) ∧ Kp w w' := by
  generalize ht : Co.jmpT ⟨op, x, y, z⟩ = t
  generalize hj : Co.jmpJ ⟨op, x, y, z⟩ = j
  generalize ho : Co.jmpO ⟨op, x, y, z⟩ = o
  have hs : Stays ⟨op, x, y, z⟩ a b ↔ j = false ∨ (a ≤ t ∧ t < b) := by rw [← hj, ← ht]; exact Iff.rfl
  have HT := Lib.hid ht
  have HJ := Lib.hid hj
  have HO := Lib.hid ho
  have HI := Lib.hid hi
  have HR : Hid (r = decide (j = false ∨ (a ≤ t ∧ t < b))) := Lib.hid (by rw [← hr]; exact decide_eq_decide.2 hs)
  clear ht hj ho hi hr hs
  cases j
  all_goals
    go_enter Tryz.func106, Tryz.ntmps106
    go_wp2_with (go_at_call 107; refine (Co.Jumps_any (hE.kept ((Kp.refl w).alloc _ _)) ⟨op, x, y, z⟩ HI.out t _ o HT.out HJ.out HO.out).mono ?_; rintro e w1 ⟨rfl, k1⟩)
    all_goals (go_ret; exact ⟨ret_bool (by rw [HR.out]; simp <;> omega), ((Kp.refl w).alloc _ _).trans k1⟩)
end Im
end Go.Proofs.YtaeblnlbelebkaaGreatDoor
