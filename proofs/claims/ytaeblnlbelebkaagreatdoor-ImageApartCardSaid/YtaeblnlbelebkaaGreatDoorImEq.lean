/-
  WALKS: slices.Equal at an image's types, slices.EqualFunc at its lists of cells; package image, Same. Own work.
-/
import Derived.Test.YtaeblnlbelebkaaGreatDoorImKit
import Derived.Test.YtaeblnlbelebkaaGreatDoorImPair
namespace Go.Proofs.YtaeblnlbelebkaaGreatDoor
namespace Im
open Go.RowKit Go
open Co (Kp ret_int ret_bool ret2_int In in0 IIn Ics Wf bytesOf)
open Ln (VIn Vcs)
set_option linter.unusedVariables false

theorem ins_st : Tryz.prog.underlying 55 = some (.struct (Tryz.prog.fieldsOf 55)) := by kernel_rfl
theorem ins_hd : Tryz.prog.stoodInHeld 55 = false := by kernel_rfl
theorem fn_st : Tryz.prog.underlying 69 = some (.struct (Tryz.prog.fieldsOf 69)) := by kernel_rfl
theorem fn_hd : Tryz.prog.stoodInHeld 69 = false := by kernel_rfl
theorem vc_st : Tryz.prog.underlying 71 = some (.struct (Tryz.prog.fieldsOf 71)) := by kernel_rfl
theorem vc_hd : Tryz.prog.stoodInHeld 71 = false := by kernel_rfl
theorem pt_st : Tryz.prog.underlying 74 = some (.struct (Tryz.prog.fieldsOf 74)) := by kernel_rfl
theorem pt_hd : Tryz.prog.stoodInHeld 74 = false := by kernel_rfl
theorem ins_neq (x y : In) (b : Bool) (h : x = y ↔ b = false) (w : World) : (binOp .neq 55 (.agg #[.int .i64 x.op, .int .i64 x.a, .int .i64 x.b, .int .i64 x.c]) (.agg #[.int .i64 y.op, .int .i64 y.a, .int .i64 y.b, .int .i64 y.c])).run Tryz.prog w = .ok (.bool b) w := by
  have hu := Tryz.underlying55
  have hint := Tryz.underlying3
  obtain ⟨x0, x1, x2, x3⟩ := x
  obtain ⟨y0, y1, y2, y3⟩ := y
  rw [run_neq_struct, run_equalIn_agg w 9999 _ _ _ ins_st ins_hd]
  cases b with
  | false =>
    have e := h.2 rfl
    rw [Co.In.mk.injEq] at e
    obtain ⟨rfl, rfl, rfl, rfl⟩ := e
    simp [Op.eqFields, Program.fieldsOf, hu, hint, go_sem]
  | true =>
    have e := mt h.1 (by decide)
    rw [Co.In.mk.injEq] at e
    simp [Op.eqFields, Program.fieldsOf, hu, hint, go_sem]
    first
      | (intro a0 a1 a2 a3; exact e ⟨a0, a1, a2, a3⟩)
      | (revert e; clear hu h hint; cases x0 <;> cases y0 <;> cases x1 <;> cases y1 <;> cases x2 <;> cases y2 <;> cases x3 <;> cases y3 <;> simp)
set_option maxHeartbeats 2000000 in
set_option maxRecDepth 100000 in
theorem eqIns_same (ao bo : Option Addr) (ca cb n : Nat) (xs ys : List In) (w : World) (hv : CIn w ao xs) (hv2 : CIn w bo ys) (lx : xs.length = n) (ly : ys.length = n) (hn : n ≤ 9223372036854775807) (r : Bool) (hr : xs = ys ↔ r = true) :
    Calls Tryz.prog 42 #[.slice ao n ca, .slice bo n cb] w fun e w' => e = .returned (.bool r) ∧ Qt w w' := by
  have HR := Lib.hid hr
  have HV := Lib.hid hv
  have HV2 := Lib.hid hv2
  have LX := Lib.hid lx
  have LY := Lib.hid ly
  clear hr hv hv2 lx ly
  go_enter Tryz.func42, Tryz.ntmps42
  go_wp2
  go_loopw [5, 13] (fun i0 i wr => ∃ (k : Nat), k ≤ n ∧ i = .int .i64 k ∧ Qt w wr ∧ Hid (∀ j, j < k → xs.getD j in0 = ys.getD j in0)) (fun _ i _ => n - (intOf i).toNat)
  case atStart => exact ⟨0, Nat.zero_le _, rfl, Qt.refl _, fun j h => absurd h (Nat.not_lt_zero j)⟩
  case round =>
    obtain ⟨k, hk, rfl, hkp, HA⟩ := hrel
    by_cases hlt : k < n
    · obtain ⟨b, off, hao, g1⟩ := CIn.at (CIn.kp HV.out hkp.kp) (i := k) (by rw [LX.out]; exact hlt)
      subst hao
      obtain ⟨b2, off2, hbo, g2⟩ := CIn.at (CIn.kp HV2.out hkp.kp) (i := k) (by rw [LY.out]; exact hlt)
      subst hbo
      have hk0 : (0 : Int) ≤ (k : Int) := Int.natCast_nonneg _
      have hk1 : (k : Int) < (n : Int) := by omega
      have z1 := g1.size
      have z2 := g2.size
      have fx0 := g1.o k (by rw [LX.out]; exact hlt)
      have fy0 := g2.o k (by rw [LY.out]; exact hlt)
      have fx1 := g1.a k (by rw [LX.out]; exact hlt)
      have fy1 := g2.a k (by rw [LY.out]; exact hlt)
      have fx2 := g1.b' k (by rw [LX.out]; exact hlt)
      have fy2 := g2.b' k (by rw [LY.out]; exact hlt)
      have fx3 := g1.c k (by rw [LX.out]; exact hlt)
      have fy3 := g2.c k (by rw [LY.out]; exact hlt)
      clear g1 g2
      have HXY := Lib.hid (fun (hx : xs.getD k in0 = ys.getD k in0) => (show ∀ j, j < k + 1 → xs.getD j in0 = ys.getD j in0 from fun j hj => by
          rcases Nat.lt_succ_iff_lt_or_eq.1 hj with h2 | h2
          · exact HA.out j h2
          · subst h2; exact hx))
      have FIN := Lib.hid (fun (hx : xs.getD k in0 ≠ ys.getD k in0) => (show r = false by
          have : ¬ r = true := fun e => ne_getD hx (HR.out.2 e)
          simpa using this))
      obtain ⟨x, hxx⟩ : ∃ x, xs.getD k in0 = x := ⟨_, rfl⟩
      obtain ⟨y, hyy⟩ : ∃ y, ys.getD k in0 = y := ⟨_, rfl⟩
      simp only [hxx, hyy] at fx0 fy0 fx1 fy1 fx2 fy2 fx3 fy3
      rw [hxx, hyy] at HXY FIN
      clear hxx hyy
      have q := fun b hb W => ins_neq x y b hb W
      by_cases hx : x = y
      · have HX := Lib.hid (HXY.out hx)
        clear HXY FIN
        have qq := q false (by simpa using hx)
        clear q
        obtain ⟨x0, x1, x2, x3⟩ := x
        obtain ⟨y0, y1, y2, y3⟩ := y
        simp only at fx0 fy0 fx1 fy1 fx2 fy2 fx3 fy3 qq
        clear hx
        go_wp2
        go_quiet (fail)
        go_wp2
        go_roundw
        case rel => exact ⟨k + 1, by omega, by go_num, hkp.drew _, HX⟩
        case measure => simp [intOf]; omega
      · have HF := Lib.hid (FIN.out hx)
        clear HXY FIN
        have qq := q true (by simpa using hx)
        clear q
        obtain ⟨x0, x1, x2, x3⟩ := x
        obtain ⟨y0, y1, y2, y3⟩ := y
        simp only at fx0 fy0 fx1 fy1 fx2 fy2 fx3 fy3 qq
        clear hx
        go_wp2
        go_quiet (fail)
        go_wp2
        go_ret
        exact ⟨ret_bool HF.out.symm, hkp.drew _⟩
    · obtain rfl : k = n := by omega
      go_wp2
      go_ret
      exact ⟨ret_bool (HR.out.1 (ext_getD (d := in0) (by rw [LX.out, LY.out]) (fun j hj => HA.out j (by rw [← LX.out]; exact hj)))).symm, hkp⟩
theorem eqIns_any (ao bo : Option Addr) (ca cb : Nat) (xs ys : List In) (w : World) (hv : CIn w ao xs) (hv2 : CIn w bo ys) (hn : xs.length ≤ 9223372036854775807) (r : Bool) (hr : xs = ys ↔ r = true) :
    Calls Tryz.prog 42 #[.slice ao xs.length ca, .slice bo ys.length cb] w fun e w' => e = .returned (.bool r) ∧ Qt w w' := by
  by_cases hnm : xs.length = ys.length
  · have := eqIns_same ao bo ca cb xs.length xs ys w hv hv2 rfl hnm.symm hn r hr
    rw [← hnm]
    exact this
  · have FIN : r = false := by
      have : ¬ r = true := fun e => ne_len hnm (hr.2 e)
      simpa using this
    subst FIN
    have hne : ((xs.length : Int) != (ys.length : Int)) = true := by simpa using (by omega : ¬ (xs.length : Int) = ys.length)
    clear hv hv2 hr
    generalize xs.length = n at *
    generalize ys.length = m at *
    go_enter Tryz.func42, Tryz.ntmps42
    go_wp2
    go_ret
    exact ⟨rfl, Qt.refl _⟩
theorem func_neq (x y : Fn) (b : Bool) (h : x = y ↔ b = false) (w : World) : (binOp .neq 69 (.agg #[.int .i64 x.e, .int .i64 x.p, .int .i64 x.l]) (.agg #[.int .i64 y.e, .int .i64 y.p, .int .i64 y.l])).run Tryz.prog w = .ok (.bool b) w := by
  have hu := Tryz.underlying69
  have hint := Tryz.underlying3
  obtain ⟨x0, x1, x2⟩ := x
  obtain ⟨y0, y1, y2⟩ := y
  rw [run_neq_struct, run_equalIn_agg w 9999 _ _ _ fn_st fn_hd]
  cases b with
  | false =>
    have e := h.2 rfl
    rw [Fn.mk.injEq] at e
    obtain ⟨rfl, rfl, rfl⟩ := e
    simp [Op.eqFields, Program.fieldsOf, hu, hint, go_sem]
  | true =>
    have e := mt h.1 (by decide)
    rw [Fn.mk.injEq] at e
    simp [Op.eqFields, Program.fieldsOf, hu, hint, go_sem]
    first
      | (intro a0 a1 a2; exact e ⟨a0, a1, a2⟩)
      | (revert e; clear hu h hint; cases x0 <;> cases y0 <;> cases x1 <;> cases y1 <;> cases x2 <;> cases y2 <;> simp)
set_option maxHeartbeats 2000000 in
set_option maxRecDepth 100000 in
theorem eqFunc_same (ao bo : Option Addr) (ca cb n : Nat) (xs ys : List Fn) (w : World) (hv : FIn w ao xs) (hv2 : FIn w bo ys) (lx : xs.length = n) (ly : ys.length = n) (hn : n ≤ 9223372036854775807) (r : Bool) (hr : xs = ys ↔ r = true) :
    Calls Tryz.prog 43 #[.slice ao n ca, .slice bo n cb] w fun e w' => e = .returned (.bool r) ∧ Qt w w' := by
  have HR := Lib.hid hr
  have HV := Lib.hid hv
  have HV2 := Lib.hid hv2
  have LX := Lib.hid lx
  have LY := Lib.hid ly
  clear hr hv hv2 lx ly
  go_enter Tryz.func43, Tryz.ntmps43
  go_wp2
  go_loopw [5, 13] (fun i0 i wr => ∃ (k : Nat), k ≤ n ∧ i = .int .i64 k ∧ Qt w wr ∧ Hid (∀ j, j < k → xs.getD j f0 = ys.getD j f0)) (fun _ i _ => n - (intOf i).toNat)
  case atStart => exact ⟨0, Nat.zero_le _, rfl, Qt.refl _, fun j h => absurd h (Nat.not_lt_zero j)⟩
  case round =>
    obtain ⟨k, hk, rfl, hkp, HA⟩ := hrel
    by_cases hlt : k < n
    · obtain ⟨b, off, hao, g1⟩ := FIn.at (FIn.kp HV.out hkp.kp) (i := k) (by rw [LX.out]; exact hlt)
      subst hao
      obtain ⟨b2, off2, hbo, g2⟩ := FIn.at (FIn.kp HV2.out hkp.kp) (i := k) (by rw [LY.out]; exact hlt)
      subst hbo
      have hk0 : (0 : Int) ≤ (k : Int) := Int.natCast_nonneg _
      have hk1 : (k : Int) < (n : Int) := by omega
      have z1 := g1.size
      have z2 := g2.size
      have fx0 := g1.e k (by rw [LX.out]; exact hlt)
      have fy0 := g2.e k (by rw [LY.out]; exact hlt)
      have fx1 := g1.p k (by rw [LX.out]; exact hlt)
      have fy1 := g2.p k (by rw [LY.out]; exact hlt)
      have fx2 := g1.l' k (by rw [LX.out]; exact hlt)
      have fy2 := g2.l' k (by rw [LY.out]; exact hlt)
      clear g1 g2
      have HXY := Lib.hid (fun (hx : xs.getD k f0 = ys.getD k f0) => (show ∀ j, j < k + 1 → xs.getD j f0 = ys.getD j f0 from fun j hj => by
          rcases Nat.lt_succ_iff_lt_or_eq.1 hj with h2 | h2
          · exact HA.out j h2
          · subst h2; exact hx))
      have FIN := Lib.hid (fun (hx : xs.getD k f0 ≠ ys.getD k f0) => (show r = false by
          have : ¬ r = true := fun e => ne_getD hx (HR.out.2 e)
          simpa using this))
      obtain ⟨x, hxx⟩ : ∃ x, xs.getD k f0 = x := ⟨_, rfl⟩
      obtain ⟨y, hyy⟩ : ∃ y, ys.getD k f0 = y := ⟨_, rfl⟩
      simp only [hxx, hyy] at fx0 fy0 fx1 fy1 fx2 fy2
      rw [hxx, hyy] at HXY FIN
      clear hxx hyy
      have q := fun b hb W => func_neq x y b hb W
      by_cases hx : x = y
      · have HX := Lib.hid (HXY.out hx)
        clear HXY FIN
        have qq := q false (by simpa using hx)
        clear q
        obtain ⟨x0, x1, x2⟩ := x
        obtain ⟨y0, y1, y2⟩ := y
        simp only at fx0 fy0 fx1 fy1 fx2 fy2 qq
        clear hx
        go_wp2
        go_quiet (fail)
        go_wp2
        go_roundw
        case rel => exact ⟨k + 1, by omega, by go_num, hkp.drew _, HX⟩
        case measure => simp [intOf]; omega
      · have HF := Lib.hid (FIN.out hx)
        clear HXY FIN
        have qq := q true (by simpa using hx)
        clear q
        obtain ⟨x0, x1, x2⟩ := x
        obtain ⟨y0, y1, y2⟩ := y
        simp only at fx0 fy0 fx1 fy1 fx2 fy2 qq
        clear hx
        go_wp2
        go_quiet (fail)
        go_wp2
        go_ret
        exact ⟨ret_bool HF.out.symm, hkp.drew _⟩
    · obtain rfl : k = n := by omega
      go_wp2
      go_ret
      exact ⟨ret_bool (HR.out.1 (ext_getD (d := f0) (by rw [LX.out, LY.out]) (fun j hj => HA.out j (by rw [← LX.out]; exact hj)))).symm, hkp⟩
theorem eqFunc_any (ao bo : Option Addr) (ca cb : Nat) (xs ys : List Fn) (w : World) (hv : FIn w ao xs) (hv2 : FIn w bo ys) (hn : xs.length ≤ 9223372036854775807) (r : Bool) (hr : xs = ys ↔ r = true) :
    Calls Tryz.prog 43 #[.slice ao xs.length ca, .slice bo ys.length cb] w fun e w' => e = .returned (.bool r) ∧ Qt w w' := by
  by_cases hnm : xs.length = ys.length
  · have := eqFunc_same ao bo ca cb xs.length xs ys w hv hv2 rfl hnm.symm hn r hr
    rw [← hnm]
    exact this
  · have FIN : r = false := by
      have : ¬ r = true := fun e => ne_len hnm (hr.2 e)
      simpa using this
    subst FIN
    have hne : ((xs.length : Int) != (ys.length : Int)) = true := by simpa using (by omega : ¬ (xs.length : Int) = ys.length)
    clear hv hv2 hr
    generalize xs.length = n at *
    generalize ys.length = m at *
    go_enter Tryz.func43, Tryz.ntmps43
    go_wp2
    go_ret
    exact ⟨rfl, Qt.refl _⟩
theorem vec_neq (x y : Ln.Vc) (b : Bool) (h : x = y ↔ b = false) (w : World) : (binOp .neq 71 (.agg #[.int .i64 x.l, .int .i64 x.p, .int .i64 x.f]) (.agg #[.int .i64 y.l, .int .i64 y.p, .int .i64 y.f])).run Tryz.prog w = .ok (.bool b) w := by
  have hu := Tryz.underlying71
  have hint := Tryz.underlying3
  obtain ⟨x0, x1, x2⟩ := x
  obtain ⟨y0, y1, y2⟩ := y
  rw [run_neq_struct, run_equalIn_agg w 9999 _ _ _ vc_st vc_hd]
  cases b with
  | false =>
    have e := h.2 rfl
    rw [Ln.Vc.mk.injEq] at e
    obtain ⟨rfl, rfl, rfl⟩ := e
    simp [Op.eqFields, Program.fieldsOf, hu, hint, go_sem]
  | true =>
    have e := mt h.1 (by decide)
    rw [Ln.Vc.mk.injEq] at e
    simp [Op.eqFields, Program.fieldsOf, hu, hint, go_sem]
    first
      | (intro a0 a1 a2; exact e ⟨a0, a1, a2⟩)
      | (revert e; clear hu h hint; cases x0 <;> cases y0 <;> cases x1 <;> cases y1 <;> cases x2 <;> cases y2 <;> simp)
set_option maxHeartbeats 2000000 in
set_option maxRecDepth 100000 in
theorem eqVec_same (ao bo : Option Addr) (ca cb n : Nat) (xs ys : List Ln.Vc) (w : World) (hv : VIn w ao (fun i => xs.getD i v0) xs.length) (hv2 : VIn w bo (fun i => ys.getD i v0) ys.length) (lx : xs.length = n) (ly : ys.length = n) (hn : n ≤ 9223372036854775807) (r : Bool) (hr : xs = ys ↔ r = true) :
    Calls Tryz.prog 44 #[.slice ao n ca, .slice bo n cb] w fun e w' => e = .returned (.bool r) ∧ Qt w w' := by
  have HR := Lib.hid hr
  have HV := Lib.hid hv
  have HV2 := Lib.hid hv2
  have LX := Lib.hid lx
  have LY := Lib.hid ly
  clear hr hv hv2 lx ly
  go_enter Tryz.func44, Tryz.ntmps44
  go_wp2
  go_loopw [5, 13] (fun i0 i wr => ∃ (k : Nat), k ≤ n ∧ i = .int .i64 k ∧ Qt w wr ∧ Hid (∀ j, j < k → xs.getD j v0 = ys.getD j v0)) (fun _ i _ => n - (intOf i).toNat)
  case atStart => exact ⟨0, Nat.zero_le _, rfl, Qt.refl _, fun j h => absurd h (Nat.not_lt_zero j)⟩
  case round =>
    obtain ⟨k, hk, rfl, hkp, HA⟩ := hrel
    by_cases hlt : k < n
    · obtain ⟨b, off, hao, g1⟩ := Ln.VIn.at (Ln.VIn.kp HV.out hkp.kp) (i := k) (by rw [LX.out]; exact hlt)
      subst hao
      obtain ⟨b2, off2, hbo, g2⟩ := Ln.VIn.at (Ln.VIn.kp HV2.out hkp.kp) (i := k) (by rw [LY.out]; exact hlt)
      subst hbo
      have hk0 : (0 : Int) ≤ (k : Int) := Int.natCast_nonneg _
      have hk1 : (k : Int) < (n : Int) := by omega
      have z1 := g1.size
      have z2 := g2.size
      have fx0 := g1.l k (by rw [LX.out]; exact hlt)
      have fy0 := g2.l k (by rw [LY.out]; exact hlt)
      have fx1 := g1.p k (by rw [LX.out]; exact hlt)
      have fy1 := g2.p k (by rw [LY.out]; exact hlt)
      have fx2 := g1.f k (by rw [LX.out]; exact hlt)
      have fy2 := g2.f k (by rw [LY.out]; exact hlt)
      clear g1 g2
      have HXY := Lib.hid (fun (hx : xs.getD k v0 = ys.getD k v0) => (show ∀ j, j < k + 1 → xs.getD j v0 = ys.getD j v0 from fun j hj => by
          rcases Nat.lt_succ_iff_lt_or_eq.1 hj with h2 | h2
          · exact HA.out j h2
          · subst h2; exact hx))
      have FIN := Lib.hid (fun (hx : xs.getD k v0 ≠ ys.getD k v0) => (show r = false by
          have : ¬ r = true := fun e => ne_getD hx (HR.out.2 e)
          simpa using this))
      obtain ⟨x, hxx⟩ : ∃ x, xs.getD k v0 = x := ⟨_, rfl⟩
      obtain ⟨y, hyy⟩ : ∃ y, ys.getD k v0 = y := ⟨_, rfl⟩
      simp only [hxx, hyy] at fx0 fy0 fx1 fy1 fx2 fy2
      rw [hxx, hyy] at HXY FIN
      clear hxx hyy
      have q := fun b hb W => vec_neq x y b hb W
      by_cases hx : x = y
      · have HX := Lib.hid (HXY.out hx)
        clear HXY FIN
        have qq := q false (by simpa using hx)
        clear q
        obtain ⟨x0, x1, x2⟩ := x
        obtain ⟨y0, y1, y2⟩ := y
        simp only at fx0 fy0 fx1 fy1 fx2 fy2 qq
        clear hx
        go_wp2
        go_quiet (fail)
        go_wp2
        go_roundw
        case rel => exact ⟨k + 1, by omega, by go_num, hkp.drew _, HX⟩
        case measure => simp [intOf]; omega
      · have HF := Lib.hid (FIN.out hx)
        clear HXY FIN
        have qq := q true (by simpa using hx)
        clear q
        obtain ⟨x0, x1, x2⟩ := x
        obtain ⟨y0, y1, y2⟩ := y
        simp only at fx0 fy0 fx1 fy1 fx2 fy2 qq
        clear hx
        go_wp2
        go_quiet (fail)
        go_wp2
        go_ret
        exact ⟨ret_bool HF.out.symm, hkp.drew _⟩
    · obtain rfl : k = n := by omega
      go_wp2
      go_ret
      exact ⟨ret_bool (HR.out.1 (ext_getD (d := v0) (by rw [LX.out, LY.out]) (fun j hj => HA.out j (by rw [← LX.out]; exact hj)))).symm, hkp⟩
theorem eqVec_any (ao bo : Option Addr) (ca cb : Nat) (xs ys : List Ln.Vc) (w : World) (hv : VIn w ao (fun i => xs.getD i v0) xs.length) (hv2 : VIn w bo (fun i => ys.getD i v0) ys.length) (hn : xs.length ≤ 9223372036854775807) (r : Bool) (hr : xs = ys ↔ r = true) :
    Calls Tryz.prog 44 #[.slice ao xs.length ca, .slice bo ys.length cb] w fun e w' => e = .returned (.bool r) ∧ Qt w w' := by
  by_cases hnm : xs.length = ys.length
  · have := eqVec_same ao bo ca cb xs.length xs ys w hv hv2 rfl hnm.symm hn r hr
    rw [← hnm]
    exact this
  · have FIN : r = false := by
      have : ¬ r = true := fun e => ne_len hnm (hr.2 e)
      simpa using this
    subst FIN
    have hne : ((xs.length : Int) != (ys.length : Int)) = true := by simpa using (by omega : ¬ (xs.length : Int) = ys.length)
    clear hv hv2 hr
    generalize xs.length = n at *
    generalize ys.length = m at *
    go_enter Tryz.func44, Tryz.ntmps44
    go_wp2
    go_ret
    exact ⟨rfl, Qt.refl _⟩
theorem port_neq (x y : Pt) (b : Bool) (h : x = y ↔ b = false) (w : World) : (binOp .neq 74 (.agg #[.bool x.r, .bool x.w]) (.agg #[.bool y.r, .bool y.w])).run Tryz.prog w = .ok (.bool b) w := by
  have hu := Tryz.underlying74
  have hbool := Tryz.underlying4
  obtain ⟨x0, x1⟩ := x
  obtain ⟨y0, y1⟩ := y
  rw [run_neq_struct, run_equalIn_agg w 9999 _ _ _ pt_st pt_hd]
  cases b with
  | false =>
    have e := h.2 rfl
    rw [Pt.mk.injEq] at e
    obtain ⟨rfl, rfl⟩ := e
    simp [Op.eqFields, Program.fieldsOf, hu, hbool, go_sem]
  | true =>
    have e := mt h.1 (by decide)
    rw [Pt.mk.injEq] at e
    simp [Op.eqFields, Program.fieldsOf, hu, hbool, go_sem]
    first
      | (intro a0 a1; exact e ⟨a0, a1⟩)
      | (revert e; clear hu h hbool; cases x0 <;> cases y0 <;> cases x1 <;> cases y1 <;> simp)
set_option maxHeartbeats 2000000 in
set_option maxRecDepth 100000 in
theorem eqPort_same (ao bo : Option Addr) (ca cb n : Nat) (xs ys : List Pt) (w : World) (hv : PIn w ao xs) (hv2 : PIn w bo ys) (lx : xs.length = n) (ly : ys.length = n) (hn : n ≤ 9223372036854775807) (r : Bool) (hr : xs = ys ↔ r = true) :
    Calls Tryz.prog 46 #[.slice ao n ca, .slice bo n cb] w fun e w' => e = .returned (.bool r) ∧ Qt w w' := by
  have HR := Lib.hid hr
  have HV := Lib.hid hv
  have HV2 := Lib.hid hv2
  have LX := Lib.hid lx
  have LY := Lib.hid ly
  clear hr hv hv2 lx ly
  go_enter Tryz.func46, Tryz.ntmps46
  go_wp2
  go_loopw [5, 13] (fun i0 i wr => ∃ (k : Nat), k ≤ n ∧ i = .int .i64 k ∧ Qt w wr ∧ Hid (∀ j, j < k → xs.getD j p0 = ys.getD j p0)) (fun _ i _ => n - (intOf i).toNat)
  case atStart => exact ⟨0, Nat.zero_le _, rfl, Qt.refl _, fun j h => absurd h (Nat.not_lt_zero j)⟩
  case round =>
    obtain ⟨k, hk, rfl, hkp, HA⟩ := hrel
    by_cases hlt : k < n
    · obtain ⟨b, off, hao, g1⟩ := PIn.at (PIn.kp HV.out hkp.kp) (i := k) (by rw [LX.out]; exact hlt)
      subst hao
      obtain ⟨b2, off2, hbo, g2⟩ := PIn.at (PIn.kp HV2.out hkp.kp) (i := k) (by rw [LY.out]; exact hlt)
      subst hbo
      have hk0 : (0 : Int) ≤ (k : Int) := Int.natCast_nonneg _
      have hk1 : (k : Int) < (n : Int) := by omega
      have z1 := g1.size
      have z2 := g2.size
      have fx0 := g1.r k (by rw [LX.out]; exact hlt)
      have fy0 := g2.r k (by rw [LY.out]; exact hlt)
      have fx1 := g1.w' k (by rw [LX.out]; exact hlt)
      have fy1 := g2.w' k (by rw [LY.out]; exact hlt)
      clear g1 g2
      have HXY := Lib.hid (fun (hx : xs.getD k p0 = ys.getD k p0) => (show ∀ j, j < k + 1 → xs.getD j p0 = ys.getD j p0 from fun j hj => by
          rcases Nat.lt_succ_iff_lt_or_eq.1 hj with h2 | h2
          · exact HA.out j h2
          · subst h2; exact hx))
      have FIN := Lib.hid (fun (hx : xs.getD k p0 ≠ ys.getD k p0) => (show r = false by
          have : ¬ r = true := fun e => ne_getD hx (HR.out.2 e)
          simpa using this))
      obtain ⟨x, hxx⟩ : ∃ x, xs.getD k p0 = x := ⟨_, rfl⟩
      obtain ⟨y, hyy⟩ : ∃ y, ys.getD k p0 = y := ⟨_, rfl⟩
      simp only [hxx, hyy] at fx0 fy0 fx1 fy1
      rw [hxx, hyy] at HXY FIN
      clear hxx hyy
      have q := fun b hb W => port_neq x y b hb W
      by_cases hx : x = y
      · have HX := Lib.hid (HXY.out hx)
        clear HXY FIN
        have qq := q false (by simpa using hx)
        clear q
        obtain ⟨x0, x1⟩ := x
        obtain ⟨y0, y1⟩ := y
        simp only at fx0 fy0 fx1 fy1 qq
        clear hx
        go_wp2
        go_quiet (fail)
        go_wp2
        go_roundw
        case rel => exact ⟨k + 1, by omega, by go_num, hkp.drew _, HX⟩
        case measure => simp [intOf]; omega
      · have HF := Lib.hid (FIN.out hx)
        clear HXY FIN
        have qq := q true (by simpa using hx)
        clear q
        obtain ⟨x0, x1⟩ := x
        obtain ⟨y0, y1⟩ := y
        simp only at fx0 fy0 fx1 fy1 qq
        clear hx
        go_wp2
        go_quiet (fail)
        go_wp2
        go_ret
        exact ⟨ret_bool HF.out.symm, hkp.drew _⟩
    · obtain rfl : k = n := by omega
      go_wp2
      go_ret
      exact ⟨ret_bool (HR.out.1 (ext_getD (d := p0) (by rw [LX.out, LY.out]) (fun j hj => HA.out j (by rw [← LX.out]; exact hj)))).symm, hkp⟩
theorem eqPort_any (ao bo : Option Addr) (ca cb : Nat) (xs ys : List Pt) (w : World) (hv : PIn w ao xs) (hv2 : PIn w bo ys) (hn : xs.length ≤ 9223372036854775807) (r : Bool) (hr : xs = ys ↔ r = true) :
    Calls Tryz.prog 46 #[.slice ao xs.length ca, .slice bo ys.length cb] w fun e w' => e = .returned (.bool r) ∧ Qt w w' := by
  by_cases hnm : xs.length = ys.length
  · have := eqPort_same ao bo ca cb xs.length xs ys w hv hv2 rfl hnm.symm hn r hr
    rw [← hnm]
    exact this
  · have FIN : r = false := by
      have : ¬ r = true := fun e => ne_len hnm (hr.2 e)
      simpa using this
    subst FIN
    have hne : ((xs.length : Int) != (ys.length : Int)) = true := by simpa using (by omega : ¬ (xs.length : Int) = ys.length)
    clear hv hv2 hr
    generalize xs.length = n at *
    generalize ys.length = m at *
    go_enter Tryz.func46, Tryz.ntmps46
    go_wp2
    go_ret
    exact ⟨rfl, Qt.refl _⟩
set_option maxHeartbeats 2000000 in
set_option maxRecDepth 100000 in
theorem eqU32_same (ao bo : Option Addr) (ca cb n : Nat) (xs ys : List Int) (w : World) (hv : UIn w ao xs) (hv2 : UIn w bo ys) (lx : xs.length = n) (ly : ys.length = n) (hn : n ≤ 9223372036854775807) (r : Bool) (hr : xs = ys ↔ r = true) :
    Calls Tryz.prog 45 #[.slice ao n ca, .slice bo n cb] w fun e w' => e = .returned (.bool r) ∧ Qt w w' := by
  have HR := Lib.hid hr
  have HV := Lib.hid hv
  have HV2 := Lib.hid hv2
  have LX := Lib.hid lx
  have LY := Lib.hid ly
  clear hr hv hv2 lx ly
  go_enter Tryz.func45, Tryz.ntmps45
  go_wp2
  go_loopw [5, 13] (fun i0 i wr => ∃ (k : Nat), k ≤ n ∧ i = .int .i64 k ∧ Qt w wr ∧ Hid (∀ j, j < k → xs.getD j 0 = ys.getD j 0)) (fun _ i _ => n - (intOf i).toNat)
  case atStart => exact ⟨0, Nat.zero_le _, rfl, Qt.refl _, fun j h => absurd h (Nat.not_lt_zero j)⟩
  case round =>
    obtain ⟨k, hk, rfl, hkp, HA⟩ := hrel
    by_cases hlt : k < n
    · obtain ⟨b, off, hao, g1⟩ := UIn.at (UIn.kp HV.out hkp.kp) (i := k) (by rw [LX.out]; exact hlt)
      subst hao
      obtain ⟨b2, off2, hbo, g2⟩ := UIn.at (UIn.kp HV2.out hkp.kp) (i := k) (by rw [LY.out]; exact hlt)
      subst hbo
      have hk0 : (0 : Int) ≤ (k : Int) := Int.natCast_nonneg _
      have hk1 : (k : Int) < (n : Int) := by omega
      have z1 := g1.size
      have z2 := g2.size
      have fx0 := g1.at' k (by rw [LX.out]; exact hlt)
      have fy0 := g2.at' k (by rw [LY.out]; exact hlt)
      clear g1 g2
      have HXY := Lib.hid (fun (hx : xs.getD k 0 = ys.getD k 0) => (show ∀ j, j < k + 1 → xs.getD j 0 = ys.getD j 0 from fun j hj => by
          rcases Nat.lt_succ_iff_lt_or_eq.1 hj with h2 | h2
          · exact HA.out j h2
          · subst h2; exact hx))
      have FIN := Lib.hid (fun (hx : xs.getD k 0 ≠ ys.getD k 0) => (show r = false by
          have : ¬ r = true := fun e => ne_getD hx (HR.out.2 e)
          simpa using this))
      obtain ⟨x, hxx⟩ : ∃ x, xs.getD k 0 = x := ⟨_, rfl⟩
      obtain ⟨y, hyy⟩ : ∃ y, ys.getD k 0 = y := ⟨_, rfl⟩
      simp only [hxx, hyy] at fx0 fy0
      rw [hxx, hyy] at HXY FIN
      clear hxx hyy
      by_cases hx : x = y
      · have HX := Lib.hid (HXY.out hx)
        clear HXY FIN
        have qq : (x != y) = false := by simpa using hx
        clear hx
        go_wp2
        go_quiet (fail)
        go_wp2
        go_roundw
        case rel => exact ⟨k + 1, by omega, by go_num, hkp.drew _, HX⟩
        case measure => simp [intOf]; omega
      · have HF := Lib.hid (FIN.out hx)
        clear HXY FIN
        have qq : (x != y) = true := by simpa using hx
        clear hx
        go_wp2
        go_quiet (fail)
        go_wp2
        go_ret
        exact ⟨ret_bool HF.out.symm, hkp.drew _⟩
    · obtain rfl : k = n := by omega
      go_wp2
      go_ret
      exact ⟨ret_bool (HR.out.1 (ext_getD (d := 0) (by rw [LX.out, LY.out]) (fun j hj => HA.out j (by rw [← LX.out]; exact hj)))).symm, hkp⟩
theorem eqU32_any (ao bo : Option Addr) (ca cb : Nat) (xs ys : List Int) (w : World) (hv : UIn w ao xs) (hv2 : UIn w bo ys) (hn : xs.length ≤ 9223372036854775807) (r : Bool) (hr : xs = ys ↔ r = true) :
    Calls Tryz.prog 45 #[.slice ao xs.length ca, .slice bo ys.length cb] w fun e w' => e = .returned (.bool r) ∧ Qt w w' := by
  by_cases hnm : xs.length = ys.length
  · have := eqU32_same ao bo ca cb xs.length xs ys w hv hv2 rfl hnm.symm hn r hr
    rw [← hnm]
    exact this
  · have FIN : r = false := by
      have : ¬ r = true := fun e => ne_len hnm (hr.2 e)
      simpa using this
    subst FIN
    have hne : ((xs.length : Int) != (ys.length : Int)) = true := by simpa using (by omega : ¬ (xs.length : Int) = ys.length)
    clear hv hv2 hr
    generalize xs.length = n at *
    generalize ys.length = m at *
    go_enter Tryz.func45, Tryz.ntmps45
    go_wp2
    go_ret
    exact ⟨rfl, Qt.refl _⟩
set_option maxHeartbeats 2000000 in
set_option maxRecDepth 100000 in
theorem eqInt_same (ao bo : Option Addr) (ca cb n : Nat) (xs ys : List Int) (w : World) (hv : IIn w ao (fun j => xs.getD j 0) xs.length) (hv2 : IIn w bo (fun j => ys.getD j 0) ys.length) (lx : xs.length = n) (ly : ys.length = n) (hn : n ≤ 9223372036854775807) (r : Bool) (hr : xs = ys ↔ r = true) :
    Calls Tryz.prog 48 #[.slice ao n ca, .slice bo n cb] w fun e w' => e = .returned (.bool r) ∧ Qt w w' := by
  have HR := Lib.hid hr
  have HV := Lib.hid hv
  have HV2 := Lib.hid hv2
  have LX := Lib.hid lx
  have LY := Lib.hid ly
  clear hr hv hv2 lx ly
  go_enter Tryz.func48, Tryz.ntmps48
  go_wp2
  go_loopw [5, 13] (fun i0 i wr => ∃ (k : Nat), k ≤ n ∧ i = .int .i64 k ∧ Qt w wr ∧ Hid (∀ j, j < k → xs.getD j 0 = ys.getD j 0)) (fun _ i _ => n - (intOf i).toNat)
  case atStart => exact ⟨0, Nat.zero_le _, rfl, Qt.refl _, fun j h => absurd h (Nat.not_lt_zero j)⟩
  case round =>
    obtain ⟨k, hk, rfl, hkp, HA⟩ := hrel
    by_cases hlt : k < n
    · obtain ⟨b, off, hao, g1⟩ := IIn.at (Co.IIn.kp HV.out hkp.kp) (i := k) (by rw [LX.out]; exact hlt)
      subst hao
      obtain ⟨b2, off2, hbo, g2⟩ := IIn.at (Co.IIn.kp HV2.out hkp.kp) (i := k) (by rw [LY.out]; exact hlt)
      subst hbo
      have hk0 : (0 : Int) ≤ (k : Int) := Int.natCast_nonneg _
      have hk1 : (k : Int) < (n : Int) := by omega
      have z1 := g1.size
      have z2 := g2.size
      have fx0 := g1.at' k (by rw [LX.out]; exact hlt)
      have fy0 := g2.at' k (by rw [LY.out]; exact hlt)
      clear g1 g2
      have HXY := Lib.hid (fun (hx : xs.getD k 0 = ys.getD k 0) => (show ∀ j, j < k + 1 → xs.getD j 0 = ys.getD j 0 from fun j hj => by
          rcases Nat.lt_succ_iff_lt_or_eq.1 hj with h2 | h2
          · exact HA.out j h2
          · subst h2; exact hx))
      have FIN := Lib.hid (fun (hx : xs.getD k 0 ≠ ys.getD k 0) => (show r = false by
          have : ¬ r = true := fun e => ne_getD hx (HR.out.2 e)
          simpa using this))
      obtain ⟨x, hxx⟩ : ∃ x, xs.getD k 0 = x := ⟨_, rfl⟩
      obtain ⟨y, hyy⟩ : ∃ y, ys.getD k 0 = y := ⟨_, rfl⟩
      simp only [hxx, hyy] at fx0 fy0
      rw [hxx, hyy] at HXY FIN
      clear hxx hyy
      by_cases hx : x = y
      · have HX := Lib.hid (HXY.out hx)
        clear HXY FIN
        have qq : (x != y) = false := by simpa using hx
        clear hx
        go_wp2
        go_quiet (fail)
        go_wp2
        go_roundw
        case rel => exact ⟨k + 1, by omega, by go_num, hkp.drew _, HX⟩
        case measure => simp [intOf]; omega
      · have HF := Lib.hid (FIN.out hx)
        clear HXY FIN
        have qq : (x != y) = true := by simpa using hx
        clear hx
        go_wp2
        go_quiet (fail)
        go_wp2
        go_ret
        exact ⟨ret_bool HF.out.symm, hkp.drew _⟩
    · obtain rfl : k = n := by omega
      go_wp2
      go_ret
      exact ⟨ret_bool (HR.out.1 (ext_getD (d := 0) (by rw [LX.out, LY.out]) (fun j hj => HA.out j (by rw [← LX.out]; exact hj)))).symm, hkp⟩
theorem eqInt_any (ao bo : Option Addr) (ca cb : Nat) (xs ys : List Int) (w : World) (hv : IIn w ao (fun j => xs.getD j 0) xs.length) (hv2 : IIn w bo (fun j => ys.getD j 0) ys.length) (hn : xs.length ≤ 9223372036854775807) (r : Bool) (hr : xs = ys ↔ r = true) :
    Calls Tryz.prog 48 #[.slice ao xs.length ca, .slice bo ys.length cb] w fun e w' => e = .returned (.bool r) ∧ Qt w w' := by
  by_cases hnm : xs.length = ys.length
  · have := eqInt_same ao bo ca cb xs.length xs ys w hv hv2 rfl hnm.symm hn r hr
    rw [← hnm]
    exact this
  · have FIN : r = false := by
      have : ¬ r = true := fun e => ne_len hnm (hr.2 e)
      simpa using this
    subst FIN
    have hne : ((xs.length : Int) != (ys.length : Int)) = true := by simpa using (by omega : ¬ (xs.length : Int) = ys.length)
    clear hv hv2 hr
    generalize xs.length = n at *
    generalize ys.length = m at *
    go_enter Tryz.func48, Tryz.ntmps48
    go_wp2
    go_ret
    exact ⟨rfl, Qt.refl _⟩
end Im
end Go.Proofs.YtaeblnlbelebkaaGreatDoor
