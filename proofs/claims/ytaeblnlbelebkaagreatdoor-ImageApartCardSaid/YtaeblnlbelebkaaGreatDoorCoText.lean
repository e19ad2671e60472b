/-
  WALKS: package code, the text of a number and of an instruction. Own work.
-/
import Derived.Test.YtaeblnlbelebkaaGreatDoorCoEffect
import Derived.Lib.AppendIntMem
import Derived.Lib.ItoaLen
namespace Go.Proofs.YtaeblnlbelebkaaGreatDoor
namespace Co
open Go.RowKit Go
set_option linter.unusedVariables false

/-- What the text of a number reads: the powers of ten. -/
structure Pw (w : World) : Prop where
  pow : Lib.TabIs Tryz.prog w "internal/strconv.uint64pow10" .u64 Lib.pow10Tab
theorem Pw.kept {w w' : World} (h : Pw w) (k : Kp w w') : Pw w' where
  pow := var_kept (g := 3) (by kernel_rfl) k h.pow
theorem Itoa_any {w : World} (hP : Pw w) (n : Int) (h0 : -9223372036854775808 ≤ n) (h1 : n ≤ 9223372036854775807) :
    Calls Tryz.prog 96 #[.int .i64 n] w fun e w' => e = .returned (.string (bytesOf (Lib.itoa n))) ∧ Kp w w' :=
  (Tryz.strconv_Itoa n h0 h1 w hP.pow).mono fun e w' ⟨he, k, os, hw⟩ => ⟨he, by rw [hw]; exact ⟨Lib.below_grow _ w (Nat.le_refl _) k os⟩⟩
theorem print_any {w : World} (hE : Env w) (hP : Pw w) (k n : Int) (h0 : -9223372036854775808 ≤ n) (h1 : n ≤ 9223372036854775807) :
    Calls Tryz.prog 93 #[.int .i64 k, .int .i64 n] w fun e w' => e = .returned (.string (bytesOf (prt k n))) ∧ Kp w w' := by
  by_cases h5 : k = 5
  · subst h5
    have e : prt 5 n = signL n := rfl
    rw [e]
    go_enter Tryz.func93, Tryz.ntmps93
    go_wp2_with (go_at_call 111; refine (Sign_any hE.signs n).mono ?_; rintro e w1 ⟨rfl, rfl⟩)
    go_ret
    exact ⟨rfl, Kp.refl _⟩
  by_cases h6 : k = 6
  · subst h6
    have e : prt 6 n = nameL n := rfl
    rw [e]
    go_enter Tryz.func93, Tryz.ntmps93
    go_wp2_with (go_at_call 112; refine (Name_any hE.names n).mono ?_; rintro e w1 ⟨rfl, rfl⟩)
    go_ret
    exact ⟨rfl, Kp.refl _⟩
  have e : prt k n = Lib.itoa n := by unfold prt; rw [if_neg h5, if_neg h6]
  rw [e]
  have b5 : (k == 5) = false := by simpa using h5
  have b6 : (k == 6) = false := by simpa using h6
  clear e
  go_enter Tryz.func93, Tryz.ntmps93
  go_wp2_with (go_at_call 96; refine (Itoa_any hP n h0 h1).mono ?_; rintro e w1 ⟨rfl, k1⟩)
  go_ret
  exact ⟨rfl, k1⟩

def sel3 {α : Type} (a b c : α) : Nat → α
  | 0 => a
  | 1 => b
  | _ => c
def upTo (nm : List UInt8) (kf nf : Nat → Int) : Nat → List UInt8
  | 0 => nm
  | k + 1 => upTo nm kf nf k ++ part (kf k) (nf k)
theorem part_bd {k n : Int} (h0 : -9223372036854775808 ≤ n) (h1 : n ≤ 9223372036854775807) : (prt k n).length ≤ 21 := by
  unfold prt
  split
  · by_cases h : n < 1 ∨ 19 < n
    · unfold signL; rw [if_pos h]; simp
    · have := sign_len ⟨n.toNat, by omega⟩
      simp only [Int.toNat_of_nonneg (show 0 ≤ n by omega)] at this
      omega
  · split
    · by_cases h : n < 1 ∨ 3 < n
      · unfold nameL; rw [if_pos h]; simp
      · have := name_len ⟨n.toNat, by omega⟩
        simp only [Int.toNat_of_nonneg (show 0 ≤ n by omega)] at this
        omega
    · exact Lib.itoa_length_le n h0 h1
theorem upTo_bd {nm : List UInt8} {kf nf : Nat → Int} (hn : nm.length ≤ 4) (hf : ∀ j, -9223372036854775808 ≤ nf j ∧ nf j ≤ 9223372036854775807) : ∀ k, k ≤ 3 → (upTo nm kf nf k).length ≤ 4 + 22 * k
  | 0, _ => by simpa [upTo] using hn
  | k + 1, hk => by
    have ih := upTo_bd (kf := kf) hn hf k (by omega)
    have p := part_bd (k := kf k) (hf k).1 (hf k).2
    have q : (part (kf k) (nf k)).length ≤ 22 := by
      unfold part
      split
      · simp
      · simp; omega
    simp only [upTo, List.length_append]
    omega
theorem sel3_bd {x y z : Int} (hx : -9223372036854775808 ≤ x ∧ x ≤ 9223372036854775807) (hy : -9223372036854775808 ≤ y ∧ y ≤ 9223372036854775807) (hz : -9223372036854775808 ≤ z ∧ z ≤ 9223372036854775807) : ∀ j, -9223372036854775808 ≤ sel3 x y z j ∧ sel3 x y z j ≤ 9223372036854775807
  | 0 => hx
  | 1 => hy
  | _ + 2 => hz
theorem sel_ix (a b c : Int) (k : Nat) (w : World) (hk : k < 3) : (Instr.index 129 (.agg #[.int .i64 a, .int .i64 b, .int .i64 c]) (.int .i64 (k : Int))).run Tryz.prog w = .ok (.int .i64 (sel3 a b c k)) w := by
  obtain rfl | rfl | rfl : k = 0 ∨ k = 1 ∨ k = 2 := by omega
  · show (Instr.index 129 (.agg #[.int .i64 a, .int .i64 b, .int .i64 c]) (.int .i64 0)).run Tryz.prog w = .ok (.int .i64 a) w
    kernel_rfl
  · show (Instr.index 129 (.agg #[.int .i64 a, .int .i64 b, .int .i64 c]) (.int .i64 1)).run Tryz.prog w = .ok (.int .i64 b) w
    kernel_rfl
  · show (Instr.index 129 (.agg #[.int .i64 a, .int .i64 b, .int .i64 c]) (.int .i64 2)).run Tryz.prog w = .ok (.int .i64 c) w
    kernel_rfl
theorem opL_len : ∀ n : Fin 25, (opL n.val).length ≤ 4 := by decide +kernel
theorem opL_bd (op : Int) : (opL op).length ≤ 4 := by
  by_cases h : op < 0 ∨ 25 ≤ op
  · unfold opL; rw [rowAt_out h]; simp [r0]
  · have := opL_len ⟨op.toNat, by omega⟩
    simpa only [Int.toNat_of_nonneg (show 0 ≤ op by omega)] using this
theorem txt_upTo {i : In} (h : chk i = true) : txt i = upTo (opL i.op) (sel3 (rowAt i.op).a (rowAt i.op).b (rowAt i.op).c) (sel3 i.a i.b i.c) 3 := by
  unfold txt
  rw [if_pos h]
  rfl

theorem Text_bad {w : World} (hE : Env w) (i : In) (hi : Wf i) (hc : chk i = false) :
    Calls Tryz.prog 52 #[.agg #[.int .i64 i.op, .int .i64 i.a, .int .i64 i.b, .int .i64 i.c]] w fun r w' => r = .returned (.string (bytesOf [])) ∧ Kp w w' := by
  have H := Lib.hid (chkE_no hc)
  have HI := Lib.hid hi
  clear hc hi
  go_enter Tryz.func52, Tryz.ntmps52
  go_wp2_with (go_at_call 89; refine (Check_r (hE.kept ((Kp.refl w).alloc _ _)) _ _ _ _ 2 HI.out H.out).mono ?_; rintro e w1 ⟨rfl, k1⟩)
  go_ret
  exact ⟨rfl, ((Kp.refl w).alloc _ _).trans k1⟩
set_option maxHeartbeats 1000000 in
set_option maxRecDepth 100000 in
theorem Text_good {w : World} (hE : Env w) (hP : Pw w) (i : In) (hi : Wf i) (nm : List UInt8) (a b c tk gv : Int) (jm sp : Bool) (h : rowAt i.op = ⟨nm, a, b, c, tk, gv, jm, sp⟩) (hc : chk i = true) (s : List UInt8) (hs : upTo (opL i.op) (sel3 a b c) (sel3 i.a i.b i.c) 3 = s) :
    Calls Tryz.prog 52 #[.agg #[.int .i64 i.op, .int .i64 i.a, .int .i64 i.b, .int .i64 i.c]] w fun r w' => r = .returned (.string (bytesOf s)) ∧ Kp w w' := by
  have H := Lib.hid (chkE_yes hc)
  have HI := Lib.hid hi
  have HR := Lib.hid h
  have HS := Lib.hid hs
  have hf := sel3_bd hi.a hi.b hi.c
  have HB := Lib.hid (fun k (hk : k ≤ 3) => upTo_bd (kf := sel3 a b c) (opL_bd i.op) hf k hk)
  have HF := Lib.hid hf
  clear hc hi h hs hf
  go_enter Tryz.func52, Tryz.ntmps52
  go_wp2_with fail
  refine (Check_r (hE.kept ((Kp.refl w).alloc _ _)) _ _ _ _ 0 HI.out H.out).mono ?_
  rintro e w1 ⟨rfl, k1⟩
  have hc1 := k1.cells
  have hz1 := size_alloc k1
  have kk1 := ((Kp.refl w).alloc _ _).trans k1
  go_wp2_with fail
  refine (nameOf_any (hE.kept kk1).rows i.op).mono ?_
  rintro e w2 ⟨rfl, k2⟩
  have hc2 := k2.cells
  have hz2 := Nat.lt_of_lt_of_le hz1 k2.size
  have kk2 := kk1.trans k2
  go_wp2_with fail
  refine (rowOf_any (hE.kept (kk2.alloc _ _)).rows i.op nm a b c tk gv jm sp HR.out).mono ?_
  rintro e w3 ⟨rfl, k3⟩
  have hc3 := k3.cells
  have kk3 := (kk2.alloc _ _).trans k3
  go_wp2_with fail
  refine (kinds_any w3 (bytesOf nm) a b c tk gv jm sp).mono ?_
  rintro e w4 ⟨rfl, k4⟩
  have hc4 := k4.cells
  have kk4 := kk3.trans k4
  have hz3 := size_alloc k3
  have hz4 := Nat.lt_of_lt_of_le hz3 k4.size
  have cn : ∀ j, j < 3 → w4.cell? ⟨w2.heap.size, j, none⟩ = some (.int .i64 (sel3 i.a i.b i.c j)) := fun j hj => by
    rw [hc4 _ _ hz3, hc3 _ _ (by simp)]
    match j, hj with
    | 0, _ => simp [sel3]
    | 1, _ => simp [sel3]
    | 2, _ => simp [sel3]
  have CN := Lib.hid cn
  clear hc1 hc2 hc3 hc4 cn
  go_wp2
  go_loopw [3, 24] (fun t i' wr => ∃ k : Nat, k ≤ 3 ∧ i' = .int .i64 k ∧ t = .string (bytesOf (upTo (opL i.op) (sel3 a b c) (sel3 i.a i.b i.c) k)) ∧ Kp w4 wr) (fun _ i' _ => 3 - (intOf i').toNat)
  case atStart => exact ⟨0, by omega, rfl, rfl, Kp.refl _⟩
  case round =>
    obtain ⟨k, hk, rfl, rfl, kr⟩ := hrel
    by_cases hlt : k < 3
    · have hix := fun W => sel_ix a b c k W hlt
      have hcell : wr.cell? ⟨w2.heap.size, k, none⟩ = some (.int .i64 (sel3 i.a i.b i.c k)) := (kr.cells _ _ hz4).trans (CN.out k hlt)
      have hnb := HF.out k
      have hub := HB.out k hk
      have hpb := part_bd (k := sel3 a b c k) hnb.1 hnb.2
      have E1 : upTo (opL i.op) (sel3 a b c) (sel3 i.a i.b i.c) (k + 1) = upTo (opL i.op) (sel3 a b c) (sel3 i.a i.b i.c) k ++ part (sel3 a b c k) (sel3 i.a i.b i.c k) := rfl
      generalize hU : upTo (opL i.op) (sel3 a b c) (sel3 i.a i.b i.c) k = U at *
      generalize hV : upTo (opL i.op) (sel3 a b c) (sel3 i.a i.b i.c) (k + 1) = V at *
      generalize hK : sel3 a b c k = K at *
      generalize hN : sel3 i.a i.b i.c k = N at *
      by_cases h0 : K = 0
      · have b0 : (K != 0) = false := by simp [h0]
        have e : part K N = [] := by unfold part; rw [if_pos h0]
        rw [e, List.append_nil] at E1
        have HE1 := Lib.hid E1
        have HV := Lib.hid hV
        clear E1 e h0 hU hV hK hN
        go_wp2
        go_roundw
        case rel => exact ⟨k + 1, by omega, by go_num, by rw [HV.out, HE1.out], kr⟩
        case measure => simp [intOf]; omega
      · have b0 : (K != 0) = true := by simp [h0]
        have e : part K N = 32 :: prt K N := by unfold part; rw [if_neg h0]
        rw [e] at E1
        have es : (bytesOf U).size ≤ 100 := by rw [bytesOf_size]; omega
        have ep : (bytesOf (prt K N)).size ≤ 100 := by rw [bytesOf_size]; omega
        have HE1 := Lib.hid E1
        have HV := Lib.hid hV
        clear E1 e hU hV hK hN h0
        go_wp2_with (go_at_call 93; refine (print_any (hE.kept (kk4.trans kr)) (hP.kept (kk4.trans kr)) K N hnb.1 hnb.2).mono ?_; rintro e w5 ⟨rfl, k5⟩)
        go_roundw
        case rel => exact ⟨k + 1, by omega, by go_num, by rw [HV.out, HE1.out, ← bytesOf_append]; rfl, kr.trans k5⟩
        case measure => simp [intOf]; omega
    · obtain rfl : k = 3 := by omega
      go_wp2
      go_ret
      exact ⟨ret_str (by rw [HS.out]), kk4.trans kr⟩
theorem Text_any {w : World} (hE : Env w) (hP : Pw w) (i : In) (hi : Wf i) :
    Calls Tryz.prog 52 #[.agg #[.int .i64 i.op, .int .i64 i.a, .int .i64 i.b, .int .i64 i.c]] w fun r w' => r = .returned (.string (bytesOf (txt i))) ∧ Kp w w' := by
  cases hc : chk i with
  | false => rw [txt_no hc]; exact Text_bad hE i hi hc
  | true =>
    rw [txt_upTo hc]
    generalize hr : rowAt i.op = r
    obtain ⟨nm, a, b, c, tk, gv, jm, sp⟩ := r
    exact Text_good hE hP i hi nm a b c tk gv jm sp hr hc _ rfl
end Co
end Go.Proofs.YtaeblnlbelebkaaGreatDoor
