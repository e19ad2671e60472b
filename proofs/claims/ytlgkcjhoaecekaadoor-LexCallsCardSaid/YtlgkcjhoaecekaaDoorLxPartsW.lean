/-
  WALKS: the statement LexParts. Own work.
-/
import Derived.Test.YtlgkcjhoaecekaaDoorLxParts
import Derived.Test.YtlgkcjhoaecekaaDoorLxAsk
namespace Go.Proofs.YtlgkcjhoaecekaaDoor
namespace Lx
open Go.RowKit Go
set_option linter.unusedVariables false

theorem bytesOf_mk (s : ByteArray) : bytesOf s.data.toList = s := Lib.mk_data s
theorem Locd.len : ∀ {a s : List UInt8} {ts : List Tk}, Locd a s ts → ts.length ≤ s.length
  | _, _, [], _ => Nat.zero_le _
  | _, _, t :: ts, h => by
    obtain ⟨g, r, rfl, _, h3, h4⟩ := h
    have h5 := Locd.len h4
    have h6 : 0 < t.t.length := List.length_pos_iff.2 h3
    simp only [List.length_append, List.length_cons]
    omega
theorem Lex_len {s : List UInt8} {ts : List Tk} (h : Lex s 1 1 = .ok ts) : ts.length ≤ s.length :=
  ((Lex_locd s.length (a := []) (Nat.le_refl _) rfl).1 ts h).len
theorem res_cases (s : List UInt8) : ∃ ts fe fl fc, resT (Lex s 1 1) = ts ∧ resE (Lex s 1 1) = fe ∧ resL (Lex s 1 1) = fl ∧ resC (Lex s 1 1) = fc ∧ ((Lex s 1 1 = .ok ts ∧ fe = 0 ∧ fl = 0 ∧ fc = 0) ∨ fe = 11) := by
  refine ⟨_, _, _, _, rfl, rfl, rfl, rfl, ?_⟩
  cases h : Lex s 1 1 with
  | ok ts => exact .inl ⟨rfl, rfl, rfl, rfl⟩
  | error x => exact .inr rfl
theorem add_wide {P : Program} {a b : List UInt8} (W : World) (h : a.length + b.length ≤ 65536) : (Op.stringOp .add (bytesOf a) (bytesOf b)).run P W = .ok (.string (bytesOf (a ++ b))) W := by
  rw [run_string_add_sum W _ _ (by rw [bytesOf_size, bytesOf_size]; omega), bytesOf_append]
theorem TIn.left {w : World} {ao : Option Addr} {l m : List Tk} (h : TIn w ao (l ++ m)) : TIn w ao l := by
  rcases h with h | ⟨b, off, e, g⟩
  · exact .inl (by simp at h; simp [h.1])
  · have q : ∀ i, i < l.length → i < (l ++ m).length ∧ (l ++ m).getD i t0 = l.getD i t0 := fun i hi => ⟨by simp; omega, by
      rw [List.getD_eq_getElem?_getD, List.getElem?_append_left hi, ← List.getD_eq_getElem?_getD]⟩
    exact .inr ⟨b, off, e, g.size, fun i hi => by rw [← (q i hi).2]; exact g.k i (q i hi).1, fun i hi => by rw [← (q i hi).2]; exact g.t i (q i hi).1, fun i hi => by rw [← (q i hi).2]; exact g.l' i (q i hi).1, fun i hi => by rw [← (q i hi).2]; exact g.c i (q i hi).1, fun i hi => by rw [← (q i hi).2]; exact g.n i (q i hi).1⟩
theorem getD_shift {l m : List Tk} {d : Int} {k : Nat} (hk : k < m.length) : (l ++ m.map (shiftT d)).getD (l.length + k) t0 = shiftT d (m.getD k t0) := by
  rw [List.getD_eq_getElem?_getD, List.getElem?_append_right (by omega), Nat.add_sub_cancel_left, List.getElem?_map, getD_some (d := t0) hk]
  rfl
/-- As All_q, with the row's room. -/
theorem All_qc {w : World} (hE : Env w) (s : List UInt8) (hl : s.length ≤ 65536) (ts : List Tk) (fe fl fc : Int) (h1 : resT (Lex s 1 1) = ts) (h2 : resE (Lex s 1 1) = fe) (h3 : resL (Lex s 1 1) = fl) (h4 : resC (Lex s 1 1) = fc) :
    Calls Tryd.prog 8 #[.string (bytesOf s)] w fun e w' => ∃ ao cap, e = .returned (.tuple #[.slice ao ts.length cap, .agg #[.int .i64 fe, .int .i64 fl, .int .i64 fc]]) ∧ ts.length ≤ cap ∧ TIn w' ao ts ∧ Kp w w' :=
  (All_any hE s hl ts fe fl fc h1 h2 h3 h4).mono fun e w' ⟨tv, he, ho, k⟩ => by
    obtain ⟨ao, cap, rfl, hc, _, _⟩ := own_form ho
    exact ⟨ao, cap, he, hc, row_K ho, k⟩
theorem posL_le (a : List UInt8) : (posL a).1 ≤ (a.length : Int) + 1 := by
  unfold posL
  have h1 := List.length_filter_le (fun b => b == (10 : UInt8)) a
  simp only
  omega
theorem Locd.line : ∀ {a s : List UInt8} {ts : List Tk}, Locd a s ts → ∀ t ∈ ts, 1 ≤ t.l ∧ t.l ≤ ((a ++ s).length : Int) + 1
  | _, _, [], _, t, ht => by simp at ht
  | a, _, u :: ts, h, t, ht => by
    obtain ⟨g, r, rfl, h2, h3, h4⟩ := h
    rcases List.mem_cons.1 ht with rfl | ht
    · have h5 := posL_le (a ++ g)
      have h6 := (posL_one (a ++ g)).1
      rw [h2] at h5 h6
      refine ⟨h6, ?_⟩
      simp only [List.length_append] at h5 ⊢
      omega
    · have := Locd.line h4 t ht
      refine ⟨this.1, ?_⟩
      have h6 := this.2
      simp only [List.length_append] at h6 ⊢
      omega
theorem Lex_line {s : List UInt8} {ts : List Tk} (h : Lex s 1 1 = .ok ts) {k : Nat} (hk : k < ts.length) : 1 ≤ (ts.getD k t0).l ∧ (ts.getD k t0).l ≤ (s.length : Int) + 1 := by
  have := ((Lex_locd s.length (a := []) (Nat.le_refl _) rfl).1 ts h).line (ts.getD k t0) (by
    have := getD_some (d := t0) hk
    exact List.mem_of_getElem? this)
  simpa using this
theorem noNl_of {z : UInt8} (h : z ≠ 10) : noNl z = true := by
  unfold noNl
  simpa using h
theorem flt_ne (x y : Int) (W : World) : Sem.run Tryd.prog (binOp .neq 25 (.agg #[.int .i64 11, .int .i64 x, .int .i64 y]) (.agg #[.int .i64 0, .int .i64 0, .int .i64 0])) W = .ok (.bool true) W := by kernel_rfl
theorem flt_z (W : World) : Sem.run Tryd.prog (binOp .neq 25 (.agg #[.int .i64 0, .int .i64 0, .int .i64 0]) (.agg #[.int .i64 0, .int .i64 0, .int .i64 0])) W = .ok (.bool false) W := by kernel_rfl
set_option maxHeartbeats 4000000 in
set_option maxRecDepth 100000 in
theorem parts_walk (a b remark : List UInt8) (w : World) (hE : Env w) (ha : (bytesOf a).size ≤ 9223372036854775807) (hb : (bytesOf b).size ≤ 9223372036854775807) (hr : (bytesOf remark).size ≤ 9223372036854775807) :
    Calls Tryd.prog 6 #[.string (bytesOf a), .string (bytesOf b), .string (bytesOf remark)] w fun e w' => e = .returned (.bool true) ∧ Kp w w' := by
  have q0 := flt_z
  have q1 := flt_ne
  have HE := Lib.hid hE
  clear hE
  by_cases ga : 2000 < (bytesOf a).size
  · have ga' : (2000 : Int) < ((bytesOf a).size : Int) := by omega
    go_enter Tryd.func6, Tryd.ntmps6
    go_wp2_with fail
    refine (lives_any HE.out).mono ?_
    rintro e w1 ⟨rfl, k1⟩
    go_wp2
    go_ret
    exact ⟨rfl, k1⟩
  by_cases gb : 2000 < (bytesOf b).size
  · have ga' : ((bytesOf a).size : Int) ≤ 2000 := by omega
    have gb' : (2000 : Int) < ((bytesOf b).size : Int) := by omega
    go_enter Tryd.func6, Tryd.ntmps6
    go_wp2_with fail
    refine (lives_any HE.out).mono ?_
    rintro e w1 ⟨rfl, k1⟩
    go_wp2
    go_ret
    exact ⟨rfl, k1⟩
  by_cases gr : 100 < (bytesOf remark).size
  · have ga' : ((bytesOf a).size : Int) ≤ 2000 := by omega
    have gb' : ((bytesOf b).size : Int) ≤ 2000 := by omega
    have gr' : (100 : Int) < ((bytesOf remark).size : Int) := by omega
    go_enter Tryd.func6, Tryd.ntmps6
    go_wp2_with fail
    refine (lives_any HE.out).mono ?_
    rintro e w1 ⟨rfl, k1⟩
    go_wp2
    go_ret
    exact ⟨rfl, k1⟩
  have ga' : ((bytesOf a).size : Int) ≤ 2000 := by omega
  have gb' : ((bytesOf b).size : Int) ≤ 2000 := by omega
  have gr' : ((bytesOf remark).size : Int) ≤ 100 := by omega
  have SA := Lib.hid (show a.length ≤ 2000 by rw [← bytesOf_size]; omega)
  have SB := Lib.hid (show b.length ≤ 2000 by rw [← bytesOf_size]; omega)
  have SR := Lib.hid (show remark.length ≤ 100 by rw [← bytesOf_size]; omega)
  have SZ := Lib.hid (bytesOf_size remark)
  clear ga gb gr ha hb hr
  go_enter Tryd.func6, Tryd.ntmps6
  go_wp2_with fail
  refine (lives_any HE.out).mono ?_
  rintro e w1 ⟨rfl, k1⟩
  have K1 := Lib.hid k1
  clear k1
  go_wp2
  go_loopw [7] (fun i wr => ∃ k : Nat, k ≤ (bytesOf remark).size ∧ i = .int .i64 k ∧ Qt w1 wr ∧ Hid (∀ j (hj : j < remark.length), j < k → noNl remark[j] = true)) (fun i _ => (bytesOf remark).size - (intOf i).toNat)
  case atStart => exact ⟨0, Nat.zero_le _, rfl, Qt.refl _, Lib.hid (fun j hj h => absurd h (Nat.not_lt_zero _))⟩
  case round =>
    obtain ⟨k, hk, rfl, hq, hall⟩ := hrel
    by_cases hlt : k < (bytesOf remark).size
    · have HB := Lib.hid (byte_at remark k hlt (by rw [← SZ.out]; exact hlt))
      have hk0 : (0 : Int) ≤ (k : Int) := Int.natCast_nonneg _
      have hk1 : (k : Int) < ((bytesOf remark).size : Int) := by omega
      by_cases h10 : (bytesOf remark)[k] = 10
      · go_wp2
        go_ret
        exact ⟨rfl, K1.out.trans hq.kp⟩
      · have HN : Hid (∀ j (hj : j < remark.length), j < k + 1 → noNl remark[j] = true) := Lib.hid (fun j hj hjk => by
          rcases Nat.lt_succ_iff_lt_or_eq.1 hjk with h2 | h2
          · exact hall.out j hj h2
          · subst h2
            have e := HB.out
            exact noNl_of (fun e2 => h10 (e.trans e2)))
        have h11 : ¬ (((bytesOf remark)[k].toNat : Int) = 10) := fun e => h10 (by
          have e2 : (bytesOf remark)[k].toNat = 10 := by omega
          exact UInt8.toNat_inj.1 e2)
        go_wp2
        exact ⟨⟨k + 1, by omega, by go_num, hq, HN⟩, by simp [intOf]; omega⟩
    · obtain rfl : k = (bytesOf remark).size := by omega
      have HR : Hid (∀ x ∈ remark, noNl x = true) := Lib.hid (fun x hx => by
        obtain ⟨j, hj, rfl⟩ := List.getElem_of_mem hx
        exact hall.out j hj (by rw [SZ.out]; exact hj))
      have K2 := Lib.hid (K1.out.trans hq.kp)
      clear hq hall K1 hlt hk
      obtain ⟨la, fe, fl, fc, ra1, ra2, ra3, ra4, hca⟩ := res_cases a
      obtain ⟨lb, ge, gl, gc, rb1, rb2, rb3, rb4, hcb⟩ := res_cases b
      have HCA := Lib.hid hca
      have HCB := Lib.hid hcb
      have RB := Lib.hid (And.intro rb1 (And.intro rb2 (And.intro rb3 rb4)))
      clear hca hcb rb1 rb2 rb3 rb4
      go_wp2_with fail
      refine (All_q (HE.out.kp K2.out) a (by have := SA.out; omega) la fe fl fc ra1 ra2 ra3 ra4).mono ?_
      rintro e w3 ⟨aoa, capa, rfl, hT, k3⟩
      have K3 := Lib.hid (K2.out.trans k3)
      have HTA := Lib.hid hT
      clear k3 hT ra1 ra2 ra3 ra4
      go_upto_region 11 with (fail)
      generalize hw4 : World.alloc w3 _ = w4
      have A4 := alloc_new_of hw4
      have N4 := A4.2.1
      have c40 := A4.1 0
      have c41 := A4.1 1
      have c42 := A4.1 2
      have z4 := A4.2.2.1
      simp only [List.getElem?_toArray, List.getElem?_cons_succ, List.getElem?_cons_zero] at c40 c41 c42
      obtain ⟨P4, hP4⟩ : ∃ P, w3.heap.size = P := ⟨_, rfl⟩
      rw [hP4] at c40 c41 c42 z4 ⊢
      clear A4 hw4 hP4
      have K4 := Lib.hid (K3.out.trans N4)
      have HTA := Lib.hid (HTA.out.kp N4)
      clear N4
      go_wp2_with fail
      refine (All_q (HE.out.kp K4.out) b (by have := SB.out; omega) lb ge gl gc RB.out.1 RB.out.2.1 RB.out.2.2.1 RB.out.2.2.2).mono ?_
      rintro e w5 ⟨aob, capb, rfl, hT, k5⟩
      have c40 := (k5.cells P4 0 z4).trans c40
      have c41 := (k5.cells P4 1 z4).trans c41
      have c42 := (k5.cells P4 2 z4).trans c42
      have z4 := Nat.lt_of_lt_of_le z4 k5.size
      have K5 := Lib.hid (K4.out.trans k5)
      have HTA := Lib.hid (HTA.out.kp k5)
      have HTB := Lib.hid hT
      clear k5 hT
      go_upto_region 12 with (fail)
      generalize hw6 : World.alloc w5 _ = w6
      have A6 := alloc_new_of hw6
      have N6 := A6.2.1
      have c60 := A6.1 0
      have c61 := A6.1 1
      have c62 := A6.1 2
      have z6 := A6.2.2.1
      simp only [List.getElem?_toArray, List.getElem?_cons_succ, List.getElem?_cons_zero] at c60 c61 c62
      obtain ⟨P6, hP6⟩ : ∃ P, w5.heap.size = P := ⟨_, rfl⟩
      rw [hP6] at c60 c61 c62 z6 ⊢
      clear A6 hw6 hP6
      have c40 := (N6.cells P4 0 z4).trans c40
      have c41 := (N6.cells P4 1 z4).trans c41
      have c42 := (N6.cells P4 2 z4).trans c42
      have z4 := Nat.lt_of_lt_of_le z4 N6.size
      have K6 := Lib.hid (K5.out.trans N6)
      have HTA := Lib.hid (HTA.out.kp N6)
      have HTB := Lib.hid (HTB.out.kp N6)
      clear N6
      rcases HCA.out with hca | rfl
      rotate_left
      · go_wp2
        go_ret
        exact ⟨rfl, K6.out⟩
      rcases HCB.out with hcb | rfl
      rotate_left
      · obtain ⟨_, rfl, rfl, rfl⟩ := hca
        go_wp2
        go_ret
        exact ⟨rfl, K6.out⟩
      obtain ⟨hla, rfl, rfl, rfl⟩ := hca
      obtain ⟨hlb, rfl, rfl, rfl⟩ := hcb
      have HPL := Lib.hid (parts_lex hla hlb HR.out)
      have HNA := Lib.hid (Nat.le_trans (Lex_len hla) SA.out)
      have HNB := Lib.hid (Nat.le_trans (Lex_len hlb) SB.out)
      have HLL := Lib.hid (fun k (hk : k < lb.length) => Lex_line hlb hk)
      clear hla hlb
      have HHL : Hid ((headL a remark).length ≤ 3000) := Lib.hid (by have := SA.out; have := SR.out; unfold headL; simp; omega)
      have A1 : ∀ W, (Op.stringOp .add (bytesOf a) ⟨#[10, 32, 9, 47, 47, 32]⟩).run Tryd.prog W = .ok (.string (bytesOf (a ++ [10, 32, 9, 47, 47, 32]))) W := fun W => add_wide (b := [10, 32, 9, 47, 47, 32]) W (by have := SA.out; simp; omega)
      have A2 : ∀ W, (Op.stringOp .add (bytesOf (a ++ [10, 32, 9, 47, 47, 32])) (bytesOf remark)).run Tryd.prog W = .ok (.string (bytesOf (a ++ [10, 32, 9, 47, 47, 32] ++ remark))) W := fun W => add_wide W (by have := SA.out; have := SR.out; simp; omega)
      have A3 : ∀ W, (Op.stringOp .add (bytesOf (a ++ [10, 32, 9, 47, 47, 32] ++ remark)) ⟨#[10]⟩).run Tryd.prog W = .ok (.string (bytesOf (headL a remark))) W := fun W => by
        have := add_wide (P := Tryd.prog) (a := a ++ [10, 32, 9, 47, 47, 32] ++ remark) (b := [10]) W (by have := SA.out; have := SR.out; simp; omega)
        have e : a ++ [10, 32, 9, 47, 47, 32] ++ remark ++ [10] = headL a remark := by unfold headL; simp
        rw [e] at this
        exact this
      have A4 : ∀ W, (Op.stringOp .add (bytesOf (headL a remark)) (bytesOf b)).run Tryd.prog W = .ok (.string (bytesOf (headL a remark ++ b))) W := fun W => add_wide W (by have := HHL.out; have := SB.out; omega)
      generalize headL a remark = hd at *
      generalize a ++ [10, 32, 9, 47, 47, 32] ++ remark = m2 at A2 A3
      generalize a ++ [10, 32, 9, 47, 47, 32] = m1 at A1 A2
      go_wp2_with fail
      refine (All_qc (HE.out.kp K6.out) (hd ++ b) (by have := HHL.out; have := SB.out; simp; omega) (la ++ lb.map (shiftT ((posL hd).1 - 1))) 0 0 0 (by rw [HPL.out]; rfl) (by rw [HPL.out]; rfl) (by rw [HPL.out]; rfl) (by rw [HPL.out]; rfl)).mono ?_
      rintro e w7 ⟨ao, cap, rfl, hcap, hT, k7⟩
      have K7 := Lib.hid (K6.out.trans k7)
      have HTA := Lib.hid (HTA.out.kp k7)
      have HTB := Lib.hid (HTB.out.kp k7)
      have HT := Lib.hid hT
      clear k7 hT A1 A2 A3 A4 c40 c41 c42 z4 c60 c61 c62 z6
      have HLEN : (la ++ lb.map (shiftT ((posL hd).1 - 1))).length = la.length + lb.length := by simp
      rw [HLEN] at hcap ⊢
      clear HLEN
      have hna := HNA.out
      have hnb := HNB.out
      obtain ⟨na, hna'⟩ : ∃ n, la.length = n := ⟨_, rfl⟩
      obtain ⟨nb, hnb'⟩ : ∃ n, lb.length = n := ⟨_, rfl⟩
      have HLA := Lib.hid hna'
      have HLB := Lib.hid hnb'
      rw [hna'] at hna hcap ⊢
      rw [hnb'] at hnb hcap ⊢
      have hcap2 : na ≤ cap := by omega
      clear hna' hnb'
      have hnai : (na : Int) ≤ 2000 := by omega
      have hnbi : (nb : Int) ≤ 2000 := by omega
      go_upto_region 16 with (fail)
      generalize hw8 : World.alloc w7 _ = w8
      have A8 := alloc_new_of hw8
      have N8 := A8.2.1
      have c80 := A8.1 0
      have c81 := A8.1 1
      have c82 := A8.1 2
      have z8 := A8.2.2.1
      simp only [List.getElem?_toArray, List.getElem?_cons_succ, List.getElem?_cons_zero] at c80 c81 c82
      obtain ⟨P8, hP8⟩ : ∃ P, w7.heap.size = P := ⟨_, rfl⟩
      rw [hP8] at c80 c81 c82 z8 ⊢
      clear A8 hw8 hP8
      have K8 := Lib.hid (K7.out.trans N8)
      have HTA := Lib.hid (HTA.out.kp N8)
      have HTB := Lib.hid (HTB.out.kp N8)
      have HT := Lib.hid (HT.out.kp N8)
      clear N8
      obtain ⟨L, hL⟩ : ∃ L, (posL hd).1 = L := ⟨_, rfl⟩
      obtain ⟨C, hC⟩ : ∃ C, (posL hd).2 = C := ⟨_, rfl⟩
      have hls : ((bytesOf hd).size : Int) ≤ 3000 := by rw [bytesOf_size]; have := HHL.out; omega
      have HLN : Hid (posL (hd.take (clampN hd.length ((bytesOf hd).size : Int))) = (L, C)) := Lib.hid (by
        have e : clampN hd.length ((bytesOf hd).size : Int) = hd.length := by
          rw [bytesOf_size]
          unfold clampN
          split
          · omega
          · split <;> omega
        rw [e, List.take_length, ← hL, ← hC])
      have HL1 : Hid (1 ≤ L ∧ L ≤ 4000) := Lib.hid (by
        have := (posL_one hd).1
        rw [hL] at this
        refine ⟨this, ?_⟩
        rw [← hL]
        unfold posL
        have h1 := List.length_filter_le (fun b => b == (10 : UInt8)) hd
        have := HHL.out
        simp only
        omega)
      rw [hL] at HT
      clear hL hC
      go_wp2_with fail
      refine (Line_any hd (by have := HHL.out; omega) ((bytesOf hd).size : Int) (by omega) (by omega) _ L C HLN.out).mono ?_
      rintro e w9 ⟨rfl, rfl⟩
      go_wp2_with fail
      refine (by
        have := tokens_same ao aoa cap capa la _ HT.out.left HTA.out (by rw [HLA.out]; omega)
        rw [HLA.out] at this
        exact this : Calls Tryd.prog 15 #[.slice ao na cap, .slice aoa na capa] w9 fun e w' => e = .returned (.bool true) ∧ Qt w9 w').mono ?_
      rintro e w10 ⟨rfl, q10⟩
      have K10 := Lib.hid (K8.out.trans q10.kp)
      have HTB := Lib.hid (HTB.out.kp q10.kp)
      have HT := Lib.hid (HT.out.kp q10.kp)
      clear q10 c80 c81 c82 z8
      go_wp2_with fail
      go_loopw [17] (fun i wr => ∃ k : Nat, k ≤ nb ∧ i = .int .i64 k ∧ Kp w10 wr) (fun i _ => nb - (intOf i).toNat)
      case atStart => exact ⟨0, Nat.zero_le _, rfl, Kp.refl _⟩
      case round =>
        obtain ⟨k, hk, rfl, kr⟩ := hrel
        by_cases hlt : k < nb
        · have hk0 : (0 : Int) ≤ (k : Int) := Int.natCast_nonneg _
          have hk1 : (k : Int) < (nb : Int) := by omega
          obtain ⟨bb, offb, hbo, hc⟩ := TIn.at (HTB.out.kp kr) (i := k) (by rw [HLB.out]; exact hlt)
          subst hbo
          obtain ⟨bt, offt, hto, hc2⟩ := TIn.at (HT.out.kp kr) (i := na + k) (by simp [HLA.out, HLB.out]; omega)
          subst hto
          have y0 := hc.k k (by rw [HLB.out]; exact hlt)
          have y1 := hc.t k (by rw [HLB.out]; exact hlt)
          have y2 := hc.l' k (by rw [HLB.out]; exact hlt)
          have y3 := hc.c k (by rw [HLB.out]; exact hlt)
          have y4 := hc.n k (by rw [HLB.out]; exact hlt)
          have zb := hc.size
          have hin : na + k < (la ++ lb.map (shiftT (L - 1))).length := by simp [HLA.out, HLB.out]; omega
          have x0 := hc2.k (na + k) hin
          have x1 := hc2.t (na + k) hin
          have x2 := hc2.l' (na + k) hin
          have x3 := hc2.c (na + k) hin
          have x4 := hc2.n (na + k) hin
          have hg : (la ++ lb.map (shiftT (L - 1))).getD (na + k) t0 = shiftT (L - 1) (lb.getD k t0) := by rw [← HLA.out]; exact getD_shift (by rw [HLB.out]; exact hlt)
          rw [hg] at x0 x1 x2 x3 x4
          have hll := HLL.out k (by rw [HLB.out]; exact hlt)
          have hsb := SB.out
          have hl1 := HL1.out
          clear hc hc2 hg hin
          generalize lb.getD k t0 = x at *
          obtain ⟨xk, xt, xl, xc, xn⟩ := x
          simp only [shiftT] at x0 x1 x2 x3 x4 y0 y1 y2 y3 y4 hll
          obtain ⟨hx1, hx2⟩ := hll
          have hx3 : xl ≤ 2001 := by omega
          obtain ⟨hL1, hL2⟩ := hl1
          have hs1 : xl + (L - 1) = xl + L - 1 := by omega
          rw [hs1] at x2
          have hj0 : (0 : Int) ≤ (na : Int) := Int.natCast_nonneg _
          have KR := Lib.hid kr
          clear kr hs1 hx2 hsb
          go_upto_region 23 with (fail)
          generalize hwr : World.alloc wr _ = w12
          have A12 := alloc_new_of hwr
          have N12 := A12.2.1
          have d0 := A12.1 0
          have d1 := A12.1 1
          have d2 := A12.1 2
          have d3 := A12.1 3
          have d4 := A12.1 4
          simp only [List.getElem?_toArray, List.getElem?_cons_succ, List.getElem?_cons_zero] at d0 d1 d2 d3 d4
          obtain ⟨P12, hP12⟩ : ∃ P, wr.heap.size = P := ⟨_, rfl⟩
          rw [hP12] at d0 d1 d2 d3 d4 ⊢
          have y0 := (N12.cells bb _ zb).trans y0
          have y1 := (N12.cells bb _ zb).trans y1
          have y2 := (N12.cells bb _ zb).trans y2
          have y3 := (N12.cells bb _ zb).trans y3
          have y4 := (N12.cells bb _ zb).trans y4
          have K12 := Lib.hid (KR.out.trans N12)
          clear A12 hwr hP12 N12 x0 x1 x2 x3 x4
          go_quiet (fail)
          go_wp2
          exact ⟨⟨k + 1, by omega, by go_num, K12.out.drewN _⟩, by simp [intOf]; omega⟩
        · obtain rfl : k = nb := by omega
          go_wp2
          go_ret
          exact ⟨rfl, K10.out.trans kr⟩
end Lx
end Go.Proofs.YtlgkcjhoaecekaaDoor
