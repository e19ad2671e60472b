/-
  WALK: the statement CodeNumbers. Own work.
-/
import Derived.Test.YtehmpakcfahmaaaDoorCoNumFacts
import Derived.Deep.DeepCutAuto
namespace Go.Proofs.YtehmpakcfahmaaaDoor
namespace Co
open Go.RowKit Go
set_option linter.unusedVariables false

set_option maxHeartbeats 1000000 in
set_option maxRecDepth 100000 in
theorem num_bad (op x y z : Int) (w : World) (hE : Env w) (hi : Wf ⟨op, x, y, z⟩) (hc : chk ⟨op, x, y, z⟩ = false) :
    Calls Tryd.prog 7 #[.agg #[.int .i64 op, .int .i64 x, .int .i64 y, .int .i64 z]] w (Yes w) := by
  have HI := Lib.hid hi
  have HC := Lib.hid (chkE_no hc)
  clear hi hc
  go_enter Tryd.func7, Tryd.ntmps7
  go_wp2_with fail
  refine (lives_k hE ((Kp.refl w).alloc _ _)).mono ?_
  rintro r w1 ⟨rfl, k1⟩
  have K1 := ((Kp.refl w).alloc _ _).trans k1
  have b1 := (Box.new w op x y z).kp k1
  clear k1
  obtain ⟨si, i0, i1, i2, i3, iu⟩ := b1
  go_wp2_with fail
  refine (Check_k hE K1 op x y z 2 HI.out HC.out).mono ?_
  rintro r w2 ⟨rfl, k2⟩
  go_wp2
  go_ret
  exact ⟨rfl, K1.trans k2⟩

set_option maxHeartbeats 8000000 in
set_option maxRecDepth 100000 in
theorem num_good (op x y z : Int) (w : World) (hE : Env w) (hi : Wf ⟨op, x, y, z⟩) (hc : chk ⟨op, x, y, z⟩ = true) (t : List UInt8) (ht : txt ⟨op, x, y, z⟩ = t) (N : Nat) (hN : cnt t = N) (hN3 : N ≤ 3)
    (xa : Int) (hxa : -9223372036854775808 ≤ xa ∧ xa ≤ 9223372036854775807) (hxor : bits .xor .i64 x 1 = xa) (t1 g1 t2 g2 : Int) (o1 o2 : Bool) (ht1 : effT ⟨op, x, y, z⟩ oneN 8 = t1) (hg1 : effG ⟨op, x, y, z⟩ 8 = g1) (ho1 : effO ⟨op, x, y, z⟩ 8 = o1)
    (ht2 : effT ⟨op, xa, y, z⟩ oneN 8 = t2) (hg2 : effG ⟨op, xa, y, z⟩ 8 = g2) (ho2 : effO ⟨op, xa, y, z⟩ 8 = o2) (hsame : o1 = true → o2 = true → t1 = t2 ∧ g1 = g2)
    (c1 c2 c3 c4 : Int) (hc1 : chkE ⟨op, 1, y, z⟩ = c1) (hc2 : chkE ⟨op, 0, y, z⟩ = c2) (hc3 : chkE ⟨op, x, 8, z⟩ = c3) (hc4 : chkE ⟨op, x, y, 8⟩ = c4)
    (hway : (c1 = 0 ∧ c3 = 2 ∧ c4 = 2 ∧ N = 1) ∨ (c1 = 2 ∧ c2 = 2 ∧ c3 = 2 ∧ c4 = 2 ∧ N = 1) ∨ (c1 = 2 ∧ c2 = 0 ∧ c3 = 2 ∧ c4 = 2 ∧ N = 0) ∨ (c1 = 0 ∧ c3 = 0 ∧ c4 = 2 ∧ N = 2) ∨ (c1 = 0 ∧ c3 = 0 ∧ c4 = 0 ∧ N = 3)) :
    Calls Tryd.prog 7 #[.agg #[.int .i64 op, .int .i64 x, .int .i64 y, .int .i64 z]] w (Yes w) := by
  have HI := Lib.hid hi
  have HC := Lib.hid (chkE_yes hc)
  have HT := Lib.hid ht
  have hl2 : t.length ≤ 22 := by rw [← ht]; exact txt_len _
  have hsz : (bytesOf t).size ≤ 22 := by rw [bytesOf_size]; exact hl2
  have wa : ∀ v, -1 ≤ v ∧ v ≤ 8 → Wf ⟨op, v, y, z⟩ := fun v hv => ⟨hi.op, ⟨by show -9223372036854775808 ≤ v; omega, by show v ≤ 9223372036854775807; omega⟩, hi.b, hi.c⟩
  have wb : ∀ v, -1 ≤ v ∧ v ≤ 8 → Wf ⟨op, x, v, z⟩ := fun v hv => ⟨hi.op, hi.a, ⟨by show -9223372036854775808 ≤ v; omega, by show v ≤ 9223372036854775807; omega⟩, hi.c⟩
  have wc : ∀ v, -1 ≤ v ∧ v ≤ 8 → Wf ⟨op, x, y, v⟩ := fun v hv => ⟨hi.op, hi.a, hi.b, ⟨by show -9223372036854775808 ≤ v; omega, by show v ≤ 9223372036854775807; omega⟩⟩
  have wx : Wf ⟨op, xa, y, z⟩ := ⟨hi.op, hxa, hi.b, hi.c⟩
  have WA := Lib.hid wa
  have WB := Lib.hid wb
  have WC := Lib.hid wc
  have WX := Lib.hid wx
  have HN := Lib.hid hN
  have HXOR := Lib.hid hxor
  have HT1 := Lib.hid ht1
  have HG1 := Lib.hid hg1
  have HO1 := Lib.hid ho1
  have HT2 := Lib.hid ht2
  have HG2 := Lib.hid hg2
  have HO2 := Lib.hid ho2
  have HS := Lib.hid hsame
  have H1 := Lib.hid hc1
  have H2 := Lib.hid hc2
  have H3 := Lib.hid hc3
  have H4 := Lib.hid hc4
  have HW := Lib.hid hway
  have NA := Lib.hid (chkE_no (neg_a (op := op) (y := y) (z := z)))
  have NB := Lib.hid (chkE_no (neg_b (op := op) (x := x) (z := z)))
  have NC := Lib.hid (chkE_no (neg_c (op := op) (x := x) (y := y)))
  have TA := Lib.hid (txt_no (neg_a (op := op) (y := y) (z := z)))
  have TB := Lib.hid (txt_no (neg_b (op := op) (x := x) (z := z)))
  have TC := Lib.hid (txt_no (neg_c (op := op) (x := x) (y := y)))
  have hx64 := hi.a
  clear hi hc ht hl2 wa wb wc wx hN hxor ht1 hg1 ho1 ht2 hg2 ho2 hsame hc1 hc2 hc3 hc4 hway
  go_enter Tryd.func7, Tryd.ntmps7
  go_wp2_with fail
  refine (lives_k hE ((Kp.refl w).alloc _ _)).mono ?_
  rintro r w1 ⟨rfl, k1⟩
  have K1 := ((Kp.refl w).alloc _ _).trans k1
  have b1 := (Box.new w op x y z).kp k1
  have HB1 := Lib.hid b1
  clear k1
  obtain ⟨si, i0, i1, i2, i3, iu⟩ := b1
  go_wp2_with fail
  refine (Check_k hE K1 op x y z 0 HI.out HC.out).mono ?_
  rintro r w2 ⟨rfl, k2⟩
  have K2 := K1.trans k2
  have b2 := HB1.out.kp k2
  have HB2 := Lib.hid b2
  clear k2 K1 HB1 si i0 i1 i2 i3 iu
  obtain ⟨si, i0, i1, i2, i3, iu⟩ := b2
  go_wp2_with fail
  refine (Text_k hE K2 op x y z HI.out t HT.out).mono ?_
  rintro r w3 ⟨rfl, k3⟩
  have K3 := K2.trans k3
  have b3 := HB2.out.kp k3
  clear k3 K2 HB2 si i0 i1 i2 i3 iu
  go_wp2
  go_loop [4, 5] (fun wd k' => ∃ k : Nat, k ≤ (bytesOf t).size ∧ k' = .int .i64 k ∧ wd = .int .i64 (1 + (cnt (t.take k) : Nat))) (fun _ k' => (bytesOf t).size - (intOf k').toNat)
  case atStart => exact ⟨0, by omega, rfl, rfl⟩
  case round =>
    obtain ⟨k, hk, rfl, rfl⟩ := hrel
    have hb : cnt (t.take k) ≤ 22 := by
      have := cnt_le (t.take k)
      have := List.length_take_le k t
      omega
    by_cases hlt : k < (bytesOf t).size
    · have hsn : t.take (k + 1) = t.take k ++ [(bytesOf t)[k]] := take_snoc (bytesOf t) k hlt
      by_cases he : (bytesOf t)[k] = 32
      · have e2 : cnt (t.take (k + 1)) = cnt (t.take k) + 1 := by rw [hsn, cnt_append, cnt_one_yes he]
        have b : (((bytesOf t)[k].toNat : Int) == 32) = true := by rw [he]; decide
        have E2 := Lib.hid e2
        clear hsn he e2
        go_wp2
        go_round
        case rel => exact ⟨k + 1, by omega, by go_num, by rw [E2.out]; go_num⟩
        case measure => simp [intOf]; omega
      · have e2 : cnt (t.take (k + 1)) = cnt (t.take k) := by rw [hsn, cnt_append, cnt_one_no he]; rfl
        have b : (((bytesOf t)[k].toNat : Int) == 32) = false := by
          have h1 : (bytesOf t)[k].toNat ≠ 32 := fun h => he (UInt8.toNat_inj.1 h)
          simp only [beq_eq_false_iff_ne, ne_eq]; omega
        have E2 := Lib.hid e2
        clear hsn he e2
        go_wp2
        go_round
        case rel => exact ⟨k + 1, by omega, by go_num, by rw [E2.out]⟩
        case measure => simp [intOf]; omega
    · have hall : t.take k = t := List.take_of_length_le (by rw [bytesOf_size] at hlt; omega)
      rw [hall, HN.out]
      clear hall hb
      have hkd : decide ((k : Int) < ((bytesOf t).size : Int)) = false := by simp; omega
      go_wp2
      clear hkd hlt hk
      go_loopw [7] (fun k' wr => ∃ k : Nat, k ≤ 3 ∧ k' = .int .i64 k ∧ Box wr w.heap.size op x y z ∧ Kp w wr) (fun k' _ => 3 - (intOf k').toNat)
      case atStart => exact ⟨0, by omega, rfl, b3, K3⟩
      case round =>
        obtain ⟨k, hk, rfl, bx, kr⟩ := hrel
        have HBX := Lib.hid bx
        obtain ⟨si, i0, i1, i2, i3, iu⟩ := bx
        have be := bytesOf_toList []
        by_cases hlt : k < 3
        · obtain rfl | rfl | rfl : k = 0 ∨ k = 1 ∨ k = 2 := by omega
          · go_wp2_with fail
            refine (Check_k hE (kr.alloc _ _) op (-1) y z 2 (WA.out _ (by decide)) NA.out).mono ?_
            rintro r w5 ⟨rfl, k5⟩
            have K5 := (kr.alloc _ _).trans k5
            have bj := (Box.new wr op (-1) y z).kp k5
            have HBI := Lib.hid ((HBX.out.kp ((Kp.refl wr).alloc #[.int .i64 op, .int .i64 (-1), .int .i64 y, .int .i64 z] 27)).kp k5)
            clear si i0 i1 i2 i3 iu k5
            obtain ⟨sj, j0, j1, j2, j3, ju⟩ := bj
            go_wp2_with fail
            refine (Text_k hE K5 op (-1) y z (WA.out _ (by decide)) [] TA.out).mono ?_
            rintro r w6 ⟨rfl, k6⟩
            go_wp2
            go_roundw
            case rel => exact ⟨1, by omega, by go_num, HBI.out.kp k6, K5.trans k6⟩
            case measure => simp [intOf]
          · go_wp2_with fail
            refine (Check_k hE (kr.alloc _ _) op x (-1) z 2 (WB.out _ (by decide)) NB.out).mono ?_
            rintro r w5 ⟨rfl, k5⟩
            have K5 := (kr.alloc _ _).trans k5
            have bj := (Box.new wr op x (-1) z).kp k5
            have HBI := Lib.hid ((HBX.out.kp ((Kp.refl wr).alloc #[.int .i64 op, .int .i64 x, .int .i64 (-1), .int .i64 z] 27)).kp k5)
            clear si i0 i1 i2 i3 iu k5
            obtain ⟨sj, j0, j1, j2, j3, ju⟩ := bj
            go_wp2_with fail
            refine (Text_k hE K5 op x (-1) z (WB.out _ (by decide)) [] TB.out).mono ?_
            rintro r w6 ⟨rfl, k6⟩
            go_wp2
            go_roundw
            case rel => exact ⟨2, by omega, by go_num, HBI.out.kp k6, K5.trans k6⟩
            case measure => simp [intOf]
          · go_wp2_with fail
            refine (Check_k hE (kr.alloc _ _) op x y (-1) 2 (WC.out _ (by decide)) NC.out).mono ?_
            rintro r w5 ⟨rfl, k5⟩
            have K5 := (kr.alloc _ _).trans k5
            have bj := (Box.new wr op x y (-1)).kp k5
            have HBI := Lib.hid ((HBX.out.kp ((Kp.refl wr).alloc #[.int .i64 op, .int .i64 x, .int .i64 y, .int .i64 (-1)] 27)).kp k5)
            clear si i0 i1 i2 i3 iu k5
            obtain ⟨sj, j0, j1, j2, j3, ju⟩ := bj
            go_wp2_with fail
            refine (Text_k hE K5 op x y (-1) (WC.out _ (by decide)) [] TC.out).mono ?_
            rintro r w6 ⟨rfl, k6⟩
            go_wp2
            go_roundw
            case rel => exact ⟨3, by omega, by go_num, HBI.out.kp k6, K5.trans k6⟩
            case measure => simp [intOf]
        · obtain rfl : k = 3 := by omega
          clear hlt hk be
          have hX1 : w.heap.size < wr.heap.size := HBX.out.size
          have hX : w.heap.size ≤ wr.heap.size := by omega
          have hne : wr.heap.size ≠ w.heap.size := by omega
          go_wp2_with fail
          have kxp := (kr.alloc #[.int .i64 op, .int .i64 1, .int .i64 y, .int .i64 z] 27).alloc #[.int .i64 op, .int .i64 0, .int .i64 y, .int .i64 z] 27
          refine (Check_k hE kxp op 1 y z c1 (WA.out _ (by decide)) H1.out).mono ?_
          rintro r w5 ⟨rfl, k5⟩
          have K5 := kxp.trans k5
          have b5 := ((HBX.out.kp ((Kp.refl wr).alloc #[.int .i64 op, .int .i64 1, .int .i64 y, .int .i64 z] 27)).kp ((Kp.refl _).alloc #[.int .i64 op, .int .i64 0, .int .i64 y, .int .i64 z] 27)).kp k5
          have x5 := ((Box.new wr op 1 y z).kp ((Kp.refl _).alloc #[.int .i64 op, .int .i64 0, .int .i64 y, .int .i64 z] 27)).kp k5
          have p5 : Box w5 (wr.heap.size + 1) op 0 y z := by
            have := (Box.new (wr.alloc (.cells #[.int .i64 op, .int .i64 1, .int .i64 y, .int .i64 z] 27)) op 0 y z).kp k5
            simpa using this
          clear kxp k5 si i0 i1 i2 i3 iu kr
          rcases HW.out with ⟨rfl, rfl, rfl, rfl⟩ | ⟨rfl, rfl, rfl, rfl, rfl⟩ | ⟨rfl, rfl, rfl, rfl, rfl⟩ | ⟨rfl, rfl, rfl, rfl⟩ | ⟨rfl, rfl, rfl, rfl⟩
          · have K6 := K5
            have b6 := b5
            have x6 := x5
            clear K5 b5 x5 p5
            generalize w5 = w6 at *
            have K7 := (((K6.setCell (p := ⟨wr.heap.size, 0, none⟩) hX (.int .i64 op)).setCell (p := ⟨wr.heap.size, 1, none⟩) hX (.int .i64 x)).setCell (p := ⟨wr.heap.size, 2, none⟩) hX (.int .i64 y)).setCell (p := ⟨wr.heap.size, 3, none⟩) hX (.int .i64 z)
            have b7 := (((b6.far hne 0 (.int .i64 op)).far hne 1 (.int .i64 x)).far hne 2 (.int .i64 y)).far hne 3 (.int .i64 z)
            have x7 := (((x6.set0 op).set1 x).set2 y).set3 z
            obtain ⟨si, i0, i1, i2, i3, iu⟩ := b6
            obtain ⟨sx, x0, x1, x2, x3, xu⟩ := x6
            go_upto_region 32 with (fail)
            generalize ((((w6.setCell ⟨wr.heap.size, 0, none⟩ (.int .i64 op)).setCell ⟨wr.heap.size, 1, none⟩ (.int .i64 x)).setCell ⟨wr.heap.size, 2, none⟩ (.int .i64 y)).setCell ⟨wr.heap.size, 3, none⟩ (.int .i64 z)) = W7 at K7 b7 x7 ⊢
            clear K6 si i0 i1 i2 i3 iu sx x0 x1 x2 x3 xu
            have K7s := K7.setCell (p := ⟨wr.heap.size, 2, none⟩) hX (.int .i64 8)
            have b7s := b7.far hne 2 (.int .i64 8)
            have x7s := x7.set2 8
            obtain ⟨sx, x0, x1, x2, x3, xu⟩ := x7
            clear K7 b7
            go_wp2_with fail
            refine (Check_k hE K7s op x 8 z 2 (WB.out _ (by decide)) H3.out).mono ?_
            rintro r w8 ⟨rfl, k8⟩
            have K8 := K7s.trans k8
            have b8 := b7s.kp k8
            have x8 := x7s.kp k8
            clear K7s b7s x7s k8 sx x0 x1 x2 x3 xu
            have K9 := (((K8.setCell (p := ⟨wr.heap.size, 0, none⟩) hX (.int .i64 op)).setCell (p := ⟨wr.heap.size, 1, none⟩) hX (.int .i64 x)).setCell (p := ⟨wr.heap.size, 2, none⟩) hX (.int .i64 y)).setCell (p := ⟨wr.heap.size, 3, none⟩) hX (.int .i64 z)
            have b9 := (((b8.far hne 0 (.int .i64 op)).far hne 1 (.int .i64 x)).far hne 2 (.int .i64 y)).far hne 3 (.int .i64 z)
            have x9 := (((x8.set0 op).set1 x).set2 y).set3 z
            obtain ⟨si, i0, i1, i2, i3, iu⟩ := b8
            obtain ⟨sx, x0, x1, x2, x3, xu⟩ := x8
            go_upto_region 36 with (fail)
            generalize ((((w8.setCell ⟨wr.heap.size, 0, none⟩ (.int .i64 op)).setCell ⟨wr.heap.size, 1, none⟩ (.int .i64 x)).setCell ⟨wr.heap.size, 2, none⟩ (.int .i64 y)).setCell ⟨wr.heap.size, 3, none⟩ (.int .i64 z)) = W9 at K9 b9 x9 ⊢
            clear K8 si i0 i1 i2 i3 iu sx x0 x1 x2 x3 xu
            have K9s := K9.setCell (p := ⟨wr.heap.size, 3, none⟩) hX (.int .i64 8)
            have b9s := b9.far hne 3 (.int .i64 8)
            have x9s := x9.set3 8
            obtain ⟨sx, x0, x1, x2, x3, xu⟩ := x9
            clear K9 b9
            go_wp2_with fail
            refine (Check_k hE K9s op x y 8 2 (WC.out _ (by decide)) H4.out).mono ?_
            rintro r w10 ⟨rfl, k10⟩
            have K10 := K9s.trans k10
            have b10 := b9s.kp k10
            have x10 := x9s.kp k10
            clear K9s b9s x9s k10 sx x0 x1 x2 x3 xu
            have KO := K10.alloc #[.int .i64 1, .int .i64 1, .int .i64 1, .int .i64 1, .int .i64 1, .int .i64 1, .int .i64 1, .int .i64 1] 3
            have bO := b10.kp ((Kp.refl w10).alloc #[.int .i64 1, .int .i64 1, .int .i64 1, .int .i64 1, .int .i64 1, .int .i64 1, .int .i64 1, .int .i64 1] 3)
            clear x10 K10
            obtain ⟨si, i0, i1, i2, i3, iu⟩ := b10
            go_wp2_with fail
            refine (Effect_k hE KO op x y z HI.out _ 8 8 oneN (ones_in w10) t1 g1 o1 HT1.out HG1.out HO1.out).mono ?_
            rintro r w11 ⟨rfl, k11⟩
            have K11 := KO.trans k11
            have b11 := bO.kp k11
            clear KO bO k11 si i0 i1 i2 i3 iu
            obtain ⟨si, i0, i1, i2, i3, iu⟩ := b11
            have hxor := HXOR.out
            have KP := (K11.alloc #[.int .i64 op, .int .i64 xa, .int .i64 y, .int .i64 z] 27).alloc #[.int .i64 1, .int .i64 1, .int .i64 1, .int .i64 1, .int .i64 1, .int .i64 1, .int .i64 1, .int .i64 1] 3
            have oi : IIn ((w11.alloc (.cells #[.int .i64 op, .int .i64 xa, .int .i64 y, .int .i64 z] 27)).alloc (.cells #[.int .i64 1, .int .i64 1, .int .i64 1, .int .i64 1, .int .i64 1, .int .i64 1, .int .i64 1, .int .i64 1] 3)) (some ⟨w11.heap.size + 1, 0, none⟩) oneN 8 := by
              have := ones_in (w11.alloc (.cells #[.int .i64 op, .int .i64 xa, .int .i64 y, .int .i64 z] 27))
              simpa using this
            have OI := Lib.hid oi
            clear oi
            go_wp2_with fail
            refine (Effect_k hE KP op xa y z WX.out _ 8 8 oneN OI.out t2 g2 o2 HT2.out HG2.out HO2.out).mono ?_
            rintro r w12 ⟨rfl, k12⟩
            have K12 := KP.trans k12
            clear KP OI k12 hxor
            cases o1 <;> cases o2
            case true.true =>
              obtain ⟨rfl, rfl⟩ := HS.out rfl rfl
              go_wp2
              go_ret
              exact ⟨rfl, K12⟩
            all_goals
              go_wp2
              go_ret
              exact ⟨rfl, K12⟩
          · obtain ⟨sp, p0, p1, p2, p3, pu⟩ := p5
            go_wp2_with fail
            refine (Check_k hE K5 op 0 y z 2 (WA.out _ (by decide)) H2.out).mono ?_
            rintro r w6 ⟨rfl, k6⟩
            have K6 := K5.trans k6
            have b6 := b5.kp k6
            have x6 := x5.kp k6
            clear K5 b5 x5 k6 sp p0 p1 p2 p3 pu
            have K7 := (((K6.setCell (p := ⟨wr.heap.size, 0, none⟩) hX (.int .i64 op)).setCell (p := ⟨wr.heap.size, 1, none⟩) hX (.int .i64 x)).setCell (p := ⟨wr.heap.size, 2, none⟩) hX (.int .i64 y)).setCell (p := ⟨wr.heap.size, 3, none⟩) hX (.int .i64 z)
            have b7 := (((b6.far hne 0 (.int .i64 op)).far hne 1 (.int .i64 x)).far hne 2 (.int .i64 y)).far hne 3 (.int .i64 z)
            have x7 := (((x6.set0 op).set1 x).set2 y).set3 z
            obtain ⟨si, i0, i1, i2, i3, iu⟩ := b6
            obtain ⟨sx, x0, x1, x2, x3, xu⟩ := x6
            go_upto_region 32 with (fail)
            generalize ((((w6.setCell ⟨wr.heap.size, 0, none⟩ (.int .i64 op)).setCell ⟨wr.heap.size, 1, none⟩ (.int .i64 x)).setCell ⟨wr.heap.size, 2, none⟩ (.int .i64 y)).setCell ⟨wr.heap.size, 3, none⟩ (.int .i64 z)) = W7 at K7 b7 x7 ⊢
            clear K6 si i0 i1 i2 i3 iu sx x0 x1 x2 x3 xu
            have K7s := K7.setCell (p := ⟨wr.heap.size, 2, none⟩) hX (.int .i64 8)
            have b7s := b7.far hne 2 (.int .i64 8)
            have x7s := x7.set2 8
            obtain ⟨sx, x0, x1, x2, x3, xu⟩ := x7
            clear K7 b7
            go_wp2_with fail
            refine (Check_k hE K7s op x 8 z 2 (WB.out _ (by decide)) H3.out).mono ?_
            rintro r w8 ⟨rfl, k8⟩
            have K8 := K7s.trans k8
            have b8 := b7s.kp k8
            have x8 := x7s.kp k8
            clear K7s b7s x7s k8 sx x0 x1 x2 x3 xu
            have K9 := (((K8.setCell (p := ⟨wr.heap.size, 0, none⟩) hX (.int .i64 op)).setCell (p := ⟨wr.heap.size, 1, none⟩) hX (.int .i64 x)).setCell (p := ⟨wr.heap.size, 2, none⟩) hX (.int .i64 y)).setCell (p := ⟨wr.heap.size, 3, none⟩) hX (.int .i64 z)
            have b9 := (((b8.far hne 0 (.int .i64 op)).far hne 1 (.int .i64 x)).far hne 2 (.int .i64 y)).far hne 3 (.int .i64 z)
            have x9 := (((x8.set0 op).set1 x).set2 y).set3 z
            obtain ⟨si, i0, i1, i2, i3, iu⟩ := b8
            obtain ⟨sx, x0, x1, x2, x3, xu⟩ := x8
            go_upto_region 36 with (fail)
            generalize ((((w8.setCell ⟨wr.heap.size, 0, none⟩ (.int .i64 op)).setCell ⟨wr.heap.size, 1, none⟩ (.int .i64 x)).setCell ⟨wr.heap.size, 2, none⟩ (.int .i64 y)).setCell ⟨wr.heap.size, 3, none⟩ (.int .i64 z)) = W9 at K9 b9 x9 ⊢
            clear K8 si i0 i1 i2 i3 iu sx x0 x1 x2 x3 xu
            have K9s := K9.setCell (p := ⟨wr.heap.size, 3, none⟩) hX (.int .i64 8)
            have b9s := b9.far hne 3 (.int .i64 8)
            have x9s := x9.set3 8
            obtain ⟨sx, x0, x1, x2, x3, xu⟩ := x9
            clear K9 b9
            go_wp2_with fail
            refine (Check_k hE K9s op x y 8 2 (WC.out _ (by decide)) H4.out).mono ?_
            rintro r w10 ⟨rfl, k10⟩
            have K10 := K9s.trans k10
            have b10 := b9s.kp k10
            have x10 := x9s.kp k10
            clear K9s b9s x9s k10 sx x0 x1 x2 x3 xu
            have KO := K10.alloc #[.int .i64 1, .int .i64 1, .int .i64 1, .int .i64 1, .int .i64 1, .int .i64 1, .int .i64 1, .int .i64 1] 3
            have bO := b10.kp ((Kp.refl w10).alloc #[.int .i64 1, .int .i64 1, .int .i64 1, .int .i64 1, .int .i64 1, .int .i64 1, .int .i64 1, .int .i64 1] 3)
            clear x10 K10
            obtain ⟨si, i0, i1, i2, i3, iu⟩ := b10
            go_wp2_with fail
            refine (Effect_k hE KO op x y z HI.out _ 8 8 oneN (ones_in w10) t1 g1 o1 HT1.out HG1.out HO1.out).mono ?_
            rintro r w11 ⟨rfl, k11⟩
            have K11 := KO.trans k11
            have b11 := bO.kp k11
            clear KO bO k11 si i0 i1 i2 i3 iu
            obtain ⟨si, i0, i1, i2, i3, iu⟩ := b11
            have hxor := HXOR.out
            have KP := (K11.alloc #[.int .i64 op, .int .i64 xa, .int .i64 y, .int .i64 z] 27).alloc #[.int .i64 1, .int .i64 1, .int .i64 1, .int .i64 1, .int .i64 1, .int .i64 1, .int .i64 1, .int .i64 1] 3
            have oi : IIn ((w11.alloc (.cells #[.int .i64 op, .int .i64 xa, .int .i64 y, .int .i64 z] 27)).alloc (.cells #[.int .i64 1, .int .i64 1, .int .i64 1, .int .i64 1, .int .i64 1, .int .i64 1, .int .i64 1, .int .i64 1] 3)) (some ⟨w11.heap.size + 1, 0, none⟩) oneN 8 := by
              have := ones_in (w11.alloc (.cells #[.int .i64 op, .int .i64 xa, .int .i64 y, .int .i64 z] 27))
              simpa using this
            have OI := Lib.hid oi
            clear oi
            go_wp2_with fail
            refine (Effect_k hE KP op xa y z WX.out _ 8 8 oneN OI.out t2 g2 o2 HT2.out HG2.out HO2.out).mono ?_
            rintro r w12 ⟨rfl, k12⟩
            have K12 := KP.trans k12
            clear KP OI k12 hxor
            cases o1 <;> cases o2
            case true.true =>
              obtain ⟨rfl, rfl⟩ := HS.out rfl rfl
              go_wp2
              go_ret
              exact ⟨rfl, K12⟩
            all_goals
              go_wp2
              go_ret
              exact ⟨rfl, K12⟩
          · obtain ⟨sp, p0, p1, p2, p3, pu⟩ := p5
            go_wp2_with fail
            refine (Check_k hE K5 op 0 y z 0 (WA.out _ (by decide)) H2.out).mono ?_
            rintro r w6 ⟨rfl, k6⟩
            have K6 := K5.trans k6
            have b6 := b5.kp k6
            have x6 := x5.kp k6
            clear K5 b5 x5 k6 sp p0 p1 p2 p3 pu
            have K7 := (((K6.setCell (p := ⟨wr.heap.size, 0, none⟩) hX (.int .i64 op)).setCell (p := ⟨wr.heap.size, 1, none⟩) hX (.int .i64 x)).setCell (p := ⟨wr.heap.size, 2, none⟩) hX (.int .i64 y)).setCell (p := ⟨wr.heap.size, 3, none⟩) hX (.int .i64 z)
            have b7 := (((b6.far hne 0 (.int .i64 op)).far hne 1 (.int .i64 x)).far hne 2 (.int .i64 y)).far hne 3 (.int .i64 z)
            have x7 := (((x6.set0 op).set1 x).set2 y).set3 z
            obtain ⟨si, i0, i1, i2, i3, iu⟩ := b6
            obtain ⟨sx, x0, x1, x2, x3, xu⟩ := x6
            go_upto_region 32 with (fail)
            generalize ((((w6.setCell ⟨wr.heap.size, 0, none⟩ (.int .i64 op)).setCell ⟨wr.heap.size, 1, none⟩ (.int .i64 x)).setCell ⟨wr.heap.size, 2, none⟩ (.int .i64 y)).setCell ⟨wr.heap.size, 3, none⟩ (.int .i64 z)) = W7 at K7 b7 x7 ⊢
            clear K6 si i0 i1 i2 i3 iu sx x0 x1 x2 x3 xu
            have K7s := K7.setCell (p := ⟨wr.heap.size, 2, none⟩) hX (.int .i64 8)
            have b7s := b7.far hne 2 (.int .i64 8)
            have x7s := x7.set2 8
            obtain ⟨sx, x0, x1, x2, x3, xu⟩ := x7
            clear K7 b7
            go_wp2_with fail
            refine (Check_k hE K7s op x 8 z 2 (WB.out _ (by decide)) H3.out).mono ?_
            rintro r w8 ⟨rfl, k8⟩
            have K8 := K7s.trans k8
            have b8 := b7s.kp k8
            have x8 := x7s.kp k8
            clear K7s b7s x7s k8 sx x0 x1 x2 x3 xu
            have K9 := (((K8.setCell (p := ⟨wr.heap.size, 0, none⟩) hX (.int .i64 op)).setCell (p := ⟨wr.heap.size, 1, none⟩) hX (.int .i64 x)).setCell (p := ⟨wr.heap.size, 2, none⟩) hX (.int .i64 y)).setCell (p := ⟨wr.heap.size, 3, none⟩) hX (.int .i64 z)
            have b9 := (((b8.far hne 0 (.int .i64 op)).far hne 1 (.int .i64 x)).far hne 2 (.int .i64 y)).far hne 3 (.int .i64 z)
            have x9 := (((x8.set0 op).set1 x).set2 y).set3 z
            obtain ⟨si, i0, i1, i2, i3, iu⟩ := b8
            obtain ⟨sx, x0, x1, x2, x3, xu⟩ := x8
            go_upto_region 36 with (fail)
            generalize ((((w8.setCell ⟨wr.heap.size, 0, none⟩ (.int .i64 op)).setCell ⟨wr.heap.size, 1, none⟩ (.int .i64 x)).setCell ⟨wr.heap.size, 2, none⟩ (.int .i64 y)).setCell ⟨wr.heap.size, 3, none⟩ (.int .i64 z)) = W9 at K9 b9 x9 ⊢
            clear K8 si i0 i1 i2 i3 iu sx x0 x1 x2 x3 xu
            have K9s := K9.setCell (p := ⟨wr.heap.size, 3, none⟩) hX (.int .i64 8)
            have b9s := b9.far hne 3 (.int .i64 8)
            have x9s := x9.set3 8
            obtain ⟨sx, x0, x1, x2, x3, xu⟩ := x9
            clear K9 b9
            go_wp2_with fail
            refine (Check_k hE K9s op x y 8 2 (WC.out _ (by decide)) H4.out).mono ?_
            rintro r w10 ⟨rfl, k10⟩
            have K10 := K9s.trans k10
            have b10 := b9s.kp k10
            have x10 := x9s.kp k10
            clear K9s b9s x9s k10 sx x0 x1 x2 x3 xu
            have KO := K10.alloc #[.int .i64 1, .int .i64 1, .int .i64 1, .int .i64 1, .int .i64 1, .int .i64 1, .int .i64 1, .int .i64 1] 3
            have bO := b10.kp ((Kp.refl w10).alloc #[.int .i64 1, .int .i64 1, .int .i64 1, .int .i64 1, .int .i64 1, .int .i64 1, .int .i64 1, .int .i64 1] 3)
            clear x10 K10
            obtain ⟨si, i0, i1, i2, i3, iu⟩ := b10
            go_wp2_with fail
            refine (Effect_k hE KO op x y z HI.out _ 8 8 oneN (ones_in w10) t1 g1 o1 HT1.out HG1.out HO1.out).mono ?_
            rintro r w11 ⟨rfl, k11⟩
            have K11 := KO.trans k11
            have b11 := bO.kp k11
            clear KO bO k11 si i0 i1 i2 i3 iu
            obtain ⟨si, i0, i1, i2, i3, iu⟩ := b11
            have hxor := HXOR.out
            have KP := (K11.alloc #[.int .i64 op, .int .i64 xa, .int .i64 y, .int .i64 z] 27).alloc #[.int .i64 1, .int .i64 1, .int .i64 1, .int .i64 1, .int .i64 1, .int .i64 1, .int .i64 1, .int .i64 1] 3
            have oi : IIn ((w11.alloc (.cells #[.int .i64 op, .int .i64 xa, .int .i64 y, .int .i64 z] 27)).alloc (.cells #[.int .i64 1, .int .i64 1, .int .i64 1, .int .i64 1, .int .i64 1, .int .i64 1, .int .i64 1, .int .i64 1] 3)) (some ⟨w11.heap.size + 1, 0, none⟩) oneN 8 := by
              have := ones_in (w11.alloc (.cells #[.int .i64 op, .int .i64 xa, .int .i64 y, .int .i64 z] 27))
              simpa using this
            have OI := Lib.hid oi
            clear oi
            go_wp2_with fail
            refine (Effect_k hE KP op xa y z WX.out _ 8 8 oneN OI.out t2 g2 o2 HT2.out HG2.out HO2.out).mono ?_
            rintro r w12 ⟨rfl, k12⟩
            have K12 := KP.trans k12
            clear KP OI k12 hxor
            cases o1 <;> cases o2
            case true.true =>
              obtain ⟨rfl, rfl⟩ := HS.out rfl rfl
              go_wp2
              go_ret
              exact ⟨rfl, K12⟩
            all_goals
              go_wp2
              go_ret
              exact ⟨rfl, K12⟩
          · have K6 := K5
            have b6 := b5
            have x6 := x5
            clear K5 b5 x5 p5
            generalize w5 = w6 at *
            have K7 := (((K6.setCell (p := ⟨wr.heap.size, 0, none⟩) hX (.int .i64 op)).setCell (p := ⟨wr.heap.size, 1, none⟩) hX (.int .i64 x)).setCell (p := ⟨wr.heap.size, 2, none⟩) hX (.int .i64 y)).setCell (p := ⟨wr.heap.size, 3, none⟩) hX (.int .i64 z)
            have b7 := (((b6.far hne 0 (.int .i64 op)).far hne 1 (.int .i64 x)).far hne 2 (.int .i64 y)).far hne 3 (.int .i64 z)
            have x7 := (((x6.set0 op).set1 x).set2 y).set3 z
            obtain ⟨si, i0, i1, i2, i3, iu⟩ := b6
            obtain ⟨sx, x0, x1, x2, x3, xu⟩ := x6
            go_upto_region 32 with (fail)
            generalize ((((w6.setCell ⟨wr.heap.size, 0, none⟩ (.int .i64 op)).setCell ⟨wr.heap.size, 1, none⟩ (.int .i64 x)).setCell ⟨wr.heap.size, 2, none⟩ (.int .i64 y)).setCell ⟨wr.heap.size, 3, none⟩ (.int .i64 z)) = W7 at K7 b7 x7 ⊢
            clear K6 si i0 i1 i2 i3 iu sx x0 x1 x2 x3 xu
            have K7s := K7.setCell (p := ⟨wr.heap.size, 2, none⟩) hX (.int .i64 8)
            have b7s := b7.far hne 2 (.int .i64 8)
            have x7s := x7.set2 8
            obtain ⟨sx, x0, x1, x2, x3, xu⟩ := x7
            clear K7 b7
            go_wp2_with fail
            refine (Check_k hE K7s op x 8 z 0 (WB.out _ (by decide)) H3.out).mono ?_
            rintro r w8 ⟨rfl, k8⟩
            have K8 := K7s.trans k8
            have b8 := b7s.kp k8
            have x8 := x7s.kp k8
            clear K7s b7s x7s k8 sx x0 x1 x2 x3 xu
            have K9 := (((K8.setCell (p := ⟨wr.heap.size, 0, none⟩) hX (.int .i64 op)).setCell (p := ⟨wr.heap.size, 1, none⟩) hX (.int .i64 x)).setCell (p := ⟨wr.heap.size, 2, none⟩) hX (.int .i64 y)).setCell (p := ⟨wr.heap.size, 3, none⟩) hX (.int .i64 z)
            have b9 := (((b8.far hne 0 (.int .i64 op)).far hne 1 (.int .i64 x)).far hne 2 (.int .i64 y)).far hne 3 (.int .i64 z)
            have x9 := (((x8.set0 op).set1 x).set2 y).set3 z
            obtain ⟨si, i0, i1, i2, i3, iu⟩ := b8
            obtain ⟨sx, x0, x1, x2, x3, xu⟩ := x8
            go_upto_region 36 with (fail)
            generalize ((((w8.setCell ⟨wr.heap.size, 0, none⟩ (.int .i64 op)).setCell ⟨wr.heap.size, 1, none⟩ (.int .i64 x)).setCell ⟨wr.heap.size, 2, none⟩ (.int .i64 y)).setCell ⟨wr.heap.size, 3, none⟩ (.int .i64 z)) = W9 at K9 b9 x9 ⊢
            clear K8 si i0 i1 i2 i3 iu sx x0 x1 x2 x3 xu
            have K9s := K9.setCell (p := ⟨wr.heap.size, 3, none⟩) hX (.int .i64 8)
            have b9s := b9.far hne 3 (.int .i64 8)
            have x9s := x9.set3 8
            obtain ⟨sx, x0, x1, x2, x3, xu⟩ := x9
            clear K9 b9
            go_wp2_with fail
            refine (Check_k hE K9s op x y 8 2 (WC.out _ (by decide)) H4.out).mono ?_
            rintro r w10 ⟨rfl, k10⟩
            have K10 := K9s.trans k10
            have b10 := b9s.kp k10
            have x10 := x9s.kp k10
            clear K9s b9s x9s k10 sx x0 x1 x2 x3 xu
            have KO := K10.alloc #[.int .i64 1, .int .i64 1, .int .i64 1, .int .i64 1, .int .i64 1, .int .i64 1, .int .i64 1, .int .i64 1] 3
            have bO := b10.kp ((Kp.refl w10).alloc #[.int .i64 1, .int .i64 1, .int .i64 1, .int .i64 1, .int .i64 1, .int .i64 1, .int .i64 1, .int .i64 1] 3)
            clear x10 K10
            obtain ⟨si, i0, i1, i2, i3, iu⟩ := b10
            go_wp2_with fail
            refine (Effect_k hE KO op x y z HI.out _ 8 8 oneN (ones_in w10) t1 g1 o1 HT1.out HG1.out HO1.out).mono ?_
            rintro r w11 ⟨rfl, k11⟩
            have K11 := KO.trans k11
            have b11 := bO.kp k11
            clear KO bO k11 si i0 i1 i2 i3 iu
            obtain ⟨si, i0, i1, i2, i3, iu⟩ := b11
            have hxor := HXOR.out
            have KP := (K11.alloc #[.int .i64 op, .int .i64 xa, .int .i64 y, .int .i64 z] 27).alloc #[.int .i64 1, .int .i64 1, .int .i64 1, .int .i64 1, .int .i64 1, .int .i64 1, .int .i64 1, .int .i64 1] 3
            have oi : IIn ((w11.alloc (.cells #[.int .i64 op, .int .i64 xa, .int .i64 y, .int .i64 z] 27)).alloc (.cells #[.int .i64 1, .int .i64 1, .int .i64 1, .int .i64 1, .int .i64 1, .int .i64 1, .int .i64 1, .int .i64 1] 3)) (some ⟨w11.heap.size + 1, 0, none⟩) oneN 8 := by
              have := ones_in (w11.alloc (.cells #[.int .i64 op, .int .i64 xa, .int .i64 y, .int .i64 z] 27))
              simpa using this
            have OI := Lib.hid oi
            clear oi
            go_wp2_with fail
            refine (Effect_k hE KP op xa y z WX.out _ 8 8 oneN OI.out t2 g2 o2 HT2.out HG2.out HO2.out).mono ?_
            rintro r w12 ⟨rfl, k12⟩
            have K12 := KP.trans k12
            clear KP OI k12 hxor
            cases o1 <;> cases o2
            case true.true =>
              obtain ⟨rfl, rfl⟩ := HS.out rfl rfl
              go_wp2
              go_ret
              exact ⟨rfl, K12⟩
            all_goals
              go_wp2
              go_ret
              exact ⟨rfl, K12⟩
          · have K6 := K5
            have b6 := b5
            have x6 := x5
            clear K5 b5 x5 p5
            generalize w5 = w6 at *
            have K7 := (((K6.setCell (p := ⟨wr.heap.size, 0, none⟩) hX (.int .i64 op)).setCell (p := ⟨wr.heap.size, 1, none⟩) hX (.int .i64 x)).setCell (p := ⟨wr.heap.size, 2, none⟩) hX (.int .i64 y)).setCell (p := ⟨wr.heap.size, 3, none⟩) hX (.int .i64 z)
            have b7 := (((b6.far hne 0 (.int .i64 op)).far hne 1 (.int .i64 x)).far hne 2 (.int .i64 y)).far hne 3 (.int .i64 z)
            have x7 := (((x6.set0 op).set1 x).set2 y).set3 z
            obtain ⟨si, i0, i1, i2, i3, iu⟩ := b6
            obtain ⟨sx, x0, x1, x2, x3, xu⟩ := x6
            go_upto_region 32 with (fail)
            generalize ((((w6.setCell ⟨wr.heap.size, 0, none⟩ (.int .i64 op)).setCell ⟨wr.heap.size, 1, none⟩ (.int .i64 x)).setCell ⟨wr.heap.size, 2, none⟩ (.int .i64 y)).setCell ⟨wr.heap.size, 3, none⟩ (.int .i64 z)) = W7 at K7 b7 x7 ⊢
            clear K6 si i0 i1 i2 i3 iu sx x0 x1 x2 x3 xu
            have K7s := K7.setCell (p := ⟨wr.heap.size, 2, none⟩) hX (.int .i64 8)
            have b7s := b7.far hne 2 (.int .i64 8)
            have x7s := x7.set2 8
            obtain ⟨sx, x0, x1, x2, x3, xu⟩ := x7
            clear K7 b7
            go_wp2_with fail
            refine (Check_k hE K7s op x 8 z 0 (WB.out _ (by decide)) H3.out).mono ?_
            rintro r w8 ⟨rfl, k8⟩
            have K8 := K7s.trans k8
            have b8 := b7s.kp k8
            have x8 := x7s.kp k8
            clear K7s b7s x7s k8 sx x0 x1 x2 x3 xu
            have K9 := (((K8.setCell (p := ⟨wr.heap.size, 0, none⟩) hX (.int .i64 op)).setCell (p := ⟨wr.heap.size, 1, none⟩) hX (.int .i64 x)).setCell (p := ⟨wr.heap.size, 2, none⟩) hX (.int .i64 y)).setCell (p := ⟨wr.heap.size, 3, none⟩) hX (.int .i64 z)
            have b9 := (((b8.far hne 0 (.int .i64 op)).far hne 1 (.int .i64 x)).far hne 2 (.int .i64 y)).far hne 3 (.int .i64 z)
            have x9 := (((x8.set0 op).set1 x).set2 y).set3 z
            obtain ⟨si, i0, i1, i2, i3, iu⟩ := b8
            obtain ⟨sx, x0, x1, x2, x3, xu⟩ := x8
            go_upto_region 36 with (fail)
            generalize ((((w8.setCell ⟨wr.heap.size, 0, none⟩ (.int .i64 op)).setCell ⟨wr.heap.size, 1, none⟩ (.int .i64 x)).setCell ⟨wr.heap.size, 2, none⟩ (.int .i64 y)).setCell ⟨wr.heap.size, 3, none⟩ (.int .i64 z)) = W9 at K9 b9 x9 ⊢
            clear K8 si i0 i1 i2 i3 iu sx x0 x1 x2 x3 xu
            have K9s := K9.setCell (p := ⟨wr.heap.size, 3, none⟩) hX (.int .i64 8)
            have b9s := b9.far hne 3 (.int .i64 8)
            have x9s := x9.set3 8
            obtain ⟨sx, x0, x1, x2, x3, xu⟩ := x9
            clear K9 b9
            go_wp2_with fail
            refine (Check_k hE K9s op x y 8 0 (WC.out _ (by decide)) H4.out).mono ?_
            rintro r w10 ⟨rfl, k10⟩
            have K10 := K9s.trans k10
            have b10 := b9s.kp k10
            have x10 := x9s.kp k10
            clear K9s b9s x9s k10 sx x0 x1 x2 x3 xu
            have KO := K10.alloc #[.int .i64 1, .int .i64 1, .int .i64 1, .int .i64 1, .int .i64 1, .int .i64 1, .int .i64 1, .int .i64 1] 3
            have bO := b10.kp ((Kp.refl w10).alloc #[.int .i64 1, .int .i64 1, .int .i64 1, .int .i64 1, .int .i64 1, .int .i64 1, .int .i64 1, .int .i64 1] 3)
            clear x10 K10
            obtain ⟨si, i0, i1, i2, i3, iu⟩ := b10
            go_wp2_with fail
            refine (Effect_k hE KO op x y z HI.out _ 8 8 oneN (ones_in w10) t1 g1 o1 HT1.out HG1.out HO1.out).mono ?_
            rintro r w11 ⟨rfl, k11⟩
            have K11 := KO.trans k11
            have b11 := bO.kp k11
            clear KO bO k11 si i0 i1 i2 i3 iu
            obtain ⟨si, i0, i1, i2, i3, iu⟩ := b11
            have hxor := HXOR.out
            have KP := (K11.alloc #[.int .i64 op, .int .i64 xa, .int .i64 y, .int .i64 z] 27).alloc #[.int .i64 1, .int .i64 1, .int .i64 1, .int .i64 1, .int .i64 1, .int .i64 1, .int .i64 1, .int .i64 1] 3
            have oi : IIn ((w11.alloc (.cells #[.int .i64 op, .int .i64 xa, .int .i64 y, .int .i64 z] 27)).alloc (.cells #[.int .i64 1, .int .i64 1, .int .i64 1, .int .i64 1, .int .i64 1, .int .i64 1, .int .i64 1, .int .i64 1] 3)) (some ⟨w11.heap.size + 1, 0, none⟩) oneN 8 := by
              have := ones_in (w11.alloc (.cells #[.int .i64 op, .int .i64 xa, .int .i64 y, .int .i64 z] 27))
              simpa using this
            have OI := Lib.hid oi
            clear oi
            go_wp2_with fail
            refine (Effect_k hE KP op xa y z WX.out _ 8 8 oneN OI.out t2 g2 o2 HT2.out HG2.out HO2.out).mono ?_
            rintro r w12 ⟨rfl, k12⟩
            have K12 := KP.trans k12
            clear KP OI k12 hxor
            cases o1 <;> cases o2
            case true.true =>
              obtain ⟨rfl, rfl⟩ := HS.out rfl rfl
              go_wp2
              go_ret
              exact ⟨rfl, K12⟩
            all_goals
              go_wp2
              go_ret
              exact ⟨rfl, K12⟩

theorem xor_bd (x : Int) : -9223372036854775808 ≤ bits .xor .i64 x 1 ∧ bits .xor .i64 x 1 ≤ 9223372036854775807 := by
  unfold bits
  simp only [IntKind.wrap_i64]
  omega
theorem num_walk (i : In) (w : World) (hE : Env w) (hi : Wf i) :
    Calls Tryd.prog 7 #[.agg #[.int .i64 i.op, .int .i64 i.a, .int .i64 i.b, .int .i64 i.c]] w (Yes w) := by
  obtain ⟨op, x, y, z⟩ := i
  cases hc : chk ⟨op, x, y, z⟩ with
  | false => exact num_bad op x y z w hE hi hc
  | true =>
    have hop := (chk_parts hc).1
    have hn := cnt_txt hc
    simp only at hop hn
    have hr := num_row hop
    have hn3 : nK op ≤ 3 := by unfold nK; split; omega; split; omega; split <;> omega
    refine num_good op x y z w hE hi hc _ rfl (nK op) hn hn3 _ (xor_bd x) rfl _ _ _ _ _ _ rfl rfl rfl rfl rfl rfl (fun a b => eff_same a b) _ _ _ _ rfl rfl rfl rfl ?_
    unfold chkE
    rw [with_a hc 1, with_a hc 0, with_b hc 8, with_c hc 8]
    rcases hr with ⟨a, b, c, d⟩ | ⟨a, a0, b, c, d⟩ | ⟨a, a0, b, c, d⟩ | ⟨a, b, c, d⟩ | ⟨a, b, c, d⟩
    · rw [a, b, c, d]; simp
    · rw [a, a0, b, c, d]; simp
    · rw [a, a0, b, c, d]; simp
    · rw [a, b, c, d]; simp
    · rw [a, b, c, d]; simp
end Co
end Go.Proofs.YtehmpakcfahmaaaDoor
