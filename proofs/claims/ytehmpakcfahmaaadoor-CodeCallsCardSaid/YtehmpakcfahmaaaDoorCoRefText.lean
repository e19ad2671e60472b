/-
  WALKS: the document's own answers of layer 3: Text. Own work.
-/
import Derived.Test.YtehmpakcfahmaaaDoorCoRefEffect
import Derived.Deep.RegionHeld3
import Derived.Deep.RegionWith
import Derived.Deep.DeepCutAuto
import Derived.IntWalk
namespace Go.Proofs.YtehmpakcfahmaaaDoor
namespace Co
open Go.RowKit Go
set_option linter.unusedVariables false

theorem rText_bad {w : World} (op x y z : Int) (hc : chkE ⟨op, x, y, z⟩ = 2) :
    Calls Tryd.prog 20 #[.agg #[.int .i64 op, .int .i64 x, .int .i64 y, .int .i64 z]] w fun r w' => r = .returned (.string (bytesOf [])) ∧ Kp w w' := by
  have H := Lib.hid hc
  clear hc
  go_enter Tryd.func20, Tryd.ntmps20
  go_wp2_with (go_at_call 18; refine (rCheck_any _ _ _ _ _ 2 H.out).mono ?_; rintro e w1 ⟨rfl, k1⟩)
  go_ret
  exact ⟨rfl, ((Kp.refl w).alloc _ _).trans k1⟩
theorem namesL_getD {op : Int} (h : 1 ≤ op ∧ op ≤ 24) : namesL.getD (op - 1).toNat [] = opL op := by
  have := namesL_at ⟨(op - 1).toNat, by omega⟩
  rw [List.getD_eq_getElem?_getD, this]
  simp only [Option.getD_some]
  rw [show (((op - 1).toNat : Nat) : Int) + 1 = op by omega]
theorem cat3 (u p : List UInt8) : bytesOf u ++ ⟨#[32]⟩ ++ bytesOf p = bytesOf (u ++ 32 :: p) := by
  have e : bytesOf u ++ ⟨#[32]⟩ = bytesOf (u ++ [32]) := bytesOf_append u [32]
  rw [e, bytesOf_append]
  simp
theorem sel3_kk {a b c : Int} (ha : 0 ≤ a ∧ a ≤ 8) (hb : 0 ≤ b ∧ b ≤ 8) (hc : 0 ≤ c ∧ c ≤ 8) : ∀ j, 0 ≤ sel3 a b c j ∧ sel3 a b c j ≤ 8
  | 0 => ha
  | 1 => hb
  | _ + 2 => hc
theorem rk_0 {k : Int} (h : k ≠ 0) (hk : 0 ≤ k ∧ k ≤ 8) : (rk k == 0) = false := by
  simp only [beq_eq_false_iff_ne, ne_eq]; unfold rk; split; omega; split; omega; split <;> omega
theorem rk_5 {k : Int} (h : k ≠ 5) (hk : 0 ≤ k ∧ k ≤ 8) : (rk k == 5) = false := by
  simp only [beq_eq_false_iff_ne, ne_eq]; unfold rk; split; omega; split; omega; split <;> omega
theorem rk_6 {k : Int} (h : k ≠ 6) (hk : 0 ≤ k ∧ k ≤ 8) : (rk k == 6) = false := by
  simp only [beq_eq_false_iff_ne, ne_eq]; unfold rk; split; omega; split; omega; split <;> omega
theorem rNames_b {w0 w : World} (hk : Kp w0 w) (B : Nat) (op x y z : Int) (b : Box w B op x y z) : Calls Tryd.prog 22 #[] w fun e w' => e = .returned (.slice (some ⟨w.heap.size, 0, none⟩) 24 24) ∧ Scs w' w.heap.size 0 namesL ∧ Box w' B op x y z ∧ Kp w0 w' :=
  (rNames_any w).mono fun _ _ ⟨h, s, k⟩ => ⟨h, s, b.kp k, hk.trans k⟩
set_option maxHeartbeats 4000000 in
set_option maxRecDepth 100000 in
theorem rText_good {w : World} (hE : Env w) (op x y z : Int) (hi : Wf ⟨op, x, y, z⟩) (nm : List UInt8) (a b c tk gv : Int) (jm sp : Bool) (h : rowAt op = ⟨nm, a, b, c, tk, gv, jm, sp⟩) (hop : 1 ≤ op ∧ op ≤ 24) (hc : chkE ⟨op, x, y, z⟩ = 0) (s : List UInt8) (hs : upTo (opL op) (sel3 a b c) (sel3 x y z) 3 = s) :
    Calls Tryd.prog 20 #[.agg #[.int .i64 op, .int .i64 x, .int .i64 y, .int .i64 z]] w fun r w' => r = .returned (.string (bytesOf s)) ∧ Kp w w' := by
  have H := Lib.hid hc
  have HI := Lib.hid hi
  have HR := Lib.hid h
  have HS := Lib.hid hs
  have hf := sel3_bd hi.a hi.b hi.c
  have HB := Lib.hid (fun k (hk : k ≤ 3) => upTo_bd (kf := sel3 a b c) (opL_bd op) hf k hk)
  have HF := Lib.hid hf
  clear hc hi h hs hf
  go_enter Tryd.func20, Tryd.ntmps20
  go_wp2_with fail
  refine (rCheck_any _ op x y z 0 H.out).mono ?_
  rintro e w1 ⟨rfl, k1⟩
  have K1 := ((Kp.refl w).alloc _ _).trans k1
  have b1 := (Box.new w op x y z).kp k1
  clear k1
  have HB1 := Lib.hid b1
  obtain ⟨si, i0, i1, i2, i3, iu⟩ := b1
  go_wp2_with fail
  have hw1 : IntKind.i64.wrap (op - 1) = op - 1 := IntWalk.i64_in _ (by omega)
  have hw2 : 0 ≤ op - 1 := by omega
  have hw3 : op - 1 < 24 := by omega
  have hw4 : (op - 1).toNat < 24 := by omega
  have HG := Lib.hid (namesL_getD hop)
  go_region_with (go_at_call 22; refine (rNames_any _).mono ?_; rintro e w2 ⟨rfl, s2, k2⟩; have g : w2.cell? ⟨w1.heap.size, (op - 1).toNat, none⟩ = some (.string (bytesOf (opL op))) := (by have := s2.at' (op - 1).toNat hw4; rw [HG.out, Nat.zero_add] at this; exact this); have g' : w2.cell? ⟨w1.heap.size, op.toNat - 1, none⟩ = some (.string (bytesOf (opL op))) := (by rw [show op.toNat - 1 = (op - 1).toNat by omega]; exact g); have bx := (HB1.out.kp ((Kp.refl w1).drew)).kp k2; have K2 := (K1.drew).trans k2; clear s2; obtain ⟨si2, i02, i12, i22, i32, iu2⟩ := bx)
  all_goals
    clear iu2
    go_wp2_with fail
    refine (has_any _ op nm a b c tk gv jm sp HR.out).mono ?_
    rintro e w3 ⟨rfl, k3⟩
    have K3 := K2.trans k3
    have c3 := k3.cells
    have z3 : w.heap.size < w3.heap.size := Nat.lt_of_lt_of_le si2 k3.size
    have g3 : w3.cell? ⟨w.heap.size, 1, none⟩ = some (.int .i64 x) := (k3.cells _ _ si2).trans i12
    have g4 : w3.cell? ⟨w.heap.size, 2, none⟩ = some (.int .i64 y) := (k3.cells _ _ si2).trans i22
    have g5 : w3.cell? ⟨w.heap.size, 3, none⟩ = some (.int .i64 z) := (k3.cells _ _ si2).trans i32
    clear c3 k3 g g' i02 i12 i22 i32 i0 i1 i2 i3 iu si HB1
    have KB := (K3.alloc #[.int .i64 (rk a), .int .i64 (rk b), .int .i64 (rk c)] 51).alloc #[.int .i64 x, .int .i64 y, .int .i64 z] 51
    have NA := Lib.hid ((tri_new w3 (rk a) (rk b) (rk c)).kp ((Kp.refl _).alloc #[.int .i64 x, .int .i64 y, .int .i64 z] 51))
    have NB : Hid (Nums ((w3.alloc (.cells #[.int .i64 (rk a), .int .i64 (rk b), .int .i64 (rk c)] 51)).alloc (.cells #[.int .i64 x, .int .i64 y, .int .i64 z] 51)) (w3.heap.size + 1) (sel3 x y z)) := Lib.hid (by
      have := tri_new (w3.alloc (.cells #[.int .i64 (rk a), .int .i64 (rk b), .int .i64 (rk c)] 51)) x y z
      simpa using this)
    have KK := kinds_in op
    rw [HR.out] at KK
    simp only at KK
    have HKK := Lib.hid (sel3_kk (a := a) (b := b) (c := c) ⟨KK.1.1, KK.1.2⟩ ⟨KK.2.1.1, KK.2.1.2⟩ ⟨KK.2.2.1.1, KK.2.2.1.2⟩)
    clear KK
    go_wp2
    generalize hwb : (w3.alloc (.cells #[.int .i64 (rk a), .int .i64 (rk b), .int .i64 (rk c)] 51)).alloc (.cells #[.int .i64 x, .int .i64 y, .int .i64 z] 51) = wb at *
    clear hwb g3 g4 g5
    go_loopw [3, 6] (fun t i' wr => ∃ k : Nat, k ≤ 3 ∧ i' = .int .i64 k ∧ t = .string (bytesOf (upTo (opL op) (sel3 a b c) (sel3 x y z) k)) ∧ Kp wb wr) (fun _ i' _ => 3 - (intOf i').toNat)
    case atStart => exact ⟨0, by omega, rfl, rfl, Kp.refl _⟩
    case round =>
      obtain ⟨k, hk, rfl, rfl, kr⟩ := hrel
      by_cases hlt : k < 3
      · have hca : wr.cell? ⟨w3.heap.size, k, none⟩ = some (.int .i64 (rk (sel3 a b c k))) := by
          have := (NA.out.kp kr).cell k hlt
          rw [this]
          obtain rfl | rfl | rfl : k = 0 ∨ k = 1 ∨ k = 2 := by omega
          all_goals rfl
        have hcb : wr.cell? ⟨w3.heap.size + 1, k, none⟩ = some (.int .i64 (sel3 x y z k)) := (NB.out.kp kr).cell k hlt
        have hnb := HF.out k
        have hub := HB.out k hk
        have hpb := part_bd (k := sel3 a b c k) hnb.1 hnb.2
        have hkk := HKK.out k
        have kq := KB.trans kr
        have E1 : upTo (opL op) (sel3 a b c) (sel3 x y z) (k + 1) = upTo (opL op) (sel3 a b c) (sel3 x y z) k ++ part (sel3 a b c k) (sel3 x y z k) := rfl
        by_cases h0 : sel3 a b c k = 0
        · have q0 : (rk (sel3 a b c k) == 0) = true := by rw [h0]; rfl
          have e : part (sel3 a b c k) (sel3 x y z k) = [] := by unfold part; rw [if_pos h0]
          rw [e, List.append_nil] at E1
          clear e h0 hpb hkk
          generalize hU : upTo (opL op) (sel3 a b c) (sel3 x y z) k = U at *
          generalize hV : upTo (opL op) (sel3 a b c) (sel3 x y z) (k + 1) = V at *
          generalize sel3 a b c k = K at *
          generalize sel3 x y z k = N at *
          have HE1 := Lib.hid E1
          have HV := Lib.hid hV
          clear E1 hU hV
          go_wp2
          go_roundw
          case rel => exact ⟨k + 1, by omega, by go_num, by rw [HV.out, HE1.out], kr⟩
          case measure => simp [intOf]; omega
        by_cases h5 : sel3 a b c k = 5
        · have hp : prt (sel3 a b c k) (sel3 x y z k) = signL (sel3 x y z k) := by rw [h5]; rfl
          have e : part (sel3 a b c k) (sel3 x y z k) = 32 :: prt (sel3 a b c k) (sel3 x y z k) := by unfold part; rw [if_neg h0]
          rw [e, hp] at E1
          rw [hp] at hpb
          have q0 : (rk (sel3 a b c k) == 0) = false := by rw [h5]; rfl
          have q5 : (rk (sel3 a b c k) == 5) = true := by rw [h5]; rfl
          have q6 : (rk (sel3 a b c k) == 6) = false := by rw [h5]; rfl
          clear h5
          clear e h0 hp
          generalize hU : upTo (opL op) (sel3 a b c) (sel3 x y z) k = U at *
          generalize hV : upTo (opL op) (sel3 a b c) (sel3 x y z) (k + 1) = V at *
          generalize sel3 a b c k = K at *
          generalize sel3 x y z k = N at *
          have es : (bytesOf U).size ≤ 100 := by rw [bytesOf_size]; omega
          have ep : (bytesOf (signL N)).size ≤ 100 := by rw [bytesOf_size]; omega
          have HE1 := Lib.hid E1
          have HV := Lib.hid hV
          clear E1 hU hV
          go_wp2_with (go_at_call 34; refine (rSign_any _ _).mono ?_; rintro e w5 ⟨rfl, k5⟩)
          go_roundw
          case rel => exact ⟨k + 1, by omega, by go_num, by rw [HV.out, HE1.out, cat3], kr.trans k5⟩
          case measure => simp [intOf]; omega
        by_cases h6 : sel3 a b c k = 6
        · have hp : prt (sel3 a b c k) (sel3 x y z k) = nameL (sel3 x y z k) := by rw [h6]; rfl
          have e : part (sel3 a b c k) (sel3 x y z k) = 32 :: prt (sel3 a b c k) (sel3 x y z k) := by unfold part; rw [if_neg h0]
          rw [e, hp] at E1
          rw [hp] at hpb
          have q0 : (rk (sel3 a b c k) == 0) = false := by rw [h6]; rfl
          have q5 : (rk (sel3 a b c k) == 5) = false := by rw [h6]; rfl
          have q6 : (rk (sel3 a b c k) == 6) = true := by rw [h6]; rfl
          clear h5 h6
          clear e h0 hp
          generalize hU : upTo (opL op) (sel3 a b c) (sel3 x y z) k = U at *
          generalize hV : upTo (opL op) (sel3 a b c) (sel3 x y z) (k + 1) = V at *
          generalize sel3 a b c k = K at *
          generalize sel3 x y z k = N at *
          have es : (bytesOf U).size ≤ 100 := by rw [bytesOf_size]; omega
          have ep : (bytesOf (nameL N)).size ≤ 100 := by rw [bytesOf_size]; omega
          have HE1 := Lib.hid E1
          have HV := Lib.hid hV
          clear E1 hU hV
          go_wp2_with (go_at_call 35; refine (rName_any _ _).mono ?_; rintro e w5 ⟨rfl, k5⟩)
          go_roundw
          case rel => exact ⟨k + 1, by omega, by go_num, by rw [HV.out, HE1.out, cat3], kr.trans k5⟩
          case measure => simp [intOf]; omega
        · have hp : prt (sel3 a b c k) (sel3 x y z k) = Lib.itoa (sel3 x y z k) := by unfold prt; rw [if_neg h5, if_neg h6]
          have e : part (sel3 a b c k) (sel3 x y z k) = 32 :: prt (sel3 a b c k) (sel3 x y z k) := by unfold part; rw [if_neg h0]
          rw [e, hp] at E1
          rw [hp] at hpb
          have q0 : (rk (sel3 a b c k) == 0) = false := rk_0 h0 hkk
          have q5 : (rk (sel3 a b c k) == 5) = false := rk_5 h5 hkk
          have q6 : (rk (sel3 a b c k) == 6) = false := rk_6 h6 hkk
          clear h5 h6
          clear e h0 hp
          generalize hU : upTo (opL op) (sel3 a b c) (sel3 x y z) k = U at *
          generalize hV : upTo (opL op) (sel3 a b c) (sel3 x y z) (k + 1) = V at *
          generalize sel3 a b c k = K at *
          generalize sel3 x y z k = N at *
          have es : (bytesOf U).size ≤ 100 := by rw [bytesOf_size]; omega
          have ep : (bytesOf (Lib.itoa N)).size ≤ 100 := by rw [bytesOf_size]; omega
          have HE1 := Lib.hid E1
          have HV := Lib.hid hV
          clear E1 hU hV
          go_wp2_with (go_at_call 36; refine (Itoa_any (hE.kept kq) _ hnb.1 hnb.2).mono ?_; rintro e w5 ⟨rfl, k5⟩)
          go_roundw
          case rel => exact ⟨k + 1, by omega, by go_num, by rw [HV.out, HE1.out, cat3], kr.trans k5⟩
          case measure => simp [intOf]; omega
      · obtain rfl : k = 3 := by omega
        go_wp2
        go_ret
        exact ⟨ret_str (by rw [HS.out]), KB.trans kr⟩
theorem rText_any {w : World} (hE : Env w) (op x y z : Int) (hi : Wf ⟨op, x, y, z⟩) (t : List UInt8) (ht : txt ⟨op, x, y, z⟩ = t) :
    Calls Tryd.prog 20 #[.agg #[.int .i64 op, .int .i64 x, .int .i64 y, .int .i64 z]] w fun r w' => r = .returned (.string (bytesOf t)) ∧ Kp w w' := by
  rw [← ht]
  cases hc : chk ⟨op, x, y, z⟩ with
  | false => rw [txt_no hc]; exact rText_bad op x y z (chkE_no hc)
  | true =>
    rw [txt_upTo hc]
    generalize hr : rowAt op = r
    obtain ⟨nm, a, b, c, tk, gv, jm, sp⟩ := r
    have hop := (chk_parts hc).1
    simp only at hop
    exact rText_good hE op x y z hi nm a b c tk gv jm sp hr hop (chkE_yes hc) _ rfl
end Co
end Go.Proofs.YtehmpakcfahmaaaDoor
