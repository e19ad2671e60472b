/-
  WALKS: the document's own Parse of layer 3. Own work.
-/
import Derived.Test.YtehmpakcfahmaaaDoorCoPrsR
import Derived.Test.YtehmpakcfahmaaaDoorCoRefText
namespace Go.Proofs.YtehmpakcfahmaaaDoor
namespace Co
open Go.RowKit Go
set_option linter.unusedVariables false

/-- An instruction's block, its three numbers by their place. -/
structure Fld (w : World) (B : Nat) (op : Int) (f : Nat → Int) : Prop where
  size : B < w.heap.size
  c0 : w.cell? ⟨B, 0, none⟩ = some (.int .i64 op)
  cs : ∀ j, j < 3 → w.cell? ⟨B, j + 1, none⟩ = some (.int .i64 (f j))
  fro : ∀ j, w.frozen? ⟨B, j, none⟩ = false
theorem Fld.kp {w w' : World} {B : Nat} {op : Int} {f : Nat → Int} (h : Fld w B op f) (k : Kp w w') : Fld w' B op f :=
  ⟨Nat.lt_of_lt_of_le h.size k.size, (k.cells _ _ h.size).trans h.c0, fun j hj => (k.cells _ _ h.size).trans (h.cs j hj), fun j => (k.fros _ _ h.size).trans (h.fro j)⟩
theorem Fld.of {w : World} {B : Nat} {op : Int} {f : Nat → Int} (h : Box w B op (f 0) (f 1) (f 2)) : Fld w B op f :=
  ⟨h.size, h.c0, fun j hj => by
    obtain rfl | rfl | rfl : j = 0 ∨ j = 1 ∨ j = 2 := by omega
    · exact h.c1
    · exact h.c2
    · exact h.c3, h.fro⟩
theorem Fld.box {w : World} {B : Nat} {op : Int} {f : Nat → Int} (h : Fld w B op f) : Box w B op (f 0) (f 1) (f 2) :=
  ⟨h.size, h.c0, h.cs 0 (by decide), h.cs 1 (by decide), h.cs 2 (by decide), h.fro⟩
theorem Fld.set {w : World} {B : Nat} {op : Int} {f : Nat → Int} (h : Fld w B op f) {i : Nat} (hi : i < 3) (v : Int) : Fld (w.setCell ⟨B, i + 1, none⟩ (.int .i64 v)) B op (fun j => if j = i then v else f j) where
  size := by simpa using h.size
  c0 := (World.cell?_setCell_other _ _ _ _ (fun e => by have := congrArg Addr.off e; simp at this)).trans h.c0
  cs := fun j hj => by
    by_cases e : j = i
    · subst e
      rw [if_pos rfl]
      exact World.cell?_setCell_same _ _ _ (h.cs j hj)
    · rw [if_neg e]
      exact (World.cell?_setCell_other _ _ _ _ (fun e' => e (by have := congrArg Addr.off e'; simp at this; omega))).trans (h.cs j hj)
  fro := fun j => by rw [World.frozen?_setCell]; exact h.fro j
theorem Fld.ext {w : World} {B : Nat} {op : Int} {f g : Nat → Int} (h : Fld w B op f) (e : ∀ j, j < 3 → f j = g j) : Fld w B op g :=
  ⟨h.size, h.c0, fun j hj => by rw [h.cs j hj, e j hj], h.fro⟩
/-- n values of some kind in a block that stands still. -/
structure Row3 (w : World) (B : Nat) (v : Nat → Value) : Prop where
  size : B < w.heap.size
  cs : ∀ j, j < 3 → w.cell? ⟨B, j, none⟩ = some (v j)
theorem Row3.kp {w w' : World} {B : Nat} {v : Nat → Value} (h : Row3 w B v) (k : Kp w w') : Row3 w' B v :=
  ⟨Nat.lt_of_lt_of_le h.size k.size, fun j hj => (k.cells _ _ h.size).trans (h.cs j hj)⟩

theorem Scs.far {w : World} {b off : Nat} {l : List (List UInt8)} (h : Scs w b off l) {B : Nat} (hB : B ≠ b) (o : Nat) (v : Value) : Scs (w.setCell ⟨B, o, none⟩ v) b off l :=
  ⟨by simpa using h.size, fun i hi => (World.cell?_setCell_other _ _ _ _ (fun e => hB (congrArg Addr.block e))).trans (h.at' i hi)⟩
theorem Nums.far {w : World} {b : Nat} {f : Nat → Int} (h : Nums w b f) {B : Nat} (hB : B ≠ b) (o : Nat) (v : Value) : Nums (w.setCell ⟨B, o, none⟩ v) b f :=
  ⟨by simpa using h.size, fun i hi => (World.cell?_setCell_other _ _ _ _ (fun e => hB (congrArg Addr.block e))).trans (h.cell i hi), fun j => by rw [World.frozen?_setCell]; exact h.fro j⟩
theorem Row3.far {w : World} {b : Nat} {v : Nat → Value} (h : Row3 w b v) {B : Nat} (hB : B ≠ b) (o : Nat) (u : Value) : Row3 (w.setCell ⟨B, o, none⟩ u) b v :=
  ⟨by simpa using h.size, fun i hi => (World.cell?_setCell_other _ _ _ _ (fun e => hB (congrArg Addr.block e))).trans (h.cs i hi)⟩
theorem ptr_new (w : World) (I : Nat) : Row3 (w.alloc (.cells #[.pointer (some ⟨I, 1, none⟩), .pointer (some ⟨I, 2, none⟩), .pointer (some ⟨I, 3, none⟩)] 53)) w.heap.size (fun j => .pointer (some ⟨I, j + 1, none⟩)) := ⟨by simp, fun j hj => by
    obtain rfl | rfl | rfl : j = 0 ∨ j = 1 ∨ j = 2 := by omega
    all_goals simp⟩
set_option maxHeartbeats 8000000 in
set_option maxRecDepth 100000 in
theorem rParse_core {w : World} (hE : Env w) (s : List UInt8) (h : s.length ≤ 100) (op : Int) (f : Nat → Int) (ho : opK ((spl s).getD 0 []) 24 = op) (hf : ∀ j, fR op (spl s) j = f j) (hW : Wf ⟨op, f 0, f 1, f 2⟩) (t : List UInt8) (ht : txt ⟨op, f 0, f 1, f 2⟩ = t) (ce : Int) (hce : chkE ⟨op, f 0, f 1, f 2⟩ = ce) (bt : Bool) (hbt : decide (t = s) = bt)
    (ro rx ry rz re : Int) (hr : (ce = 0 ∧ bt = true ∧ ro = op ∧ rx = f 0 ∧ ry = f 1 ∧ rz = f 2 ∧ re = 0) ∨ ((ce = 2 ∨ (ce = 0 ∧ bt = false)) ∧ ro = 0 ∧ rx = 0 ∧ ry = 0 ∧ rz = 0 ∧ re = 11)) :
    Calls Tryd.prog 17 #[.string (bytesOf s)] w fun e w' => e = .returned (.tuple #[.agg #[.int .i64 ro, .int .i64 rx, .int .i64 ry, .int .i64 rz], .int .i64 re]) ∧ Kp w w' := by
  have hb := beq_bytes t s
  rw [hbt] at hb
  have okp := okp_spl s
  have hl1 := okp.pos
  have hl2 := okp.len
  have hle : ∀ j, ((spl s).getD j []).length ≤ 1000 := fun j => Nat.le_trans (spl_getD s j) (by omega)
  have hnl : ∀ k, k < 24 → namesL.getD k [] = opL ((k : Int) + 1) := fun k hk => by
    have := namesL_at ⟨k, hk⟩
    rw [List.getD_eq_getElem?_getD]
    simp only at this
    rw [this]; rfl
  have HO := Lib.hid ho
  have HF := Lib.hid hf
  have HW := Lib.hid hW
  have HT := Lib.hid ht
  have HC := Lib.hid hce
  have HLE := Lib.hid hle
  have HNL := Lib.hid hnl
  have kwa : Kp w (w.alloc (.cells #[.int .i64 0, .int .i64 0, .int .i64 0, .int .i64 0] 27)) := (Kp.refl w).alloc _ _
  have bR := Box.new w 0 0 0 0
  have hpc := pieces_any s (w.alloc (.cells #[.int .i64 0, .int .i64 0, .int .i64 0, .int .i64 0] 27)) (by rw [bytesOf_size]; omega) (by omega)
  have HP := Lib.hid hpc
  have HEa := Lib.hid (hE.kept kwa)
  clear ho hf hW ht hce hbt hle hnl okp hpc hE
  generalize hwa : w.alloc (.cells #[.int .i64 0, .int .i64 0, .int .i64 0, .int .i64 0] 27) = wa at *
  have HWA := Lib.hid hwa
  clear hwa
  go_enter Tryd.func17, Tryd.ntmps17
  go_wp2_with fail
  rw [HWA.out]
  refine HP.out.mono ?_
  rintro e w1 ⟨A, cap, rfl, s1, k1⟩
  rcases s1 with s1 | ⟨b, off, hbo, s1⟩
  · have := congrArg List.length s1
    rw [List.length_nil] at this
    omega
  simp only [Option.some.injEq, Addr.mk.injEq, and_true] at hbo
  obtain ⟨rfl, rfl⟩ := hbo
  have B1 := Box.new w1 0 0 0 0
  have S2 := s1.kp ((Kp.refl w1).alloc #[.int .i64 0, .int .i64 0, .int .i64 0, .int .i64 0] 27)
  have K2 := k1.alloc #[.int .i64 0, .int .i64 0, .int .i64 0, .int .i64 0] 27
  have hI : wa.heap.size ≤ w1.heap.size := k1.size
  have hAI : w1.heap.size ≠ A := fun e => by have := s1.size; omega
  clear s1 k1
  generalize hw2 : w1.alloc (.cells #[.int .i64 0, .int .i64 0, .int .i64 0, .int .i64 0] 27) = w2 at *
  have HW2 := Lib.hid hw2
  clear hw2
  have hl0 : ∃ l0, (spl s).getD 0 [] = l0 := ⟨_, rfl⟩
  obtain ⟨l0, hl0⟩ := hl0
  have HL0 := Lib.hid hl0
  clear hl0
  have hn : ∃ n, (spl s).length = n := ⟨_, rfl⟩
  obtain ⟨n, hn⟩ := hn
  have HN := Lib.hid hn
  rw [hn] at hl1 hl2 ⊢
  clear hn
  have hnz : (0 : Int) < (n : Int) := by omega
  go_wp2
  go_loopw [6] (fun i' wr => ∃ k : Nat, k ≤ 24 ∧ i' = .int .i64 k ∧ Box wr w1.heap.size (opK l0 k) 0 0 0 ∧ Scs wr A 0 (spl s) ∧ Kp wa wr) (fun i' _ => 24 - (intOf i').toNat)
  case atStart => exact ⟨0, by omega, rfl, by rw [opK_zero, HW2.out]; exact B1, by rw [HW2.out]; exact S2, by rw [HW2.out]; exact K2⟩
  case round =>
    obtain ⟨k, hk, rfl, bx, sx, kr⟩ := hrel
    go_wp2_with fail
    refine (rNames_any _).mono ?_
    rintro e w3 ⟨rfl, s3, k3⟩
    have bx3 := bx.kp k3
    have sx3 := sx.kp k3
    have kr3 := kr.trans k3
    clear bx sx kr s3 k3
    by_cases hlt : k < 24
    · have cA : w3.cell? ⟨A, 0, none⟩ = some (.string (bytesOf l0)) := by
        have := sx3.at' 0 (by rw [HN.out]; omega)
        rw [HL0.out] at this; exact this
      have hki : (k : Int) < 24 := by omega
      have HB3 := Lib.hid bx3
      have HS3 := Lib.hid sx3
      have HK3 := Lib.hid kr3
      have hAz := sx3.size
      clear bx3 sx3 kr3
      have hbq := beq_bytes (opL ((k : Int) + 1)) l0
      by_cases hc : opL ((k : Int) + 1) = l0
      · rw [decide_eq_true hc] at hbq
        have HQ := Lib.hid (opK_yes hlt hc)
        clear hc
        go_wp2_with fail
        go_region_with (go_at_call 22; refine (rNames_any _).mono ?_; rintro e w4 ⟨rfl, s4, k4⟩; have g : w4.cell? ⟨w3.heap.size, k, none⟩ = some (.string (bytesOf (opL ((k : Int) + 1)))) := (by have := s4.at' k hlt; rw [HNL.out k hlt, Nat.zero_add] at this; exact this); have KD : Kp w3 w4 := (((Kp.refl w3).drew).trans k4); have gA : w4.cell? ⟨A, 0, none⟩ = some (.string (bytesOf l0)) := (KD.cells _ _ hAz).trans cA; have bx4 := HB3.out.kp KD; have sx4 := HS3.out.kp KD; have kr4 := HK3.out.trans KD; clear s4 k4)
        all_goals
          obtain ⟨si4, i04, i14, i24, i34, iu4⟩ := bx4
          have bx5 : Box w4 w1.heap.size (opK l0 k) 0 0 0 := ⟨si4, i04, i14, i24, i34, iu4⟩
          have HB5 := Lib.hid bx5
          clear bx5 g gA KD cA
          go_wp2
          go_roundw
          case rel => exact ⟨k + 1, by omega, by go_num, by rw [HQ.out]; exact HB5.out.set0 _, sx4.far hAI _ _, kr4.setCell hI _⟩
          case measure => simp [intOf]; omega
      · rw [decide_eq_false hc] at hbq
        have HQ := Lib.hid (opK_no hlt hc)
        clear hc
        go_wp2_with fail
        go_region_with (go_at_call 22; refine (rNames_any _).mono ?_; rintro e w4 ⟨rfl, s4, k4⟩; have g : w4.cell? ⟨w3.heap.size, k, none⟩ = some (.string (bytesOf (opL ((k : Int) + 1)))) := (by have := s4.at' k hlt; rw [HNL.out k hlt, Nat.zero_add] at this; exact this); have KD : Kp w3 w4 := (((Kp.refl w3).drew).trans k4); have gA : w4.cell? ⟨A, 0, none⟩ = some (.string (bytesOf l0)) := (KD.cells _ _ hAz).trans cA; have bx4 := HB3.out.kp KD; have sx4 := HS3.out.kp KD; have kr4 := HK3.out.trans KD; clear s4 k4)
        all_goals
          clear g gA KD cA
          go_wp2
          go_roundw
          case rel => exact ⟨k + 1, by omega, by go_num, by rw [HQ.out]; exact bx4, sx4, kr4⟩
          case measure => simp [intOf]; omega
    · obtain rfl : k = 24 := by omega
      have e : opK l0 24 = op := by rw [← HL0.out]; exact HO.out
      rw [e] at bx3
      have c03 := bx3.c0
      go_wp2_with fail
      generalize hr0 : rowAt op = r0
      obtain ⟨nm, ka, kb, kc, tk, gv, jm, sp⟩ := r0
      have HR := Lib.hid hr0
      clear hr0 e
      refine (has_any _ op nm ka kb kc tk gv jm sp HR.out).mono ?_
      rintro e w4 ⟨rfl, k4⟩
      have bx4 := bx3.kp k4
      have sx4 := sx3.kp k4
      have kr4 := kr3.trans k4
      clear bx3 sx3 kr3 k4 c03
      go_upto_region 10 with (fail)
      have NA := (tri_new w4 (rk ka) (rk kb) (rk kc)).kp ((Kp.refl _).alloc #[.pointer (some ⟨w1.heap.size, 1, none⟩), .pointer (some ⟨w1.heap.size, 2, none⟩), .pointer (some ⟨w1.heap.size, 3, none⟩)] 53)
      have PR := ptr_new (w4.alloc (.cells #[.int .i64 (rk ka), .int .i64 (rk kb), .int .i64 (rk kc)] 51)) w1.heap.size
      have KW := ((Kp.refl w4).alloc #[.int .i64 (rk ka), .int .i64 (rk kb), .int .i64 (rk kc)] 51).alloc #[.pointer (some ⟨w1.heap.size, 1, none⟩), .pointer (some ⟨w1.heap.size, 2, none⟩), .pointer (some ⟨w1.heap.size, 3, none⟩)] 53
      have hP : (w4.alloc (.cells #[.int .i64 (rk ka), .int .i64 (rk kb), .int .i64 (rk kc)] 51)).heap.size = w4.heap.size + 1 := by simp
      rw [hP] at PR
      have FL := (Fld.of (f := fun _ => 0) bx4).kp KW
      have sx5 := sx4.kp KW
      have kr5 := kr4.trans KW
      have hIH : w1.heap.size ≠ w4.heap.size := by have := bx4.size; omega
      have hIP : w1.heap.size ≠ w4.heap.size + 1 := by have := bx4.size; omega
      clear KW hP bx4 sx4 kr4
      generalize hw5 : (w4.alloc (.cells #[.int .i64 (rk ka), .int .i64 (rk kb), .int .i64 (rk kc)] 51)).alloc (.cells #[.pointer (some ⟨w1.heap.size, 1, none⟩), .pointer (some ⟨w1.heap.size, 2, none⟩), .pointer (some ⟨w1.heap.size, 3, none⟩)] 53) = w5 at *
      clear hw5
      have hkr : ∀ j, kR op j = sel3 (rk ka) (rk kb) (rk kc) j := fun j => by unfold kR; rw [HR.out]
      have hstop : ∀ j, j = 3 ∨ n ≤ j + 1 → ∀ m, m < 3 → (if m < j then f m else 0) = f m := fun j hj m hm => by
        by_cases hmj : m < j
        · rw [if_pos hmj]
        · rw [if_neg hmj, ← HF.out m]
          unfold fR
          rw [if_neg (by rw [HN.out]; omega)]
      have hgo : ∀ j, j + 1 < n → f j = numR (sel3 (rk ka) (rk kb) (rk kc) j) ((spl s).getD (j + 1) []) := fun j hj => by
        rw [← HF.out j]; unfold fR; rw [if_pos (by rw [HN.out]; exact hj), hkr]
      have HST := Lib.hid hstop
      have HGO := Lib.hid hgo
      clear hkr hstop hgo
      go_wp2
      go_loopw [9] (fun i' wr => ∃ j : Nat, j ≤ 3 ∧ i' = .int .i64 j ∧ Fld wr w1.heap.size op (fun m => if m < j then f m else 0) ∧ Nums wr w4.heap.size (sel3 (rk ka) (rk kb) (rk kc)) ∧ Row3 wr (w4.heap.size + 1) (fun j => .pointer (some ⟨w1.heap.size, j + 1, none⟩)) ∧ Scs wr A 0 (spl s) ∧ Kp wa wr) (fun i' _ => 3 - (intOf i').toNat)
      case atStart => exact ⟨0, by omega, rfl, FL.ext (fun j hj => by rw [if_neg (by omega)]), NA, PR, sx5, kr5⟩
      case round =>
        clear FL NA PR sx5 kr5
        obtain ⟨j, hj, rfl, FL, NA, PR, sx, kr⟩ := hrel
        by_cases hg : j < 3 ∧ j + 1 < n
        · obtain ⟨hj3, hjn⟩ := hg
          have e1 : (j : Int) < 3 := by omega
          have e2 : (j : Int) + 1 < (n : Int) := by omega
          have cP := PR.cs j hj3
          have cH := NA.cell j hj3
          have cL := sx.at' (j + 1) (by rw [HN.out]; exact hjn)
          rw [Nat.zero_add] at cL
          have zP := PR.size
          have hlen := HLE.out (j + 1)
          have HG := Lib.hid (HGO.out j hjn)
          revert hlen HG cL cH
          generalize sel3 (rk ka) (rk kb) (rk kc) j = K
          generalize (spl s).getD (j + 1) [] = pk
          intro cH cL hlen HG
          have HLEN := Lib.hid hlen
          have HFL := Lib.hid FL
          have HNA := Lib.hid NA
          have HPR := Lib.hid PR
          have HSX := Lib.hid sx
          have HKR := Lib.hid kr
          clear hlen FL NA PR sx kr
          go_wp2_with fail
          have hw1 : IntKind.i64.wrap ((j : Int) + 1) = (j : Int) + 1 := IntWalk.i64_in _ (by omega)
          have hw2 : 0 ≤ (j : Int) + 1 := by omega
          have hw3 : ((j : Int) + 1).toNat = j + 1 := by omega
          go_region_with (go_at_call 30; refine (number_any K pk _ HLEN.out).mono ?_; rintro e w6 ⟨rfl, k6⟩; have KD : Kp wr w6 := (((Kp.refl wr).drew).trans k6); have cP6 := (KD.cells _ _ zP).trans cP; have FL6 := HFL.out.kp KD; have cI6 := FL6.cs j hj3; have fI6 := FL6.fro (j + 1); have HF6 := Lib.hid FL6; clear FL6 k6)
          all_goals
            have KD' := Lib.hid KD
            clear KD cP cH cL
            go_wp2
            go_roundw
            case rel =>
              refine ⟨j + 1, by omega, by go_num, (HF6.out.set hj3 _).ext (fun m hm => ?_), (HNA.out.kp KD'.out).far hIH _ _, (HPR.out.kp KD'.out).far hIP _ _, (HSX.out.kp KD'.out).far hAI _ _, (HKR.out.trans KD'.out).setCell hI _⟩
              by_cases e : m = j
              · subst e; rw [if_pos rfl, if_pos (by omega), HG.out]
              · rw [if_neg e]
                by_cases e2 : m < j
                · rw [if_pos e2, if_pos (by omega)]
                · rw [if_neg e2, if_neg (by omega)]
            case measure => simp [intOf]; omega
        · have bx := (FL.ext (HST.out j (by omega))).box
          have HBX := Lib.hid bx
          have HKR := Lib.hid kr
          obtain ⟨si, i0, i1, i2, i3, iu⟩ := bx
          have hex : j = 3 ∨ (j < 3 ∧ n ≤ j + 1) := by omega
          clear FL NA PR sx kr hg
          rcases hex with rfl | ⟨hj3, hjn⟩
          case' inr =>
            have e1 : (j : Int) < 3 := by omega
            have e2 : (n : Int) ≤ (j : Int) + 1 := by omega
            have e3 : decide ((j : Int) + 1 < (n : Int)) = false := by simp; omega
          all_goals
            go_wp2_with fail
            refine (rCheck_any _ op (f 0) (f 1) (f 2) ce HC.out).mono ?_
            rintro e w6 ⟨rfl, k6⟩
            have bx6 := HBX.out.kp k6
            have kr6 := HKR.out.trans k6
            have HB6 := Lib.hid bx6
            clear k6 i0 i1 i2 i3 iu si HBX HKR
            obtain ⟨sj, j0, j1, j2, j3, ju⟩ := bx6
            rcases hr with ⟨rfl, rfl, rfl, rfl, rfl, rfl, rfl⟩ | ⟨rfl | ⟨rfl, rfl⟩, rfl, rfl, rfl, rfl, rfl⟩
            · go_wp2_with fail
              refine (rText_any (HEa.out.kept kr6) _ _ _ _ HW.out t HT.out).mono ?_
              rintro e w7 ⟨rfl, k7⟩
              have bx7 := HB6.out.kp k7
              have bR7 := (bR.kp kr6).kp k7
              have kw := (kwa.trans kr6).trans k7
              clear k7 j0 j1 j2 j3 ju sj HB6
              obtain ⟨s7, l0', l1', l2', l3', lu⟩ := bx7
              obtain ⟨sr, r0, r1, r2, r3, ru⟩ := bR7
              go_wp2
              exact bodyPost_ret (v := .tuple #[.agg #[.int .i64 ro, .int .i64 (f 0), .int .i64 (f 1), .int .i64 (f 2)], .int .i64 0]) (by simp [results, Tryd.results17, go_sem, r0, r1, r2, r3]) rfl ⟨rfl, (((kw.setCell (Nat.le_refl _) _).setCell (Nat.le_refl _) _).setCell (Nat.le_refl _) _).setCell (Nat.le_refl _) _⟩
            · have bR6 := bR.kp kr6
              have kw := kwa.trans kr6
              clear HB6
              obtain ⟨sr, r0, r1, r2, r3, ru⟩ := bR6
              go_wp2
              exact bodyPost_ret (v := .tuple #[.agg #[.int .i64 0, .int .i64 0, .int .i64 0, .int .i64 0], .int .i64 11]) (by simp [results, Tryd.results17, go_sem, r0, r1, r2, r3]) rfl ⟨rfl, (((kw.setCell (Nat.le_refl _) _).setCell (Nat.le_refl _) _).setCell (Nat.le_refl _) _).setCell (Nat.le_refl _) _⟩
            · go_wp2_with fail
              refine (rText_any (HEa.out.kept kr6) _ _ _ _ HW.out t HT.out).mono ?_
              rintro e w7 ⟨rfl, k7⟩
              have bx7 := HB6.out.kp k7
              have bR7 := (bR.kp kr6).kp k7
              have kw := (kwa.trans kr6).trans k7
              clear k7 j0 j1 j2 j3 ju sj HB6
              obtain ⟨s7, l0', l1', l2', l3', lu⟩ := bx7
              obtain ⟨sr, r0, r1, r2, r3, ru⟩ := bR7
              go_wp2
              exact bodyPost_ret (v := .tuple #[.agg #[.int .i64 0, .int .i64 0, .int .i64 0, .int .i64 0], .int .i64 11]) (by simp [results, Tryd.results17, go_sem, r0, r1, r2, r3]) rfl ⟨rfl, (((kw.setCell (Nat.le_refl _) _).setCell (Nat.le_refl _) _).setCell (Nat.le_refl _) _).setCell (Nat.le_refl _) _⟩
theorem rParse_any {w : World} (hE : Env w) (s : List UInt8) (h : s.length ≤ 100) (i : In) (e : Int) (hi : prsI s = i) (he : prsE s = e) :
    Calls Tryd.prog 17 #[.string (bytesOf s)] w fun r w' => r = .returned (.tuple #[.agg #[.int .i64 i.op, .int .i64 i.a, .int .i64 i.b, .int .i64 i.c], .int .i64 e]) ∧ Kp w w' := by
  rw [← hi, ← he]
  unfold prsI prsE
  rw [prs_eq]
  have hop := opK_in ((spl s).getD 0 []) 24 (Nat.le_refl _)
  have hf := fun j => fR_bd (opK ((spl s).getD 0 []) 24) (spl s) j
  have f0 := hf 0
  have f1 := hf 1
  have f2 := hf 2
  have hW : Wf ⟨opK ((spl s).getD 0 []) 24, fR (opK ((spl s).getD 0 []) 24) (spl s) 0, fR (opK ((spl s).getD 0 []) 24) (spl s) 1, fR (opK ((spl s).getD 0 []) 24) (spl s) 2⟩ := by
    constructor <;> simp only <;> omega
  cases hc : chk (rdR s) with
  | false =>
    have e : prsR s = none := by unfold prsR; rw [if_neg (by simp [hc])]
    rw [e]
    exact rParse_core hE s h _ _ rfl (fun _ => rfl) hW _ rfl _ rfl _ rfl _ _ _ _ _ (.inr ⟨.inl (chkE_no hc), rfl, rfl, rfl, rfl, rfl⟩)
  | true =>
    by_cases ht : txt (rdR s) = s
    · have e : prsR s = some (rdR s) := by unfold prsR; rw [if_pos ⟨hc, ht⟩]
      rw [e]
      exact rParse_core hE s h _ _ rfl (fun _ => rfl) hW _ rfl _ rfl _ rfl _ _ _ _ _ (.inl ⟨chkE_yes hc, decide_eq_true ht, rfl, rfl, rfl, rfl, rfl⟩)
    · have e : prsR s = none := by unfold prsR; rw [if_neg (by simp [ht])]
      rw [e]
      exact rParse_core hE s h _ _ rfl (fun _ => rfl) hW _ rfl _ rfl _ rfl _ _ _ _ _ (.inr ⟨.inr ⟨chkE_yes hc, decide_eq_false ht⟩, rfl, rfl, rfl, rfl, rfl⟩)
end Co
end Go.Proofs.YtehmpakcfahmaaaDoor
