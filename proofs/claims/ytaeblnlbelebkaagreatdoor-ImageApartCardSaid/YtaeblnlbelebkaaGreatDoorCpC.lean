/-
  PLAIN FACTS and WALKS: the document's own answers of layer 3 (Check, Text, Parse), as the texts of stage 3 have them, but for what speaks of functions that are not here. Own work.
-/
import Derived.Test.YtaeblnlbelebkaaGreatDoorCpB
import Derived.ChangeAlike
import Derived.Deep.DeepCutAuto
import Derived.Deep.RegionHeld3
import Derived.Deep.RegionWith
import Derived.IntWalk
import Derived.Laws.AppendOwn
import Derived.Outline
import Derived.StillTailTactics
namespace Go.Proofs.YtaeblnlbelebkaaGreatDoor
namespace Co
open Go.RowKit Go
set_option linter.unusedVariables false

theorem rText_bad {w : World} (op x y z : Int) (hc : chkE ⟨op, x, y, z⟩ = 2) :
    Calls Tryz.prog 53 #[.agg #[.int .i64 op, .int .i64 x, .int .i64 y, .int .i64 z]] w fun r w' => r = .returned (.string (bytesOf [])) ∧ Kp w w' := by
  have H := Lib.hid hc
  clear hc
  go_enter Tryz.func53, Tryz.ntmps53
  go_wp2_with (go_at_call 61; refine (rCheck_any _ _ _ _ _ 2 H.out).mono ?_; rintro e w1 ⟨rfl, k1⟩)
  go_ret
  exact ⟨rfl, ((Kp.refl w).alloc _ _).trans k1⟩
theorem namesL_getD {op : Int} (h : 1 ≤ op ∧ op ≤ 24) : namesL.getD (op - 1).toNat [] = opL op := by
  have := namesL_at ⟨(op - 1).toNat, by omega⟩
  rw [List.getD_eq_getElem?_getD, this]
  simp only [Option.getD_some]
  rw [show (((op - 1).toNat : Nat) : Int) + 1 = op by omega]
theorem cat3 (u p : List UInt8) : bytesOf u ++ ⟨#[32]⟩ ++ bytesOf p = bytesOf (u ++ 32 :: p) := by
  have e : bytesOf u ++ ⟨#[32]⟩ = bytesOf (u ++ [32]) := bytesOf_append u [32]
  rw [e, bytesOf_append]
  simp
theorem sel3_kk {a b c : Int} (ha : 0 ≤ a ∧ a ≤ 8) (hb : 0 ≤ b ∧ b ≤ 8) (hc : 0 ≤ c ∧ c ≤ 8) : ∀ j, 0 ≤ sel3 a b c j ∧ sel3 a b c j ≤ 8
  | 0 => ha
  | 1 => hb
  | _ + 2 => hc
theorem rk_0 {k : Int} (h : k ≠ 0) (hk : 0 ≤ k ∧ k ≤ 8) : (rk k == 0) = false := by
  simp only [beq_eq_false_iff_ne, ne_eq]; unfold rk; split; omega; split; omega; split <;> omega
theorem rk_5 {k : Int} (h : k ≠ 5) (hk : 0 ≤ k ∧ k ≤ 8) : (rk k == 5) = false := by
  simp only [beq_eq_false_iff_ne, ne_eq]; unfold rk; split; omega; split; omega; split <;> omega
theorem rk_6 {k : Int} (h : k ≠ 6) (hk : 0 ≤ k ∧ k ≤ 8) : (rk k == 6) = false := by
  simp only [beq_eq_false_iff_ne, ne_eq]; unfold rk; split; omega; split; omega; split <;> omega
theorem rNames_b {w0 w : World} (hk : Kp w0 w) (B : Nat) (op x y z : Int) (b : Box w B op x y z) : Calls Tryz.prog 58 #[] w fun e w' => e = .returned (.slice (some ⟨w.heap.size, 0, none⟩) 24 24) ∧ Scs w' w.heap.size 0 namesL ∧ Box w' B op x y z ∧ Kp w0 w' :=
  (rNames_any w).mono fun _ _ ⟨h, s, k⟩ => ⟨h, s, b.kp k, hk.trans k⟩
set_option maxHeartbeats 4000000 in
set_option maxRecDepth 100000 in
theorem rText_good {w : World} (hE : Pw w) (op x y z : Int) (hi : Wf ⟨op, x, y, z⟩) (nm : List UInt8) (a b c tk gv : Int) (jm sp : Bool) (h : rowAt op = ⟨nm, a, b, c, tk, gv, jm, sp⟩) (hop : 1 ≤ op ∧ op ≤ 24) (hc : chkE ⟨op, x, y, z⟩ = 0) (s : List UInt8) (hs : upTo (opL op) (sel3 a b c) (sel3 x y z) 3 = s) :
    Calls Tryz.prog 53 #[.agg #[.int .i64 op, .int .i64 x, .int .i64 y, .int .i64 z]] w fun r w' => r = .returned (.string (bytesOf s)) ∧ Kp w w' := by
  have H := Lib.hid hc
  have HI := Lib.hid hi
  have HR := Lib.hid h
  have HS := Lib.hid hs
  have hf := sel3_bd hi.a hi.b hi.c
  have HB := Lib.hid (fun k (hk : k ≤ 3) => upTo_bd (kf := sel3 a b c) (opL_bd op) hf k hk)
  have HF := Lib.hid hf
  clear hc hi h hs hf
  go_enter Tryz.func53, Tryz.ntmps53
  go_wp2_with fail
  refine (rCheck_any _ op x y z 0 H.out).mono ?_
  rintro e w1 ⟨rfl, k1⟩
  have K1 := ((Kp.refl w).alloc _ _).trans k1
  have b1 := (Box.new w op x y z).kp k1
  clear k1
  have HB1 := Lib.hid b1
  obtain ⟨si, i0, i1, i2, i3, iu⟩ := b1
  go_wp2_with fail
  have hw1 : IntKind.i64.wrap (op - 1) = op - 1 := IntWalk.i64_in _ (by omega)
  have hw2 : 0 ≤ op - 1 := by omega
  have hw3 : op - 1 < 24 := by omega
  have hw4 : (op - 1).toNat < 24 := by omega
  have HG := Lib.hid (namesL_getD hop)
  go_region_with (go_at_call 58; refine (rNames_any _).mono ?_; rintro e w2 ⟨rfl, s2, k2⟩; have g : w2.cell? ⟨w1.heap.size, (op - 1).toNat, none⟩ = some (.string (bytesOf (opL op))) := (by have := s2.at' (op - 1).toNat hw4; rw [HG.out, Nat.zero_add] at this; exact this); have g' : w2.cell? ⟨w1.heap.size, op.toNat - 1, none⟩ = some (.string (bytesOf (opL op))) := (by rw [show op.toNat - 1 = (op - 1).toNat by omega]; exact g); have bx := (HB1.out.kp ((Kp.refl w1).drew)).kp k2; have K2 := (K1.drew).trans k2; clear s2; obtain ⟨si2, i02, i12, i22, i32, iu2⟩ := bx)
  all_goals
    clear iu2
    go_wp2_with fail
    refine (has_any _ op nm a b c tk gv jm sp HR.out).mono ?_
    rintro e w3 ⟨rfl, k3⟩
    have K3 := K2.trans k3
    have c3 := k3.cells
    have z3 : w.heap.size < w3.heap.size := Nat.lt_of_lt_of_le si2 k3.size
    have g3 : w3.cell? ⟨w.heap.size, 1, none⟩ = some (.int .i64 x) := (k3.cells _ _ si2).trans i12
    have g4 : w3.cell? ⟨w.heap.size, 2, none⟩ = some (.int .i64 y) := (k3.cells _ _ si2).trans i22
    have g5 : w3.cell? ⟨w.heap.size, 3, none⟩ = some (.int .i64 z) := (k3.cells _ _ si2).trans i32
    clear c3 k3 g g' i02 i12 i22 i32 i0 i1 i2 i3 iu si HB1
    have KB := (K3.alloc #[.int .i64 (rk a), .int .i64 (rk b), .int .i64 (rk c)] 95).alloc #[.int .i64 x, .int .i64 y, .int .i64 z] 95
    have NA := Lib.hid ((tri_new w3 (rk a) (rk b) (rk c)).kp ((Kp.refl _).alloc #[.int .i64 x, .int .i64 y, .int .i64 z] 95))
    have NB : Hid (Nums ((w3.alloc (.cells #[.int .i64 (rk a), .int .i64 (rk b), .int .i64 (rk c)] 95)).alloc (.cells #[.int .i64 x, .int .i64 y, .int .i64 z] 95)) (w3.heap.size + 1) (sel3 x y z)) := Lib.hid (by
      have := tri_new (w3.alloc (.cells #[.int .i64 (rk a), .int .i64 (rk b), .int .i64 (rk c)] 95)) x y z
      simpa using this)
    have KK := kinds_in op
    rw [HR.out] at KK
    simp only at KK
    have HKK := Lib.hid (sel3_kk (a := a) (b := b) (c := c) ⟨KK.1.1, KK.1.2⟩ ⟨KK.2.1.1, KK.2.1.2⟩ ⟨KK.2.2.1.1, KK.2.2.1.2⟩)
    clear KK
    go_wp2
    generalize hwb : (w3.alloc (.cells #[.int .i64 (rk a), .int .i64 (rk b), .int .i64 (rk c)] 95)).alloc (.cells #[.int .i64 x, .int .i64 y, .int .i64 z] 95) = wb at *
    clear hwb g3 g4 g5
    go_loopw [3, 6] (fun t i' wr => ∃ k : Nat, k ≤ 3 ∧ i' = .int .i64 k ∧ t = .string (bytesOf (upTo (opL op) (sel3 a b c) (sel3 x y z) k)) ∧ Kp wb wr) (fun _ i' _ => 3 - (intOf i').toNat)
    case atStart => exact ⟨0, by omega, rfl, rfl, Kp.refl _⟩
    case round =>
      obtain ⟨k, hk, rfl, rfl, kr⟩ := hrel
      by_cases hlt : k < 3
      · have hca : wr.cell? ⟨w3.heap.size, k, none⟩ = some (.int .i64 (rk (sel3 a b c k))) := by
          have := (NA.out.kp kr).cell k hlt
          rw [this]
          obtain rfl | rfl | rfl : k = 0 ∨ k = 1 ∨ k = 2 := by omega
          all_goals rfl
        have hcb : wr.cell? ⟨w3.heap.size + 1, k, none⟩ = some (.int .i64 (sel3 x y z k)) := (NB.out.kp kr).cell k hlt
        have hnb := HF.out k
        have hub := HB.out k hk
        have hpb := part_bd (k := sel3 a b c k) hnb.1 hnb.2
        have hkk := HKK.out k
        have kq := KB.trans kr
        have E1 : upTo (opL op) (sel3 a b c) (sel3 x y z) (k + 1) = upTo (opL op) (sel3 a b c) (sel3 x y z) k ++ part (sel3 a b c k) (sel3 x y z k) := rfl
        by_cases h0 : sel3 a b c k = 0
        · have q0 : (rk (sel3 a b c k) == 0) = true := by rw [h0]; rfl
          have e : part (sel3 a b c k) (sel3 x y z k) = [] := by unfold part; rw [if_pos h0]
          rw [e, List.append_nil] at E1
          clear e h0 hpb hkk
          generalize hU : upTo (opL op) (sel3 a b c) (sel3 x y z) k = U at *
          generalize hV : upTo (opL op) (sel3 a b c) (sel3 x y z) (k + 1) = V at *
          generalize sel3 a b c k = K at *
          generalize sel3 x y z k = N at *
          have HE1 := Lib.hid E1
          have HV := Lib.hid hV
          clear E1 hU hV
          go_wp2
          go_roundw
          case rel => exact ⟨k + 1, by omega, by go_num, by rw [HV.out, HE1.out], kr⟩
          case measure => simp [intOf]; omega
        by_cases h5 : sel3 a b c k = 5
        · have hp : prt (sel3 a b c k) (sel3 x y z k) = signL (sel3 x y z k) := by rw [h5]; rfl
          have e : part (sel3 a b c k) (sel3 x y z k) = 32 :: prt (sel3 a b c k) (sel3 x y z k) := by unfold part; rw [if_neg h0]
          rw [e, hp] at E1
          rw [hp] at hpb
          have q0 : (rk (sel3 a b c k) == 0) = false := by rw [h5]; rfl
          have q5 : (rk (sel3 a b c k) == 5) = true := by rw [h5]; rfl
          have q6 : (rk (sel3 a b c k) == 6) = false := by rw [h5]; rfl
          clear h5
          clear e h0 hp
          generalize hU : upTo (opL op) (sel3 a b c) (sel3 x y z) k = U at *
          generalize hV : upTo (opL op) (sel3 a b c) (sel3 x y z) (k + 1) = V at *
          generalize sel3 a b c k = K at *
          generalize sel3 x y z k = N at *
          have es : (bytesOf U).size ≤ 100 := by rw [bytesOf_size]; omega
          have ep : (bytesOf (signL N)).size ≤ 100 := by rw [bytesOf_size]; omega
          have HE1 := Lib.hid E1
          have HV := Lib.hid hV
          clear E1 hU hV
          go_wp2_with (go_at_call 94; refine (rSign_any _ _).mono ?_; rintro e w5 ⟨rfl, k5⟩)
          go_roundw
          case rel => exact ⟨k + 1, by omega, by go_num, by rw [HV.out, HE1.out, cat3], kr.trans k5⟩
          case measure => simp [intOf]; omega
        by_cases h6 : sel3 a b c k = 6
        · have hp : prt (sel3 a b c k) (sel3 x y z k) = nameL (sel3 x y z k) := by rw [h6]; rfl
          have e : part (sel3 a b c k) (sel3 x y z k) = 32 :: prt (sel3 a b c k) (sel3 x y z k) := by unfold part; rw [if_neg h0]
          rw [e, hp] at E1
          rw [hp] at hpb
          have q0 : (rk (sel3 a b c k) == 0) = false := by rw [h6]; rfl
          have q5 : (rk (sel3 a b c k) == 5) = false := by rw [h6]; rfl
          have q6 : (rk (sel3 a b c k) == 6) = true := by rw [h6]; rfl
          clear h5 h6
          clear e h0 hp
          generalize hU : upTo (opL op) (sel3 a b c) (sel3 x y z) k = U at *
          generalize hV : upTo (opL op) (sel3 a b c) (sel3 x y z) (k + 1) = V at *
          generalize sel3 a b c k = K at *
          generalize sel3 x y z k = N at *
          have es : (bytesOf U).size ≤ 100 := by rw [bytesOf_size]; omega
          have ep : (bytesOf (nameL N)).size ≤ 100 := by rw [bytesOf_size]; omega
          have HE1 := Lib.hid E1
          have HV := Lib.hid hV
          clear E1 hU hV
          go_wp2_with (go_at_call 95; refine (rName_any _ _).mono ?_; rintro e w5 ⟨rfl, k5⟩)
          go_roundw
          case rel => exact ⟨k + 1, by omega, by go_num, by rw [HV.out, HE1.out, cat3], kr.trans k5⟩
          case measure => simp [intOf]; omega
        · have hp : prt (sel3 a b c k) (sel3 x y z k) = Lib.itoa (sel3 x y z k) := by unfold prt; rw [if_neg h5, if_neg h6]
          have e : part (sel3 a b c k) (sel3 x y z k) = 32 :: prt (sel3 a b c k) (sel3 x y z k) := by unfold part; rw [if_neg h0]
          rw [e, hp] at E1
          rw [hp] at hpb
          have q0 : (rk (sel3 a b c k) == 0) = false := rk_0 h0 hkk
          have q5 : (rk (sel3 a b c k) == 5) = false := rk_5 h5 hkk
          have q6 : (rk (sel3 a b c k) == 6) = false := rk_6 h6 hkk
          clear h5 h6
          clear e h0 hp
          generalize hU : upTo (opL op) (sel3 a b c) (sel3 x y z) k = U at *
          generalize hV : upTo (opL op) (sel3 a b c) (sel3 x y z) (k + 1) = V at *
          generalize sel3 a b c k = K at *
          generalize sel3 x y z k = N at *
          have es : (bytesOf U).size ≤ 100 := by rw [bytesOf_size]; omega
          have ep : (bytesOf (Lib.itoa N)).size ≤ 100 := by rw [bytesOf_size]; omega
          have HE1 := Lib.hid E1
          have HV := Lib.hid hV
          clear E1 hU hV
          go_wp2_with (go_at_call 96; refine (Itoa_any (hE.kept kq) _ hnb.1 hnb.2).mono ?_; rintro e w5 ⟨rfl, k5⟩)
          go_roundw
          case rel => exact ⟨k + 1, by omega, by go_num, by rw [HV.out, HE1.out, cat3], kr.trans k5⟩
          case measure => simp [intOf]; omega
      · obtain rfl : k = 3 := by omega
        go_wp2
        go_ret
        exact ⟨ret_str (by rw [HS.out]), KB.trans kr⟩
theorem rText_any {w : World} (hE : Pw w) (op x y z : Int) (hi : Wf ⟨op, x, y, z⟩) (t : List UInt8) (ht : txt ⟨op, x, y, z⟩ = t) :
    Calls Tryz.prog 53 #[.agg #[.int .i64 op, .int .i64 x, .int .i64 y, .int .i64 z]] w fun r w' => r = .returned (.string (bytesOf t)) ∧ Kp w w' := by
  rw [← ht]
  cases hc : chk ⟨op, x, y, z⟩ with
  | false => rw [txt_no hc]; exact rText_bad op x y z (chkE_no hc)
  | true =>
    rw [txt_upTo hc]
    generalize hr : rowAt op = r
    obtain ⟨nm, a, b, c, tk, gv, jm, sp⟩ := r
    have hop := (chk_parts hc).1
    simp only at hop
    exact rText_good hE op x y z hi nm a b c tk gv jm sp hr hop (chkE_yes hc) _ rfl
/-- Decimal digits, read from the left; -1: another byte. -/
def digF : List UInt8 → Int → Int
  | [], acc => acc
  | c :: r, acc => if c.toNat < 48 ∨ 57 < c.toNat then -1 else digF r (10 * acc + c.toNat - 48)
def numD (t : List UInt8) : Int := if t = [] ∨ 12 < t.length ∨ (1 < t.length ∧ t.getD 0 0 = 48) then -1 else digF t 0
/-- The number that a piece stands for, by the reference's kinds. -/
def numR (k : Int) (t : List UInt8) : Int := if k = 5 then fndFrom signL t 19 1 else if k = 6 then fndFrom nameL t 19 1 else numD t

theorem dig_snoc (d : UInt8) : ∀ (l : List UInt8) (acc : Int), (∀ b ∈ l, ¬ (b.toNat < 48 ∨ 57 < b.toNat)) → digF (l ++ [d]) acc = digF [d] (digF l acc)
  | [], acc, _ => rfl
  | c :: r, acc, h => by
    have hc := h c List.mem_cons_self
    rw [List.cons_append]
    show (if _ then _ else _) = digF [d] (if _ then _ else _)
    rw [if_neg hc, if_neg hc]
    exact dig_snoc d r _ (fun b hb => h b (List.mem_cons_of_mem _ hb))
theorem dec_digits : ∀ (u : Nat), ∀ b ∈ Lib.decDigits u, ¬ (b.toNat < 48 ∨ 57 < b.toNat) := by
  intro u
  induction u using Nat.strongRecOn with
  | _ u ih =>
    intro b hb
    rw [Lib.decDigits] at hb
    split at hb
    · simp at hb; subst hb; simp; omega
    · rw [List.mem_append] at hb
      rcases hb with hb | hb
      · exact ih _ (by omega) b hb
      · simp at hb; subst hb; simp; omega
theorem dig_dec : ∀ (u : Nat), digF (Lib.decDigits u) 0 = u := by
  intro u
  induction u using Nat.strongRecOn with
  | _ u ih =>
    rw [Lib.decDigits]
    split
    · rename_i h
      have e : (UInt8.ofNat (48 + u)).toNat = 48 + u := by simp; omega
      show (if _ then _ else _) = _
      rw [e, if_neg (by omega)]
      show 10 * (0 : Int) + _ - 48 = _
      omega
    · rename_i h
      have e : (UInt8.ofNat (48 + u % 10)).toNat = 48 + u % 10 := by simp; omega
      rw [dig_snoc _ _ _ (dec_digits _), ih (u / 10) (by omega)]
      show (if _ then _ else _) = _
      rw [e, if_neg (by omega)]
      show 10 * _ + _ - 48 = _
      omega
theorem dec_head : ∀ (u : Nat), 1 ≤ u → (Lib.decDigits u).getD 0 0 ≠ 48 := by
  intro u
  induction u using Nat.strongRecOn with
  | _ u ih =>
    intro hu
    rw [Lib.decDigits]
    split
    · rename_i h
      intro e
      have := congrArg UInt8.toNat e
      simp at this
      omega
    · rename_i h
      have hne := dec_ne (u / 10)
      have := ih (u / 10) (by omega) (by omega)
      rw [List.getD_eq_getElem?_getD, List.getElem?_append_left (by cases hd : Lib.decDigits (u / 10) with | nil => exact absurd hd hne | cons _ _ => simp), ← List.getD_eq_getElem?_getD]
      exact this
theorem dec_one {u : Nat} (h : 1 < (Lib.decDigits u).length) : 1 ≤ u := by
  by_cases hu : u = 0
  · subst hu; rw [Lib.decDigits_one (by decide)] at h; simp at h
  · omega
theorem numD_itoa {n : Int} (h0 : 0 ≤ n) (h1 : n ≤ 4294967295) : numD (Lib.itoa n) = n := by
  have e : Lib.itoa n = Lib.decDigits n.toNat := by unfold Lib.itoa; rw [if_neg (by omega)]
  have hl := itoa_len (n := n) (m := 9) h0 (by omega)
  unfold numD
  rw [if_neg]
  · rw [e, dig_dec]; omega
  · rintro (h | h | ⟨h, h'⟩)
    · rw [e] at h; exact dec_ne _ h
    · omega
    · rw [e] at h h'
      exact dec_head _ (dec_one h) h'
theorem num_sign : ∀ n : Fin 20, 1 ≤ n.val → fndFrom signL (signL n.val) 19 1 = n.val := by decide +kernel
theorem num_name : ∀ n : Fin 4, 1 ≤ n.val → fndFrom nameL (nameL n.val) 19 1 = n.val := by decide +kernel

theorem numR_bd (k : Int) (t : List UInt8) : -1 ≤ fndFrom signL t 19 1 ∧ fndFrom signL t 19 1 ≤ 20 ∧ -1 ≤ fndFrom nameL t 19 1 ∧ fndFrom nameL t 19 1 ≤ 20 := by
  have a := fndFrom_bd signL t 19 1 (by omega)
  have b := fndFrom_bd nameL t 19 1 (by omega)
  omega

set_option maxHeartbeats 2000000 in
set_option maxRecDepth 100000 in
theorem number_sign (t : List UInt8) (w : World) :
    Calls Tryz.prog 60 #[.int .i64 5, .string (bytesOf t)] w fun e w' => e = .returned (.int .i64 (fndFrom signL t 19 1)) ∧ Kp w w' := by
  go_enter Tryz.func60, Tryz.ntmps60
  go_wp2
  go_loopw [5] (fun i wr => ∃ (n : Int) (m : Nat), i = .int .i64 n ∧ 1 ≤ n ∧ n + m = 20 ∧ fndFrom signL t 19 1 = fndFrom signL t m n ∧ Kp w wr) (fun i _ => (20 - intOf i).toNat)
  case atStart => exact ⟨1, 19, rfl, by omega, by omega, rfl, Kp.refl _⟩
  case round =>
    obtain ⟨n, m, rfl, h1, hm, hf, kr⟩ := hrel
    have HF := Lib.hid hf
    clear hf
    by_cases hlt : n < 20
    · obtain ⟨m', rfl⟩ : ∃ m', m = m' + 1 := ⟨m - 1, by omega⟩
      have hb := beq_bytes (signL n) t
      by_cases hc : signL n = t
      · have b : ((bytesOf (signL n)).toList == (bytesOf t).toList) = true := by rw [hb]; simp [hc]
        have HC := Lib.hid hc
        clear hb hc
        go_wp2_with (go_at_call 94; refine (rSign_any _ _).mono ?_; rintro e w1 ⟨rfl, k1⟩; have kr := kr.trans k1)
        go_ret
        exact ⟨ret_int (by rw [HF.out, fndFrom_stop _ HC.out]), kr⟩
      · have b : ((bytesOf (signL n)).toList == (bytesOf t).toList) = false := by rw [hb]; simp [hc]
        have HC := Lib.hid hc
        clear hb hc
        go_wp2_with (go_at_call 94; refine (rSign_any _ _).mono ?_; rintro e w1 ⟨rfl, k1⟩; have kr := kr.trans k1)
        go_roundw
        case rel => exact ⟨n + 1, m', by go_num, by omega, by omega, by rw [HF.out, fndFrom_next _ HC.out], kr⟩
        case measure => simp [intOf]; omega
    · obtain rfl : n = 20 := by omega
      obtain rfl : m = 0 := by omega
      cases hbe : (bytesOf t).toList.isEmpty
      all_goals
        go_wp2
        go_ret
        exact ⟨ret_int (by rw [HF.out]; rfl), kr⟩

set_option maxHeartbeats 2000000 in
set_option maxRecDepth 100000 in
theorem number_name (t : List UInt8) (w : World) :
    Calls Tryz.prog 60 #[.int .i64 6, .string (bytesOf t)] w fun e w' => e = .returned (.int .i64 (fndFrom nameL t 19 1)) ∧ Kp w w' := by
  go_enter Tryz.func60, Tryz.ntmps60
  go_wp2
  go_loopw [5] (fun i wr => ∃ (n : Int) (m : Nat), i = .int .i64 n ∧ 1 ≤ n ∧ n + m = 20 ∧ fndFrom nameL t 19 1 = fndFrom nameL t m n ∧ Kp w wr) (fun i _ => (20 - intOf i).toNat)
  case atStart => exact ⟨1, 19, rfl, by omega, by omega, rfl, Kp.refl _⟩
  case round =>
    obtain ⟨n, m, rfl, h1, hm, hf, kr⟩ := hrel
    have HF := Lib.hid hf
    clear hf
    by_cases hlt : n < 20
    · obtain ⟨m', rfl⟩ : ∃ m', m = m' + 1 := ⟨m - 1, by omega⟩
      have hb := beq_bytes (nameL n) t
      by_cases hc : nameL n = t
      · have b : ((bytesOf (nameL n)).toList == (bytesOf t).toList) = true := by rw [hb]; simp [hc]
        have HC := Lib.hid hc
        clear hb hc
        go_wp2_with (go_at_call 95; refine (rName_any _ _).mono ?_; rintro e w1 ⟨rfl, k1⟩; have kr := kr.trans k1)
        go_ret
        exact ⟨ret_int (by rw [HF.out, fndFrom_stop _ HC.out]), kr⟩
      · have b : ((bytesOf (nameL n)).toList == (bytesOf t).toList) = false := by rw [hb]; simp [hc]
        have HC := Lib.hid hc
        clear hb hc
        go_wp2_with (go_at_call 95; refine (rName_any _ _).mono ?_; rintro e w1 ⟨rfl, k1⟩; have kr := kr.trans k1)
        go_roundw
        case rel => exact ⟨n + 1, m', by go_num, by omega, by omega, by rw [HF.out, fndFrom_next _ HC.out], kr⟩
        case measure => simp [intOf]; omega
    · obtain rfl : n = 20 := by omega
      obtain rfl : m = 0 := by omega
      cases hbe : (bytesOf t).toList.isEmpty
      all_goals
        go_wp2
        go_ret
        exact ⟨ret_int (by rw [HF.out]; rfl), kr⟩

theorem dig_neg_stop {c : UInt8} {r : List UInt8} {acc : Int} (h : c.toNat < 48 ∨ 57 < c.toNat) : digF (c :: r) acc = -1 := by
  show (if _ then _ else _) = _
  rw [if_pos h]
theorem dig_next {c : UInt8} {r : List UInt8} {acc : Int} (h : ¬ (c.toNat < 48 ∨ 57 < c.toNat)) : digF (c :: r) acc = digF r (10 * acc + c.toNat - 48) := by
  show (if _ then _ else _) = _
  rw [if_neg h]
theorem drop_get (s : ByteArray) (k : Nat) (h : k < s.size) : s.data.toList.drop k = s[k] :: s.data.toList.drop (k + 1) := by
  rw [List.drop_eq_getElem_cons (by simpa using h)]; rfl

set_option maxHeartbeats 2000000 in
set_option maxRecDepth 100000 in
/-- The digits' loop and what stands before it, for a kind that is neither operator. -/
theorem number_num (k : Int) (t : List UInt8) (w : World) (h5 : (k == 5) = false) (h6 : (k == 6) = false) (ht : t.length ≤ 1000) :
    Calls Tryz.prog 60 #[.int .i64 k, .string (bytesOf t)] w fun e w' => e = .returned (.int .i64 (numD t)) ∧ Kp w w' := by
  have hsz : (bytesOf t).size = t.length := bytesOf_size t
  have HSZ := Lib.hid hsz
  have hs1 : (bytesOf t).size ≤ 1000 := by omega
  clear hsz
  go_enter Tryz.func60, Tryz.ntmps60
  go_wp2
  go_loop [5] (fun i => ∃ n : Int, i = .int .i64 n ∧ 1 ≤ n ∧ n ≤ 20) (fun i => (20 - intOf i).toNat)
  case atStart => exact ⟨1, rfl, by omega, by omega⟩
  case round =>
    obtain ⟨n, rfl, h1, h2⟩ := hrel
    by_cases hlt : n < 20
    · go_wp2
      go_round
      case rel => exact ⟨n + 1, by go_num, by omega, by omega⟩
      case measure => simp [intOf]; omega
    · obtain rfl : n = 20 := by omega
      by_cases h0 : t = []
      · subst h0
        have be : (bytesOf []).toList.isEmpty = true := isEmpty_yes rfl
        go_wp2
        go_ret
        exact ⟨rfl, Kp.refl _⟩
      have be := isEmpty_no h0
      by_cases h12 : 12 < t.length
      · have hz : (12 : Int) < ((bytesOf t).size : Int) := by rw [HSZ.out]; omega
        have e : numD t = -1 := by unfold numD; rw [if_pos (.inr (.inl h12))]
        have E := Lib.hid e
        clear e h0 h12
        go_wp2
        go_ret
        exact ⟨ret_int (by rw [E.out]), Kp.refl _⟩
      have hz : ((bytesOf t).size : Int) ≤ 12 := by rw [HSZ.out]; omega
      have hpos : 0 < (bytesOf t).size := by
        rw [HSZ.out]
        cases t with
        | nil => exact absurd rfl h0
        | cons _ _ => simp
      have hg0 : t.getD 0 0 = (bytesOf t)[0] := by
        have : t[0]? = some ((bytesOf t)[0]) := by
          rw [List.getElem?_eq_getElem (by rw [← HSZ.out]; exact hpos)]; rfl
        rw [List.getD_eq_getElem?_getD, this]; rfl
      by_cases hlead : 1 < t.length ∧ t.getD 0 0 = 48
      · have hz1 : (1 : Int) < ((bytesOf t).size : Int) := by rw [HSZ.out]; omega
        have hb0 : (((bytesOf t)[0].toNat : Int) == 48) = true := by rw [← hg0, hlead.2]; decide
        have e : numD t = -1 := by unfold numD; rw [if_pos (.inr (.inr hlead))]
        have E := Lib.hid e
        clear e h0 h12 hlead hg0
        go_wp2
        go_ret
        exact ⟨ret_int (by rw [E.out]), Kp.refl _⟩
      have e : numD t = digF t 0 := by
        unfold numD
        rw [if_neg]
        rintro (h | h | h)
        · exact h0 h
        · exact h12 h
        · exact hlead h
      have E := Lib.hid e
      clear e
      by_cases hone : t.length ≤ 1
      · have hz1 : ((bytesOf t).size : Int) ≤ 1 := by rw [HSZ.out]; omega
        clear hlead hg0 h0 h12 hone
        go_wp2
        go_loop [6, 7] (fun acc i => ∃ (j a : Nat), j ≤ (bytesOf t).size ∧ i = .int .i64 j ∧ acc = .int .i64 a ∧ a < 10 ^ j ∧ digF t 0 = digF (t.drop j) a) (fun _ i => (bytesOf t).size - (intOf i).toNat)
        case atStart => exact ⟨0, 0, by omega, rfl, rfl, by decide, rfl⟩
        case round =>
          obtain ⟨j, a, hj, rfl, rfl, ha, hd⟩ := hrel
          by_cases hlt : j < (bytesOf t).size
          · have hp : (10 : Nat) ^ j ≤ 10 ^ 11 := Nat.pow_le_pow_right (by decide) (by omega)
            have hp2 : (10 : Nat) ^ 11 = 100000000000 := by decide
            have hps : (10 : Nat) ^ (j + 1) = 10 * 10 ^ j := by rw [Nat.pow_succ, Nat.mul_comm]
            have ha2 : a < 100000000000 := by omega
            have hdr : t.drop j = (bytesOf t)[j] :: t.drop (j + 1) := drop_get (bytesOf t) j hlt
            rw [hdr] at hd
            have HPS := Lib.hid hps
            have HA := Lib.hid ha
            clear hdr hp hp2 hps ha
            have hc255 := (bytesOf t)[j].toNat_lt
            by_cases hlo : (bytesOf t)[j].toNat < 48
            · have hd2 := hd.trans (dig_neg_stop (.inl hlo))
              have HD := Lib.hid hd2
              have hlz : ((bytesOf t)[j].toNat : Int) < 48 := by omega
              clear hd hd2 hlo
              go_wp2
              go_ret
              exact ⟨ret_int (by rw [E.out, HD.out]), Kp.refl _⟩
            · by_cases hhi : 57 < (bytesOf t)[j].toNat
              · have hd2 := hd.trans (dig_neg_stop (.inr hhi))
                have HD := Lib.hid hd2
                have hlz : (48 : Int) ≤ ((bytesOf t)[j].toNat : Int) := by omega
                have hhz : (57 : Int) < ((bytesOf t)[j].toNat : Int) := by omega
                clear hd hd2 hlo hhi
                go_wp2
                go_ret
                exact ⟨ret_int (by rw [E.out, HD.out]), Kp.refl _⟩
              · have hd2 := hd.trans (dig_next (by omega))
                have HD := Lib.hid hd2
                have hlz : (48 : Int) ≤ ((bytesOf t)[j].toNat : Int) := by omega
                have hhz : ((bytesOf t)[j].toNat : Int) ≤ 57 := by omega
                clear hd hd2 hlo hhi
                generalize hcc : (bytesOf t)[j].toNat = cc at *
                go_wp2
                go_round
                case rel => exact ⟨j + 1, 10 * a + cc - 48, by omega, by go_num, by go_num, by have := HPS.out; have := HA.out; omega, by rw [HD.out]; congr 1; omega⟩
                case measure => simp [intOf]; omega
          · have hnil : t.drop j = [] := List.drop_eq_nil_of_le (by rw [← HSZ.out]; omega)
            rw [hnil] at hd
            have HD := Lib.hid hd
            have hjd : decide ((j : Int) < ((bytesOf t).size : Int)) = false := by simp; omega
            clear hnil hd
            go_wp2
            go_ret
            exact ⟨ret_int (by rw [E.out, HD.out]; rfl), Kp.refl _⟩
      · have hz1 : (1 : Int) < ((bytesOf t).size : Int) := by rw [HSZ.out]; omega
        have hb0 : (((bytesOf t)[0].toNat : Int) == 48) = false := by
          have h1 : (bytesOf t)[0].toNat ≠ 48 := fun h => hlead ⟨by omega, by rw [hg0]; exact UInt8.toNat_inj.1 h⟩
          simp only [beq_eq_false_iff_ne, ne_eq]; omega
        clear hlead hg0 h0 h12 hone
        go_wp2
        go_loop [6, 7] (fun acc i => ∃ (j a : Nat), j ≤ (bytesOf t).size ∧ i = .int .i64 j ∧ acc = .int .i64 a ∧ a < 10 ^ j ∧ digF t 0 = digF (t.drop j) a) (fun _ i => (bytesOf t).size - (intOf i).toNat)
        case atStart => exact ⟨0, 0, by omega, rfl, rfl, by decide, rfl⟩
        case round =>
          obtain ⟨j, a, hj, rfl, rfl, ha, hd⟩ := hrel
          by_cases hlt : j < (bytesOf t).size
          · have hp : (10 : Nat) ^ j ≤ 10 ^ 11 := Nat.pow_le_pow_right (by decide) (by omega)
            have hp2 : (10 : Nat) ^ 11 = 100000000000 := by decide
            have hps : (10 : Nat) ^ (j + 1) = 10 * 10 ^ j := by rw [Nat.pow_succ, Nat.mul_comm]
            have ha2 : a < 100000000000 := by omega
            have hdr : t.drop j = (bytesOf t)[j] :: t.drop (j + 1) := drop_get (bytesOf t) j hlt
            rw [hdr] at hd
            have HPS := Lib.hid hps
            have HA := Lib.hid ha
            clear hdr hp hp2 hps ha
            have hc255 := (bytesOf t)[j].toNat_lt
            by_cases hlo : (bytesOf t)[j].toNat < 48
            · have hd2 := hd.trans (dig_neg_stop (.inl hlo))
              have HD := Lib.hid hd2
              have hlz : ((bytesOf t)[j].toNat : Int) < 48 := by omega
              clear hd hd2 hlo
              go_wp2
              go_ret
              exact ⟨ret_int (by rw [E.out, HD.out]), Kp.refl _⟩
            · by_cases hhi : 57 < (bytesOf t)[j].toNat
              · have hd2 := hd.trans (dig_neg_stop (.inr hhi))
                have HD := Lib.hid hd2
                have hlz : (48 : Int) ≤ ((bytesOf t)[j].toNat : Int) := by omega
                have hhz : (57 : Int) < ((bytesOf t)[j].toNat : Int) := by omega
                clear hd hd2 hlo hhi
                go_wp2
                go_ret
                exact ⟨ret_int (by rw [E.out, HD.out]), Kp.refl _⟩
              · have hd2 := hd.trans (dig_next (by omega))
                have HD := Lib.hid hd2
                have hlz : (48 : Int) ≤ ((bytesOf t)[j].toNat : Int) := by omega
                have hhz : ((bytesOf t)[j].toNat : Int) ≤ 57 := by omega
                clear hd hd2 hlo hhi
                generalize hcc : (bytesOf t)[j].toNat = cc at *
                go_wp2
                go_round
                case rel => exact ⟨j + 1, 10 * a + cc - 48, by omega, by go_num, by go_num, by have := HPS.out; have := HA.out; omega, by rw [HD.out]; congr 1; omega⟩
                case measure => simp [intOf]; omega
          · have hnil : t.drop j = [] := List.drop_eq_nil_of_le (by rw [← HSZ.out]; omega)
            rw [hnil] at hd
            have HD := Lib.hid hd
            have hjd : decide ((j : Int) < ((bytesOf t).size : Int)) = false := by simp; omega
            clear hnil hd
            go_wp2
            go_ret
            exact ⟨ret_int (by rw [E.out, HD.out]; rfl), Kp.refl _⟩
theorem number_any (k : Int) (t : List UInt8) (w : World) (ht : t.length ≤ 1000) :
    Calls Tryz.prog 60 #[.int .i64 k, .string (bytesOf t)] w fun e w' => e = .returned (.int .i64 (numR k t)) ∧ Kp w w' := by
  unfold numR
  by_cases h5 : k = 5
  · subst h5; rw [if_pos rfl]; exact number_sign t w
  by_cases h6 : k = 6
  · subst h6; rw [if_neg (by decide), if_pos rfl]; exact number_name t w
  rw [if_neg h5, if_neg h6]
  exact number_num k t w (by simpa using h5) (by simpa using h6) ht
theorem digF_bd : ∀ (l : List UInt8) (acc : Int), 0 ≤ acc → -1 ≤ digF l acc ∧ digF l acc < (acc + 1) * 10 ^ l.length
  | [], acc, h => by simp [digF]; omega
  | c :: r, acc, h => by
    have hp : (0 : Int) < 10 ^ r.length := Int.pow_pos (by decide)
    have hp1 : (0 : Int) < 10 ^ (c :: r).length := Int.pow_pos (by decide)
    show -1 ≤ (if _ then _ else _) ∧ (if _ then _ else _) < _
    split
    · exact ⟨by omega, by have := Int.mul_pos (show 0 < acc + 1 by omega) hp1; omega⟩
    · rename_i hc
      have ih := digF_bd r (10 * acc + c.toNat - 48) (by omega)
      refine ⟨ih.1, Int.lt_of_lt_of_le ih.2 ?_⟩
      have e : (10 : Int) ^ (c :: r).length = 10 * 10 ^ r.length := by rw [List.length_cons, Int.pow_succ, Int.mul_comm]
      rw [e, ← Int.mul_assoc]
      exact Int.mul_le_mul_of_nonneg_right (by omega) (by omega)
theorem numD_bd (t : List UInt8) : -1 ≤ numD t ∧ numD t ≤ 1000000000000 := by
  unfold numD
  split
  · omega
  · rename_i h
    have b := digF_bd t 0 (by omega)
    have hl : t.length ≤ 12 := by
      by_cases h12 : 12 < t.length
      · exact absurd (.inr (.inl h12)) h
      · omega
    have hp : (10 : Nat) ^ t.length ≤ 10 ^ 12 := Nat.pow_le_pow_right (by decide) hl
    have hp2 : (10 : Nat) ^ 12 = 1000000000000 := by decide
    have e : (10 : Int) ^ t.length = ((10 ^ t.length : Nat) : Int) := by simp
    rw [e] at b
    omega
theorem numR_bds (k : Int) (t : List UInt8) : -1 ≤ numR k t ∧ numR k t ≤ 1000000000000 := by
  have a := numR_bd k t
  have b := numD_bd t
  unfold numR
  split
  · omega
  · split <;> omega
theorem fndFrom_sound (f : Int → List UInt8) (t : List UInt8) : ∀ (m : Nat) (n : Int), fndFrom f t m n = -1 ∨ (n ≤ fndFrom f t m n ∧ fndFrom f t m n < n + m ∧ f (fndFrom f t m n) = t)
  | 0, n => .inl rfl
  | m + 1, n => by
    by_cases h : f n = t
    · rw [fndFrom_stop m h]; exact .inr ⟨by omega, by omega, h⟩
    · rw [fndFrom_next m h]
      rcases fndFrom_sound f t m (n + 1) with e | ⟨a, b, c⟩
      · exact .inl e
      · exact .inr ⟨by omega, by omega, c⟩
theorem opOf_iff {k : Int} (h : 1 ≤ k ∧ k ≤ 24) (t : List UInt8) : opL k = t ↔ opOf t = k := by
  constructor
  · intro e; rw [← e]; exact opOf_op h
  · intro e
    rcases fndFrom_sound opL t 24 1 with e' | ⟨_, _, c⟩
    · have : opOf t = -1 := e'
      omega
    · have : opL (opOf t) = t := c
      rw [← e]; exact this
/-- The number of a name among the first k; 0: none. -/
def opK (t : List UInt8) (k : Nat) : Int := if 1 ≤ opOf t ∧ opOf t ≤ k then opOf t else 0
theorem opK_zero (t : List UInt8) : opK t 0 = 0 := by unfold opK; rw [if_neg (by omega)]
theorem opK_yes {t : List UInt8} {k : Nat} (hk : k < 24) (h : opL ((k : Int) + 1) = t) : opK t (k + 1) = (k : Int) + 1 := by
  have := (opOf_iff (k := (k : Int) + 1) (by omega) t).mp h
  unfold opK; rw [if_pos (by omega), this]
theorem opK_no {t : List UInt8} {k : Nat} (hk : k < 24) (h : opL ((k : Int) + 1) ≠ t) : opK t (k + 1) = opK t k := by
  have h1 : opOf t ≠ (k : Int) + 1 := fun e => h ((opOf_iff (k := (k : Int) + 1) (by omega) t).mpr e)
  unfold opK
  by_cases hc : 1 ≤ opOf t ∧ opOf t ≤ (k : Int)
  · rw [if_pos hc, if_pos (by omega)]
  · rw [if_neg hc, if_neg (by omega)]
theorem opK_in (t : List UInt8) (k : Nat) (hk : k ≤ 24) : 0 ≤ opK t k ∧ opK t k ≤ 24 := by unfold opK; split <;> omega

def kR (op : Int) (j : Nat) : Int := sel3 (rk (rowAt op).a) (rk (rowAt op).b) (rk (rowAt op).c) j
def fR (op : Int) (l : List (List UInt8)) (j : Nat) : Int := if j + 1 < l.length then numR (kR op j) (l.getD (j + 1) []) else 0
def rdR (s : List UInt8) : In := ⟨opK ((spl s).getD 0 []) 24, fR (opK ((spl s).getD 0 []) 24) (spl s) 0, fR (opK ((spl s).getD 0 []) 24) (spl s) 1, fR (opK ((spl s).getD 0 []) 24) (spl s) 2⟩
def prsR (s : List UInt8) : Option In := if chk (rdR s) = true ∧ txt (rdR s) = s then some (rdR s) else none

theorem fR_bd (op : Int) (l : List (List UInt8)) (j : Nat) : -1 ≤ fR op l j ∧ fR op l j ≤ 1000000000000 := by
  unfold fR
  split
  · exact numR_bds _ _
  · omega
theorem okp_fold : ∀ (t : List UInt8) (l : List (List UInt8)) (k : Nat), Okp l k → Okp (t.foldl stepP l) (k + t.length)
  | [], l, k, h => h
  | c :: r, l, k, h => by
    have := okp_fold r (stepP l c) (k + 1) (h.step c)
    rw [List.foldl_cons, List.length_cons, show k + (r.length + 1) = k + 1 + r.length by omega]
    exact this
theorem okp_spl (t : List UInt8) : Okp (spl t) t.length := by
  have := okp_fold t [[]] 0 Okp.start
  rwa [Nat.zero_add] at this
theorem spl_getD (t : List UInt8) (j : Nat) : ((spl t).getD j []).length ≤ t.length := by
  by_cases h : j < (spl t).length
  · rw [List.getD_eq_getElem?_getD, List.getElem?_eq_getElem h]
    exact (okp_spl t).each _ (List.getElem_mem h)
  · rw [List.getD_eq_getElem?_getD, List.getElem?_eq_none (by omega)]
    exact Nat.zero_le _

theorem spl_run (L : List (List UInt8)) : ∀ (x cur : List UInt8), (∀ b ∈ x, b ≠ 32) → x.foldl stepP (L ++ [cur]) = L ++ [cur ++ x]
  | [], cur, _ => by simp
  | b :: r, cur, h => by
    rw [List.foldl_cons, stepP_no (h b List.mem_cons_self)]
    have e1 : (L ++ [cur]).dropLast = L := by simp
    have e2 : (L ++ [cur]).getLastD [] = cur := by simp
    rw [e1, e2, spl_run L r (cur ++ [b]) (fun y hy => h y (List.mem_cons_of_mem _ hy))]
    simp
theorem spl_joinL : ∀ (ps L : List (List UInt8)), ps ≠ [] → (∀ p ∈ ps, ∀ b ∈ p, b ≠ 32) → (join ps).foldl stepP (L ++ [[]]) = L ++ ps
  | [], L, h, _ => absurd rfl h
  | [x], L, _, h => by
    rw [join, spl_run L x [] (h x List.mem_cons_self)]
    rfl
  | x :: y :: r, L, _, h => by
    rw [join, List.foldl_append, spl_run L x [] (h x List.mem_cons_self), List.foldl_cons, stepP_yes rfl, spl_joinL (y :: r) (L ++ [[] ++ x]) (by simp) (fun p hp => h p (List.mem_cons_of_mem _ hp))]
    simp
theorem spl_join {ps : List (List UInt8)} (h : ps ≠ []) (hc : ∀ p ∈ ps, clean p = true) : spl (join ps) = ps := by
  have := spl_joinL ps [] h (fun p hp b hb e => by
    have := clean_at (hc p hp) b hb
    rw [e] at this
    exact absurd this.1 (by decide))
  simpa [spl] using this
theorem rk56 {k : Int} (hk : 1 ≤ k ∧ k ≤ 8) : (rk k = 5 ↔ k = 5) ∧ (rk k = 6 ↔ k = 6) := by
  unfold rk; split; omega; split; omega; split <;> omega
theorem numR_prt {k n : Int} (hk : 1 ≤ k ∧ k ≤ 8) (h : alw k n = true) : numR (rk k) (prt k n) = n := by
  obtain ⟨a, b⟩ := hk
  have hk' : k = 1 ∨ k = 2 ∨ k = 3 ∨ k = 4 ∨ k = 5 ∨ k = 6 ∨ k = 7 ∨ k = 8 := by omega
  rcases hk' with rfl | rfl | rfl | rfl | rfl | rfl | rfl | rfl
  · rw [alw_1] at h; simp only [decide_eq_true_eq] at h; exact numD_itoa (by omega) (by omega)
  · rw [alw_2] at h; simp only [decide_eq_true_eq] at h; exact numD_itoa (by omega) (by omega)
  · rw [alw_3] at h; simp only [decide_eq_true_eq] at h; exact numD_itoa (by omega) (by omega)
  · rw [alw_4] at h; simp only [decide_eq_true_eq] at h; exact numD_itoa (by omega) (by omega)
  · rw [alw_5] at h; simp only [decide_eq_true_eq] at h
    have := num_sign ⟨n.toNat, by omega⟩ (by simp; omega)
    simpa [prt, numR, rk, Int.toNat_of_nonneg (show 0 ≤ n by omega)] using this
  · rw [alw_6] at h; simp only [decide_eq_true_eq] at h
    have := num_name ⟨n.toNat, by omega⟩ (by simp; omega)
    simpa [prt, numR, rk, Int.toNat_of_nonneg (show 0 ≤ n by omega)] using this
  · rw [alw_7] at h; simp only [decide_eq_true_eq] at h; exact numD_itoa (by omega) (by omega)
  · rw [alw_8] at h; simp only [decide_eq_true_eq] at h; exact numD_itoa (by omega) (by omega)
theorem opK_opL {op : Int} (h : 1 ≤ op ∧ op ≤ 24) : opK (opL op) 24 = op := by
  have := opOf_op h
  unfold opK; rw [this, if_pos (by omega)]
theorem rdR_shape {i : In} {ps : List (List UInt8)} (hop : 1 ≤ i.op ∧ i.op ≤ 24) (h : Shape i ps) (hs : spl (join ps) = ps) : rdR (join ps) = i := by
  obtain ⟨op, a, b, c⟩ := i
  have ho := opK_opL hop
  unfold rdR
  rw [hs]
  cases h with
  | none h1 h2 h3 ha hb hc =>
    simp only at h1 h2 h3 ha hb hc ho ⊢
    subst ha hb hc
    simp [ho, fR]
  | one h1 h2 h3 ha hb hc =>
    simp only at h1 h2 h3 ha hb hc ho ⊢
    subst hb hc
    simp [ho, fR, kR, sel3, numR_prt h1 ha]
  | two h1 h2 h3 ha hb hc =>
    simp only at h1 h2 h3 ha hb hc ho ⊢
    subst hc
    simp [ho, fR, kR, sel3, numR_prt h1 ha, numR_prt h2 hb]
  | three h1 h2 h3 ha hb hc =>
    simp only at h1 h2 h3 ha hb hc ho ⊢
    simp [ho, fR, kR, sel3, numR_prt h1 ha, numR_prt h2 hb, numR_prt h3 hc]
theorem shape_some {i : In} {ps : List (List UInt8)} (h : Shape i ps) : ps ≠ [] := by
  cases h <;> simp
theorem rdR_txt {i : In} (h : chk i = true) : rdR (txt i) = i := by
  obtain ⟨ps, hs, ht⟩ := shape_of h
  have hop := (chk_parts h).1
  rw [ht]
  exact rdR_shape hop hs (spl_join (shape_some hs) (shape_clean hop hs))
/-- The two ways of reading agree. -/
theorem prs_eq (s : List UInt8) : prs s = prsR s := by
  cases hp : prs s with
  | some i =>
    obtain ⟨hc, ht⟩ := prs_sound hp
    have e : rdR s = i := by rw [← ht]; exact rdR_txt hc
    unfold prsR
    rw [e, if_pos ⟨hc, ht⟩]
  | none =>
    unfold prsR
    by_cases h : chk (rdR s) = true ∧ txt (rdR s) = s
    · have := prs_txt h.1
      rw [h.2, hp] at this
      cases this
    · rw [if_neg h]
/-- An instruction's block, its three numbers by their place. -/
structure Fld (w : World) (B : Nat) (op : Int) (f : Nat → Int) : Prop where
  size : B < w.heap.size
  c0 : w.cell? ⟨B, 0, none⟩ = some (.int .i64 op)
  cs : ∀ j, j < 3 → w.cell? ⟨B, j + 1, none⟩ = some (.int .i64 (f j))
  fro : ∀ j, w.frozen? ⟨B, j, none⟩ = false
theorem Fld.kp {w w' : World} {B : Nat} {op : Int} {f : Nat → Int} (h : Fld w B op f) (k : Kp w w') : Fld w' B op f :=
  ⟨Nat.lt_of_lt_of_le h.size k.size, (k.cells _ _ h.size).trans h.c0, fun j hj => (k.cells _ _ h.size).trans (h.cs j hj), fun j => (k.fros _ _ h.size).trans (h.fro j)⟩
theorem Fld.of {w : World} {B : Nat} {op : Int} {f : Nat → Int} (h : Box w B op (f 0) (f 1) (f 2)) : Fld w B op f :=
  ⟨h.size, h.c0, fun j hj => by
    obtain rfl | rfl | rfl : j = 0 ∨ j = 1 ∨ j = 2 := by omega
    · exact h.c1
    · exact h.c2
    · exact h.c3, h.fro⟩
theorem Fld.box {w : World} {B : Nat} {op : Int} {f : Nat → Int} (h : Fld w B op f) : Box w B op (f 0) (f 1) (f 2) :=
  ⟨h.size, h.c0, h.cs 0 (by decide), h.cs 1 (by decide), h.cs 2 (by decide), h.fro⟩
theorem Fld.set {w : World} {B : Nat} {op : Int} {f : Nat → Int} (h : Fld w B op f) {i : Nat} (hi : i < 3) (v : Int) : Fld (w.setCell ⟨B, i + 1, none⟩ (.int .i64 v)) B op (fun j => if j = i then v else f j) where
  size := by simpa using h.size
  c0 := (World.cell?_setCell_other _ _ _ _ (fun e => by have := congrArg Addr.off e; simp at this)).trans h.c0
  cs := fun j hj => by
    by_cases e : j = i
    · subst e
      rw [if_pos rfl]
      exact World.cell?_setCell_same _ _ _ (h.cs j hj)
    · rw [if_neg e]
      exact (World.cell?_setCell_other _ _ _ _ (fun e' => e (by have := congrArg Addr.off e'; simp at this; omega))).trans (h.cs j hj)
  fro := fun j => by rw [World.frozen?_setCell]; exact h.fro j
theorem Fld.ext {w : World} {B : Nat} {op : Int} {f g : Nat → Int} (h : Fld w B op f) (e : ∀ j, j < 3 → f j = g j) : Fld w B op g :=
  ⟨h.size, h.c0, fun j hj => by rw [h.cs j hj, e j hj], h.fro⟩
/-- n values of some kind in a block that stands still. -/
structure Row3 (w : World) (B : Nat) (v : Nat → Value) : Prop where
  size : B < w.heap.size
  cs : ∀ j, j < 3 → w.cell? ⟨B, j, none⟩ = some (v j)
theorem Row3.kp {w w' : World} {B : Nat} {v : Nat → Value} (h : Row3 w B v) (k : Kp w w') : Row3 w' B v :=
  ⟨Nat.lt_of_lt_of_le h.size k.size, fun j hj => (k.cells _ _ h.size).trans (h.cs j hj)⟩

theorem Scs.far {w : World} {b off : Nat} {l : List (List UInt8)} (h : Scs w b off l) {B : Nat} (hB : B ≠ b) (o : Nat) (v : Value) : Scs (w.setCell ⟨B, o, none⟩ v) b off l :=
  ⟨by simpa using h.size, fun i hi => (World.cell?_setCell_other _ _ _ _ (fun e => hB (congrArg Addr.block e))).trans (h.at' i hi)⟩
theorem Nums.far {w : World} {b : Nat} {f : Nat → Int} (h : Nums w b f) {B : Nat} (hB : B ≠ b) (o : Nat) (v : Value) : Nums (w.setCell ⟨B, o, none⟩ v) b f :=
  ⟨by simpa using h.size, fun i hi => (World.cell?_setCell_other _ _ _ _ (fun e => hB (congrArg Addr.block e))).trans (h.cell i hi), fun j => by rw [World.frozen?_setCell]; exact h.fro j⟩
theorem Row3.far {w : World} {b : Nat} {v : Nat → Value} (h : Row3 w b v) {B : Nat} (hB : B ≠ b) (o : Nat) (u : Value) : Row3 (w.setCell ⟨B, o, none⟩ u) b v :=
  ⟨by simpa using h.size, fun i hi => (World.cell?_setCell_other _ _ _ _ (fun e => hB (congrArg Addr.block e))).trans (h.cs i hi)⟩
theorem ptr_new (w : World) (I : Nat) : Row3 (w.alloc (.cells #[.pointer (some ⟨I, 1, none⟩), .pointer (some ⟨I, 2, none⟩), .pointer (some ⟨I, 3, none⟩)] 97)) w.heap.size (fun j => .pointer (some ⟨I, j + 1, none⟩)) := ⟨by simp, fun j hj => by
    obtain rfl | rfl | rfl : j = 0 ∨ j = 1 ∨ j = 2 := by omega
    all_goals simp⟩
set_option maxHeartbeats 8000000 in
set_option maxRecDepth 100000 in
theorem rParse_core {w : World} (hE : Pw w) (s : List UInt8) (h : s.length ≤ 100) (op : Int) (f : Nat → Int) (ho : opK ((spl s).getD 0 []) 24 = op) (hf : ∀ j, fR op (spl s) j = f j) (hW : Wf ⟨op, f 0, f 1, f 2⟩) (t : List UInt8) (ht : txt ⟨op, f 0, f 1, f 2⟩ = t) (ce : Int) (hce : chkE ⟨op, f 0, f 1, f 2⟩ = ce) (bt : Bool) (hbt : decide (t = s) = bt)
    (ro rx ry rz re : Int) (hr : (ce = 0 ∧ bt = true ∧ ro = op ∧ rx = f 0 ∧ ry = f 1 ∧ rz = f 2 ∧ re = 0) ∨ ((ce = 2 ∨ (ce = 0 ∧ bt = false)) ∧ ro = 0 ∧ rx = 0 ∧ ry = 0 ∧ rz = 0 ∧ re = 11)) :
    Calls Tryz.prog 30 #[.string (bytesOf s)] w fun e w' => e = .returned (.tuple #[.agg #[.int .i64 ro, .int .i64 rx, .int .i64 ry, .int .i64 rz], .int .i64 re]) ∧ Kp w w' := by
  have hb := beq_bytes t s
  rw [hbt] at hb
  have okp := okp_spl s
  have hl1 := okp.pos
  have hl2 := okp.len
  have hle : ∀ j, ((spl s).getD j []).length ≤ 1000 := fun j => Nat.le_trans (spl_getD s j) (by omega)
  have hnl : ∀ k, k < 24 → namesL.getD k [] = opL ((k : Int) + 1) := fun k hk => by
    have := namesL_at ⟨k, hk⟩
    rw [List.getD_eq_getElem?_getD]
    simp only at this
    rw [this]; rfl
  have HO := Lib.hid ho
  have HF := Lib.hid hf
  have HW := Lib.hid hW
  have HT := Lib.hid ht
  have HC := Lib.hid hce
  have HLE := Lib.hid hle
  have HNL := Lib.hid hnl
  have kwa : Kp w (w.alloc (.cells #[.int .i64 0, .int .i64 0, .int .i64 0, .int .i64 0] 55)) := (Kp.refl w).alloc _ _
  have bR := Box.new w 0 0 0 0
  have hpc := pieces_any s (w.alloc (.cells #[.int .i64 0, .int .i64 0, .int .i64 0, .int .i64 0] 55)) (by rw [bytesOf_size]; omega) (by omega)
  have HP := Lib.hid hpc
  have HEa := Lib.hid (hE.kept kwa)
  clear ho hf hW ht hce hbt hle hnl okp hpc hE
  generalize hwa : w.alloc (.cells #[.int .i64 0, .int .i64 0, .int .i64 0, .int .i64 0] 55) = wa at *
  have HWA := Lib.hid hwa
  clear hwa
  go_enter Tryz.func30, Tryz.ntmps30
  go_wp2_with fail
  rw [HWA.out]
  refine HP.out.mono ?_
  rintro e w1 ⟨A, cap, rfl, s1, k1⟩
  rcases s1 with s1 | ⟨b, off, hbo, s1⟩
  · have := congrArg List.length s1
    rw [List.length_nil] at this
    omega
  simp only [Option.some.injEq, Addr.mk.injEq, and_true] at hbo
  obtain ⟨rfl, rfl⟩ := hbo
  have B1 := Box.new w1 0 0 0 0
  have S2 := s1.kp ((Kp.refl w1).alloc #[.int .i64 0, .int .i64 0, .int .i64 0, .int .i64 0] 55)
  have K2 := k1.alloc #[.int .i64 0, .int .i64 0, .int .i64 0, .int .i64 0] 55
  have hI : wa.heap.size ≤ w1.heap.size := k1.size
  have hAI : w1.heap.size ≠ A := fun e => by have := s1.size; omega
  clear s1 k1
  generalize hw2 : w1.alloc (.cells #[.int .i64 0, .int .i64 0, .int .i64 0, .int .i64 0] 55) = w2 at *
  have HW2 := Lib.hid hw2
  clear hw2
  have hl0 : ∃ l0, (spl s).getD 0 [] = l0 := ⟨_, rfl⟩
  obtain ⟨l0, hl0⟩ := hl0
  have HL0 := Lib.hid hl0
  clear hl0
  have hn : ∃ n, (spl s).length = n := ⟨_, rfl⟩
  obtain ⟨n, hn⟩ := hn
  have HN := Lib.hid hn
  rw [hn] at hl1 hl2 ⊢
  clear hn
  have hnz : (0 : Int) < (n : Int) := by omega
  go_wp2
  go_loopw [6] (fun i' wr => ∃ k : Nat, k ≤ 24 ∧ i' = .int .i64 k ∧ Box wr w1.heap.size (opK l0 k) 0 0 0 ∧ Scs wr A 0 (spl s) ∧ Kp wa wr) (fun i' _ => 24 - (intOf i').toNat)
  case atStart => exact ⟨0, by omega, rfl, by rw [opK_zero, HW2.out]; exact B1, by rw [HW2.out]; exact S2, by rw [HW2.out]; exact K2⟩
  case round =>
    obtain ⟨k, hk, rfl, bx, sx, kr⟩ := hrel
    go_wp2_with fail
    refine (rNames_any _).mono ?_
    rintro e w3 ⟨rfl, s3, k3⟩
    have bx3 := bx.kp k3
    have sx3 := sx.kp k3
    have kr3 := kr.trans k3
    clear bx sx kr s3 k3
    by_cases hlt : k < 24
    · have cA : w3.cell? ⟨A, 0, none⟩ = some (.string (bytesOf l0)) := by
        have := sx3.at' 0 (by rw [HN.out]; omega)
        rw [HL0.out] at this; exact this
      have hki : (k : Int) < 24 := by omega
      have HB3 := Lib.hid bx3
      have HS3 := Lib.hid sx3
      have HK3 := Lib.hid kr3
      have hAz := sx3.size
      clear bx3 sx3 kr3
      have hbq := beq_bytes (opL ((k : Int) + 1)) l0
      by_cases hc : opL ((k : Int) + 1) = l0
      · rw [decide_eq_true hc] at hbq
        have HQ := Lib.hid (opK_yes hlt hc)
        clear hc
        go_wp2_with fail
        go_region_with (go_at_call 58; refine (rNames_any _).mono ?_; rintro e w4 ⟨rfl, s4, k4⟩; have g : w4.cell? ⟨w3.heap.size, k, none⟩ = some (.string (bytesOf (opL ((k : Int) + 1)))) := (by have := s4.at' k hlt; rw [HNL.out k hlt, Nat.zero_add] at this; exact this); have KD : Kp w3 w4 := (((Kp.refl w3).drew).trans k4); have gA : w4.cell? ⟨A, 0, none⟩ = some (.string (bytesOf l0)) := (KD.cells _ _ hAz).trans cA; have bx4 := HB3.out.kp KD; have sx4 := HS3.out.kp KD; have kr4 := HK3.out.trans KD; clear s4 k4)
        all_goals
          obtain ⟨si4, i04, i14, i24, i34, iu4⟩ := bx4
          have bx5 : Box w4 w1.heap.size (opK l0 k) 0 0 0 := ⟨si4, i04, i14, i24, i34, iu4⟩
          have HB5 := Lib.hid bx5
          clear bx5 g gA KD cA
          go_wp2
          go_roundw
          case rel => exact ⟨k + 1, by omega, by go_num, by rw [HQ.out]; exact HB5.out.set0 _, sx4.far hAI _ _, kr4.setCell hI _⟩
          case measure => simp [intOf]; omega
      · rw [decide_eq_false hc] at hbq
        have HQ := Lib.hid (opK_no hlt hc)
        clear hc
        go_wp2_with fail
        go_region_with (go_at_call 58; refine (rNames_any _).mono ?_; rintro e w4 ⟨rfl, s4, k4⟩; have g : w4.cell? ⟨w3.heap.size, k, none⟩ = some (.string (bytesOf (opL ((k : Int) + 1)))) := (by have := s4.at' k hlt; rw [HNL.out k hlt, Nat.zero_add] at this; exact this); have KD : Kp w3 w4 := (((Kp.refl w3).drew).trans k4); have gA : w4.cell? ⟨A, 0, none⟩ = some (.string (bytesOf l0)) := (KD.cells _ _ hAz).trans cA; have bx4 := HB3.out.kp KD; have sx4 := HS3.out.kp KD; have kr4 := HK3.out.trans KD; clear s4 k4)
        all_goals
          clear g gA KD cA
          go_wp2
          go_roundw
          case rel => exact ⟨k + 1, by omega, by go_num, by rw [HQ.out]; exact bx4, sx4, kr4⟩
          case measure => simp [intOf]; omega
    · obtain rfl : k = 24 := by omega
      have e : opK l0 24 = op := by rw [← HL0.out]; exact HO.out
      rw [e] at bx3
      have c03 := bx3.c0
      go_wp2_with fail
      generalize hr0 : rowAt op = r0
      obtain ⟨nm, ka, kb, kc, tk, gv, jm, sp⟩ := r0
      have HR := Lib.hid hr0
      clear hr0 e
      refine (has_any _ op nm ka kb kc tk gv jm sp HR.out).mono ?_
      rintro e w4 ⟨rfl, k4⟩
      have bx4 := bx3.kp k4
      have sx4 := sx3.kp k4
      have kr4 := kr3.trans k4
      clear bx3 sx3 kr3 k4 c03
      go_upto_region 10 with (fail)
      have NA := (tri_new w4 (rk ka) (rk kb) (rk kc)).kp ((Kp.refl _).alloc #[.pointer (some ⟨w1.heap.size, 1, none⟩), .pointer (some ⟨w1.heap.size, 2, none⟩), .pointer (some ⟨w1.heap.size, 3, none⟩)] 97)
      have PR := ptr_new (w4.alloc (.cells #[.int .i64 (rk ka), .int .i64 (rk kb), .int .i64 (rk kc)] 95)) w1.heap.size
      have KW := ((Kp.refl w4).alloc #[.int .i64 (rk ka), .int .i64 (rk kb), .int .i64 (rk kc)] 95).alloc #[.pointer (some ⟨w1.heap.size, 1, none⟩), .pointer (some ⟨w1.heap.size, 2, none⟩), .pointer (some ⟨w1.heap.size, 3, none⟩)] 97
      have hP : (w4.alloc (.cells #[.int .i64 (rk ka), .int .i64 (rk kb), .int .i64 (rk kc)] 95)).heap.size = w4.heap.size + 1 := by simp
      rw [hP] at PR
      have FL := (Fld.of (f := fun _ => 0) bx4).kp KW
      have sx5 := sx4.kp KW
      have kr5 := kr4.trans KW
      have hIH : w1.heap.size ≠ w4.heap.size := by have := bx4.size; omega
      have hIP : w1.heap.size ≠ w4.heap.size + 1 := by have := bx4.size; omega
      clear KW hP bx4 sx4 kr4
      generalize hw5 : (w4.alloc (.cells #[.int .i64 (rk ka), .int .i64 (rk kb), .int .i64 (rk kc)] 95)).alloc (.cells #[.pointer (some ⟨w1.heap.size, 1, none⟩), .pointer (some ⟨w1.heap.size, 2, none⟩), .pointer (some ⟨w1.heap.size, 3, none⟩)] 97) = w5 at *
      clear hw5
      have hkr : ∀ j, kR op j = sel3 (rk ka) (rk kb) (rk kc) j := fun j => by unfold kR; rw [HR.out]
      have hstop : ∀ j, j = 3 ∨ n ≤ j + 1 → ∀ m, m < 3 → (if m < j then f m else 0) = f m := fun j hj m hm => by
        by_cases hmj : m < j
        · rw [if_pos hmj]
        · rw [if_neg hmj, ← HF.out m]
          unfold fR
          rw [if_neg (by rw [HN.out]; omega)]
      have hgo : ∀ j, j + 1 < n → f j = numR (sel3 (rk ka) (rk kb) (rk kc) j) ((spl s).getD (j + 1) []) := fun j hj => by
        rw [← HF.out j]; unfold fR; rw [if_pos (by rw [HN.out]; exact hj), hkr]
      have HST := Lib.hid hstop
      have HGO := Lib.hid hgo
      clear hkr hstop hgo
      go_wp2
      go_loopw [9] (fun i' wr => ∃ j : Nat, j ≤ 3 ∧ i' = .int .i64 j ∧ Fld wr w1.heap.size op (fun m => if m < j then f m else 0) ∧ Nums wr w4.heap.size (sel3 (rk ka) (rk kb) (rk kc)) ∧ Row3 wr (w4.heap.size + 1) (fun j => .pointer (some ⟨w1.heap.size, j + 1, none⟩)) ∧ Scs wr A 0 (spl s) ∧ Kp wa wr) (fun i' _ => 3 - (intOf i').toNat)
      case atStart => exact ⟨0, by omega, rfl, FL.ext (fun j hj => by rw [if_neg (by omega)]), NA, PR, sx5, kr5⟩
      case round =>
        clear FL NA PR sx5 kr5
        obtain ⟨j, hj, rfl, FL, NA, PR, sx, kr⟩ := hrel
        by_cases hg : j < 3 ∧ j + 1 < n
        · obtain ⟨hj3, hjn⟩ := hg
          have e1 : (j : Int) < 3 := by omega
          have e2 : (j : Int) + 1 < (n : Int) := by omega
          have cP := PR.cs j hj3
          have cH := NA.cell j hj3
          have cL := sx.at' (j + 1) (by rw [HN.out]; exact hjn)
          rw [Nat.zero_add] at cL
          have zP := PR.size
          have hlen := HLE.out (j + 1)
          have HG := Lib.hid (HGO.out j hjn)
          revert hlen HG cL cH
          generalize sel3 (rk ka) (rk kb) (rk kc) j = K
          generalize (spl s).getD (j + 1) [] = pk
          intro cH cL hlen HG
          have HLEN := Lib.hid hlen
          have HFL := Lib.hid FL
          have HNA := Lib.hid NA
          have HPR := Lib.hid PR
          have HSX := Lib.hid sx
          have HKR := Lib.hid kr
          clear hlen FL NA PR sx kr
          go_wp2_with fail
          have hw1 : IntKind.i64.wrap ((j : Int) + 1) = (j : Int) + 1 := IntWalk.i64_in _ (by omega)
          have hw2 : 0 ≤ (j : Int) + 1 := by omega
          have hw3 : ((j : Int) + 1).toNat = j + 1 := by omega
          go_region_with (go_at_call 60; refine (number_any K pk _ HLEN.out).mono ?_; rintro e w6 ⟨rfl, k6⟩; have KD : Kp wr w6 := (((Kp.refl wr).drew).trans k6); have cP6 := (KD.cells _ _ zP).trans cP; have FL6 := HFL.out.kp KD; have cI6 := FL6.cs j hj3; have fI6 := FL6.fro (j + 1); have HF6 := Lib.hid FL6; clear FL6 k6)
          all_goals
            have KD' := Lib.hid KD
            clear KD cP cH cL
            go_wp2
            go_roundw
            case rel =>
              refine ⟨j + 1, by omega, by go_num, (HF6.out.set hj3 _).ext (fun m hm => ?_), (HNA.out.kp KD'.out).far hIH _ _, (HPR.out.kp KD'.out).far hIP _ _, (HSX.out.kp KD'.out).far hAI _ _, (HKR.out.trans KD'.out).setCell hI _⟩
              by_cases e : m = j
              · subst e; rw [if_pos rfl, if_pos (by omega), HG.out]
              · rw [if_neg e]
                by_cases e2 : m < j
                · rw [if_pos e2, if_pos (by omega)]
                · rw [if_neg e2, if_neg (by omega)]
            case measure => simp [intOf]; omega
        · have bx := (FL.ext (HST.out j (by omega))).box
          have HBX := Lib.hid bx
          have HKR := Lib.hid kr
          obtain ⟨si, i0, i1, i2, i3, iu⟩ := bx
          have hex : j = 3 ∨ (j < 3 ∧ n ≤ j + 1) := by omega
          clear FL NA PR sx kr hg
          rcases hex with rfl | ⟨hj3, hjn⟩
          case' inr =>
            have e1 : (j : Int) < 3 := by omega
            have e2 : (n : Int) ≤ (j : Int) + 1 := by omega
            have e3 : decide ((j : Int) + 1 < (n : Int)) = false := by simp; omega
          all_goals
            go_wp2_with fail
            refine (rCheck_any _ op (f 0) (f 1) (f 2) ce HC.out).mono ?_
            rintro e w6 ⟨rfl, k6⟩
            have bx6 := HBX.out.kp k6
            have kr6 := HKR.out.trans k6
            have HB6 := Lib.hid bx6
            clear k6 i0 i1 i2 i3 iu si HBX HKR
            obtain ⟨sj, j0, j1, j2, j3, ju⟩ := bx6
            rcases hr with ⟨rfl, rfl, rfl, rfl, rfl, rfl, rfl⟩ | ⟨rfl | ⟨rfl, rfl⟩, rfl, rfl, rfl, rfl, rfl⟩
            · go_wp2_with fail
              refine (rText_any (HEa.out.kept kr6) _ _ _ _ HW.out t HT.out).mono ?_
              rintro e w7 ⟨rfl, k7⟩
              have bx7 := HB6.out.kp k7
              have bR7 := (bR.kp kr6).kp k7
              have kw := (kwa.trans kr6).trans k7
              clear k7 j0 j1 j2 j3 ju sj HB6
              obtain ⟨s7, l0', l1', l2', l3', lu⟩ := bx7
              obtain ⟨sr, r0, r1, r2, r3, ru⟩ := bR7
              go_wp2
              exact bodyPost_ret (v := .tuple #[.agg #[.int .i64 ro, .int .i64 (f 0), .int .i64 (f 1), .int .i64 (f 2)], .int .i64 0]) (by simp [results, Tryz.results30, go_sem, r0, r1, r2, r3]) rfl ⟨rfl, (((kw.setCell (Nat.le_refl _) _).setCell (Nat.le_refl _) _).setCell (Nat.le_refl _) _).setCell (Nat.le_refl _) _⟩
            · have bR6 := bR.kp kr6
              have kw := kwa.trans kr6
              clear HB6
              obtain ⟨sr, r0, r1, r2, r3, ru⟩ := bR6
              go_wp2
              exact bodyPost_ret (v := .tuple #[.agg #[.int .i64 0, .int .i64 0, .int .i64 0, .int .i64 0], .int .i64 11]) (by simp [results, Tryz.results30, go_sem, r0, r1, r2, r3]) rfl ⟨rfl, (((kw.setCell (Nat.le_refl _) _).setCell (Nat.le_refl _) _).setCell (Nat.le_refl _) _).setCell (Nat.le_refl _) _⟩
            · go_wp2_with fail
              refine (rText_any (HEa.out.kept kr6) _ _ _ _ HW.out t HT.out).mono ?_
              rintro e w7 ⟨rfl, k7⟩
              have bx7 := HB6.out.kp k7
              have bR7 := (bR.kp kr6).kp k7
              have kw := (kwa.trans kr6).trans k7
              clear k7 j0 j1 j2 j3 ju sj HB6
              obtain ⟨s7, l0', l1', l2', l3', lu⟩ := bx7
              obtain ⟨sr, r0, r1, r2, r3, ru⟩ := bR7
              go_wp2
              exact bodyPost_ret (v := .tuple #[.agg #[.int .i64 0, .int .i64 0, .int .i64 0, .int .i64 0], .int .i64 11]) (by simp [results, Tryz.results30, go_sem, r0, r1, r2, r3]) rfl ⟨rfl, (((kw.setCell (Nat.le_refl _) _).setCell (Nat.le_refl _) _).setCell (Nat.le_refl _) _).setCell (Nat.le_refl _) _⟩
theorem rParse_any {w : World} (hE : Pw w) (s : List UInt8) (h : s.length ≤ 100) (i : In) (e : Int) (hi : prsI s = i) (he : prsE s = e) :
    Calls Tryz.prog 30 #[.string (bytesOf s)] w fun r w' => r = .returned (.tuple #[.agg #[.int .i64 i.op, .int .i64 i.a, .int .i64 i.b, .int .i64 i.c], .int .i64 e]) ∧ Kp w w' := by
  rw [← hi, ← he]
  unfold prsI prsE
  rw [prs_eq]
  have hop := opK_in ((spl s).getD 0 []) 24 (Nat.le_refl _)
  have hf := fun j => fR_bd (opK ((spl s).getD 0 []) 24) (spl s) j
  have f0 := hf 0
  have f1 := hf 1
  have f2 := hf 2
  have hW : Wf ⟨opK ((spl s).getD 0 []) 24, fR (opK ((spl s).getD 0 []) 24) (spl s) 0, fR (opK ((spl s).getD 0 []) 24) (spl s) 1, fR (opK ((spl s).getD 0 []) 24) (spl s) 2⟩ := by
    constructor <;> simp only <;> omega
  cases hc : chk (rdR s) with
  | false =>
    have e : prsR s = none := by unfold prsR; rw [if_neg (by simp [hc])]
    rw [e]
    exact rParse_core hE s h _ _ rfl (fun _ => rfl) hW _ rfl _ rfl _ rfl _ _ _ _ _ (.inr ⟨.inl (chkE_no hc), rfl, rfl, rfl, rfl, rfl⟩)
  | true =>
    by_cases ht : txt (rdR s) = s
    · have e : prsR s = some (rdR s) := by unfold prsR; rw [if_pos ⟨hc, ht⟩]
      rw [e]
      exact rParse_core hE s h _ _ rfl (fun _ => rfl) hW _ rfl _ rfl _ rfl _ _ _ _ _ (.inl ⟨chkE_yes hc, decide_eq_true ht, rfl, rfl, rfl, rfl, rfl⟩)
    · have e : prsR s = none := by unfold prsR; rw [if_neg (by simp [ht])]
      rw [e]
      exact rParse_core hE s h _ _ rfl (fun _ => rfl) hW _ rfl _ rfl _ rfl _ _ _ _ _ (.inr ⟨.inr ⟨chkE_yes hc, decide_eq_false ht⟩, rfl, rfl, rfl, rfl, rfl⟩)
end Co
end Go.Proofs.YtaeblnlbelebkaaGreatDoor
