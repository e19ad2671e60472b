/-
  WALKS: the statement LexNumbers. Own work.
-/
import Derived.Test.YtlgkcjhoaecekaaDoorLxLives
namespace Go.Proofs.YtlgkcjhoaecekaaDoor
namespace Lx
open Go.RowKit Go
set_option linter.unusedVariables false

theorem dg10 : ∀ r : Fin 10, (ByteArray.extract ⟨#[48, 49, 50, 51, 52, 53, 54, 55, 56, 57]⟩ r.val (r.val + 1)) = bytesOf [dgb r.val] := by decide +kernel
theorem dg16 : ∀ r : Fin 16, (ByteArray.extract ⟨#[48, 49, 50, 51, 52, 53, 54, 55, 56, 57, 97, 98, 99, 100, 101, 102]⟩ r.val (r.val + 1)) = bytesOf [dgb r.val] := by decide +kernel
theorem let26 : ∀ r : Fin 26, (ByteArray.extract ⟨#[97, 98, 99, 100, 101, 102, 103, 104, 105, 106, 107, 108, 109, 110, 111, 112, 113, 114, 115, 116, 117, 118, 119, 120, 121, 122]⟩ r.val (r.val + 1)) = bytesOf [UInt8.ofNat (97 + r.val)] := by decide +kernel
theorem add_run {P : Program} {a b : List UInt8} (W : World) (h : a.length + b.length ≤ 1000) : (Op.stringOp .add (bytesOf a) (bytesOf b)).run P W = .ok (.string (bytesOf (a ++ b))) W := by
  rw [run_string_add_sum W _ _ (by rw [bytesOf_size, bytesOf_size]; omega), bytesOf_append]
theorem Dgt.small {q n x : Nat} {d : List UInt8} (h : Dgt q n x d) : x < 4294967296 := by
  have h1 := h.lt
  have : 2 ^ (32 - d.length) ≤ 2 ^ 32 := Nat.pow_le_pow_right (by decide) (by omega)
  omega
theorem ret_u32 {a b : Int} (h : a = b) : Value.int .u32 a = Value.int .u32 b := by rw [h]
theorem dig_meas {m : UInt8} {dl : List UInt8} {y z : Nat} (h : 2 * z < 2 * y) (h2 : z < 4294967296) :
    2 * (intOf (Value.int .u32 ((z : Int) % 4294967296))).toNat + (match Value.string (bytesOf (m :: dl)) with | .string b => 1 - b.size | _ => 0) < 2 * (intOf (Value.int .u32 (y : Int))).toNat + (match Value.string (bytesOf dl) with | .string b => 1 - b.size | _ => 0) := by
  have e : (z : Int) % 4294967296 = z := by omega
  rw [e]
  simp only [intOf, bytesOf_size, List.length_cons, Int.toNat_natCast]
  omega
set_option maxHeartbeats 400000 in
theorem pick_26 (n : Int) (w : World) (h1 : -9223372036854775808 ≤ n) (h2 : n ≤ 9223372036854775807) (k : Nat) (hk8 : (n % 26).toNat = k) :
    Calls Tryd.prog 18 #[.int .i64 n, .int .i64 26] w fun e w' => e = .returned (.int .i64 (k : Int)) ∧ w = w' := by
  have hkk : n % 26 = (k : Int) := by omega
  by_cases hn : 0 ≤ n
  · have hp : 0 ≤ n % 26 := by omega
    have HK := Lib.hid hkk
    clear hkk hk8
    go_enter Tryd.func18, Tryd.ntmps18
    go_wp2
    go_ret
    exact ⟨ret_int HK.out, rfl⟩
  · have hb1 : -26 < n.tmod 26 := Int.lt_tmod_of_pos n (by omega)
    have e1 : (-n).tmod 26 = -(n.tmod 26) := Int.neg_tmod ..
    have e2 : (-n).tmod 26 = (-n) % 26 := Int.tmod_eq_emod_of_nonneg (by omega)
    have hb2 : n.tmod 26 ≤ 0 := by omega
    have F : Hid ((n.tmod 26 < 0 → n.tmod 26 + 26 = (k : Int)) ∧ (n.tmod 26 = 0 → 0 = (k : Int))) := Lib.hid ⟨fun _ => by omega, fun _ => by omega⟩
    clear e1 e2 hkk hk8
    by_cases hz : n.tmod 26 < 0
    · go_enter Tryd.func18, Tryd.ntmps18
      go_wp2
      go_ret
      exact ⟨ret_int (F.out.1 hz), rfl⟩
    · have hz0 : n.tmod 26 = 0 := by omega
      go_enter Tryd.func18, Tryd.ntmps18
      go_wp2
      go_ret
      exact ⟨ret_int (F.out.2 hz0), rfl⟩
theorem tok_struct : Tryd.prog.underlying 33 = some (.struct (Tryd.prog.fieldsOf 33)) := by kernel_rfl
theorem tok_held : Tryd.prog.stoodInHeld 33 = false := by kernel_rfl
theorem tok_same (a c d : Int) (b : ByteArray) (n : Int) (w : World) : (binOp .neq 33 (.agg #[.int .i64 a, .string b, .int .i64 c, .int .i64 d, .int .u32 n]) (.agg #[.int .i64 a, .string b, .int .i64 c, .int .i64 d, .int .u32 n])).run Tryd.prog w = .ok (.bool false) w := by
  have hu := Tryd.underlying33
  have hi := Tryd.underlying3
  have hs := Tryd.underlying9
  have hv := Tryd.underlying31
  rw [run_neq_struct, run_equalIn_agg w 9999 _ _ _ tok_struct tok_held]
  simp [Op.eqFields, Program.fieldsOf, hu, hi, hs, hv, go_sem]
/-- The four texts. -/
def txts (D X : List UInt8) : List (List UInt8) := [D, 48 :: 120 :: X, 48 :: 48 :: 48 :: D, 48 :: 120 :: 48 :: 48 :: X]
theorem txts_lex {D X : List UInt8} {N : Nat} (hN : N < 4294967296) (hD : D ≠ [] ∧ (∀ c ∈ D, isDg c = true) ∧ val 10 D = N ∧ D.length ≤ 32) (hX : X ≠ [] ∧ (∀ c ∈ X, isHx c = true) ∧ val 16 X = N ∧ X.length ≤ 32) : ∀ k, k < 4 → Lex ((txts D X).getD k []) 1 1 = .ok [⟨3, (txts D X).getD k [], 1, 1, N⟩] ∧ ((txts D X).getD k []).length ≤ 65536 := by
  intro k hk
  have c : k = 0 ∨ k = 1 ∨ k = 2 ∨ k = 3 := by omega
  rcases c with rfl | rfl | rfl | rfl
  · exact ⟨Lex_dec hD.1 hD.2.1 hD.2.2.1 hN, by show D.length ≤ _; omega⟩
  · exact ⟨Lex_hex hX.1 hX.2.1 hX.2.2.1 hN, by show (48 :: 120 :: X).length ≤ _; simp; omega⟩
  · refine ⟨Lex_dec (d := 48 :: 48 :: 48 :: D) (by simp) (fun b hb => ?_) (by rw [val_zero, val_zero, val_zero]; exact hD.2.2.1) hN, by show (48 :: 48 :: 48 :: D).length ≤ _; simp; omega⟩
    simp only [List.mem_cons] at hb
    rcases hb with rfl | rfl | rfl | hb
    · decide
    · decide
    · decide
    · exact hD.2.1 b hb
  · refine ⟨Lex_hex (d := 48 :: 48 :: X) (by simp) (fun b hb => ?_) (by rw [val_zero, val_zero]; exact hX.2.2.1) hN, by show (48 :: 120 :: 48 :: 48 :: X).length ≤ _; simp; omega⟩
    simp only [List.mem_cons] at hb
    rcases hb with rfl | rfl | hb
    · decide
    · decide
    · exact hX.2.1 b hb
theorem letter_ok : ∀ k : Fin 26, 97 ≤ (UInt8.ofNat (97 + k.val)).toNat ∧ (UInt8.ofNat (97 + k.val)).toNat ≤ 122 := by decide
theorem big_dg {D : List UInt8} (hD : ∀ c ∈ D, isDg c = true) : ∀ c ∈ 49 :: 48 :: 48 :: 48 :: 48 :: 48 :: 48 :: 48 :: 48 :: 48 :: 48 :: D, isDg c = true := by
  intro c hc
  simp only [List.mem_cons] at hc
  rcases hc with rfl | rfl | rfl | rfl | rfl | rfl | rfl | rfl | rfl | rfl | rfl | hc
  all_goals first | exact hD c hc | decide
set_option maxHeartbeats 4000000 in
set_option maxRecDepth 100000 in
theorem nums_walk {w : World} (hE : Env w) (N : Nat) (hN : N < 4294967296) (letter : Int) (hl1 : -9223372036854775808 ≤ letter) (hl2 : letter ≤ 9223372036854775807) :
    Calls Tryd.prog 7 #[.int .u32 N, .int .i64 letter] w fun e w' => e = .returned (.bool true) ∧ Kp w w' := by
  have q0 : ∀ W, Sem.run Tryd.prog (binOp .neq 25 (.agg #[.int .i64 0, .int .i64 0, .int .i64 0]) (.agg #[.int .i64 0, .int .i64 0, .int .i64 0])) W = .ok (.bool false) W := fun _ => by kernel_rfl
  have q2 : ∀ W, Sem.run Tryd.prog (binOp .eql 25 (.agg #[.int .i64 11, .int .i64 1, .int .i64 1]) (.agg #[.int .i64 11, .int .i64 1, .int .i64 1])) W = .ok (.bool true) W := fun _ => by kernel_rfl
  have HE := Lib.hid hE
  clear hE
  go_enter Tryd.func7, Tryd.ntmps7
  go_wp2_with fail
  refine (lives_any HE.out).mono ?_
  rintro e w1 ⟨rfl, k1⟩
  have K1 := Lib.hid k1
  clear k1
  go_wp2
  go_loopw [5, 7] (fun d x wr => ∃ (dl : List UInt8) (y : Nat), d = .string (bytesOf dl) ∧ x = .int .u32 (y : Int) ∧ Hid (Dgt 10 N y dl) ∧ Qt w1 wr) (fun d x _ => 2 * (intOf x).toNat + (match d with | .string b => 1 - b.size | _ => 0))
  case atStart => exact ⟨[], N, rfl, rfl, Lib.hid (Dgt.start hN), Qt.refl _⟩
  case round =>
    obtain ⟨dl, y, rfl, rfl, hd, hq⟩ := hrel
    by_cases hy : 0 < y
    · -- a digit more
        have HD2 : Hid (Dgt 10 N (y / 10) (dgb (y % 10) :: dl)) := Lib.hid (hd.out.next (by decide) (by decide) (hd.out.more hy))
        have hlen := hd.out.len
        have hm : y % 10 < 10 := Nat.mod_lt _ (by decide)
        have e1 : (y : Int).tmod 10 = ((y % 10 : Nat) : Int) := rfl
        have e2 : (y : Int).tdiv 10 = ((y / 10 : Nat) : Int) := rfl
        have hX : ByteArray.extract ⟨#[48, 49, 50, 51, 52, 53, 54, 55, 56, 57]⟩ (y % 10) (y % 10 + 1) = bytesOf [dgb (y % 10)] := dg10 ⟨_, hm⟩
        have HM : Hid (2 * (y / 10) < 2 * y ∧ y / 10 < 4294967296) := Lib.hid (by have := hd.out.small; omega)
        generalize y % 10 = m at *
        generalize y / 10 = z at *
        have HA : ∀ W, (Op.stringOp .add (bytesOf [dgb m]) (bytesOf dl)).run Tryd.prog W = .ok (.string (bytesOf (dgb m :: dl))) W := fun W => add_run W (by simp; omega)
        have hyI : (0 : Int) < (y : Int) := by omega
        go_wp2
        exact ⟨⟨dgb m :: dl, z, rfl, ret_u32 (by have := HM.out.2; omega), HD2, hq⟩, dig_meas HM.out.1 HM.out.2⟩
    · obtain rfl : y = 0 := by omega
      cases dl with
      | nil =>
        have he : (bytesOf []).toList.isEmpty = true := by rw [bytesOf_toList]; rfl
        have HD2 : Hid (Dgt 10 N 0 [48]) := Lib.hid (hd.out.next (by decide) (by decide) (by decide))
        have hz : (bytesOf []).size = 0 := rfl
        go_wp2
        exact ⟨⟨[48], 0, rfl, rfl, HD2, hq⟩, by decide⟩
      | cons b q =>
        have he : (bytesOf (b :: q)).toList.isEmpty = false := by rw [bytesOf_toList]; rfl
        have HF := Lib.hid (show b :: q ≠ [] ∧ (∀ c ∈ b :: q, isDg c = true) ∧ val 10 (b :: q) = N ∧ (b :: q).length ≤ 32 from ⟨by simp, all_dg hd.out.all, hd.out.val, hd.out.len⟩)
        clear hd hy
        generalize b :: q = D at *
        rw [show ((0 : Nat) : Int) = 0 from rfl]
        have KW := Lib.hid (K1.out.trans hq.kp)
        have HFD := HF
        clear HF hq
        go_wp2
        go_loopw [6, 8] (fun d x wq => ∃ (dl : List UInt8) (y : Nat), d = .string (bytesOf dl) ∧ x = .int .u32 (y : Int) ∧ Hid (Dgt 16 N y dl) ∧ Qt wr wq) (fun d x _ => 2 * (intOf x).toNat + (match d with | .string b => 1 - b.size | _ => 0))
        case atStart => exact ⟨[], N, rfl, rfl, Lib.hid (Dgt.start hN), Qt.refl _⟩
        case round =>
          obtain ⟨dl, y, rfl, rfl, hd, hq⟩ := hrel
          by_cases hy : 0 < y
          · -- a digit more
              have HD2 : Hid (Dgt 16 N (y / 16) (dgb (y % 16) :: dl)) := Lib.hid (hd.out.next (by decide) (by decide) (hd.out.more hy))
              have hlen := hd.out.len
              have hm : y % 16 < 16 := Nat.mod_lt _ (by decide)
              have e1 : (y : Int).tmod 16 = ((y % 16 : Nat) : Int) := rfl
              have e2 : (y : Int).tdiv 16 = ((y / 16 : Nat) : Int) := rfl
              have hX : ByteArray.extract ⟨#[48, 49, 50, 51, 52, 53, 54, 55, 56, 57, 97, 98, 99, 100, 101, 102]⟩ (y % 16) (y % 16 + 1) = bytesOf [dgb (y % 16)] := dg16 ⟨_, hm⟩
              have HM : Hid (2 * (y / 16) < 2 * y ∧ y / 16 < 4294967296) := Lib.hid (by have := hd.out.small; omega)
              generalize y % 16 = m at *
              generalize y / 16 = z at *
              have HA : ∀ W, (Op.stringOp .add (bytesOf [dgb m]) (bytesOf dl)).run Tryd.prog W = .ok (.string (bytesOf (dgb m :: dl))) W := fun W => add_run W (by simp; omega)
              have hyI : (0 : Int) < (y : Int) := by omega
              go_wp2
              exact ⟨⟨dgb m :: dl, z, rfl, ret_u32 (by have := HM.out.2; omega), HD2, hq⟩, dig_meas HM.out.1 HM.out.2⟩
          · obtain rfl : y = 0 := by omega
            cases dl with
            | nil =>
              have he : (bytesOf []).toList.isEmpty = true := by rw [bytesOf_toList]; rfl
              have HD2 : Hid (Dgt 16 N 0 [48]) := Lib.hid (hd.out.next (by decide) (by decide) (by decide))
              have hz : (bytesOf []).size = 0 := rfl
              go_wp2
              exact ⟨⟨[48], 0, rfl, rfl, HD2, hq⟩, by decide⟩
            | cons b q =>
              have he : (bytesOf (b :: q)).toList.isEmpty = false := by rw [bytesOf_toList]; rfl
              have HF := Lib.hid (show b :: q ≠ [] ∧ (∀ c ∈ b :: q, isHx c = true) ∧ val 16 (b :: q) = N ∧ (b :: q).length ≤ 32 from ⟨by simp, all_hx hd.out.all, hd.out.val, hd.out.len⟩)
              clear hd hy
              generalize b :: q = X at *
              rw [show ((0 : Nat) : Int) = 0 from rfl]
              have KW2 := Lib.hid (KW.out.trans hq.kp)
              have HTX := Lib.hid (txts_lex hN HFD.out HF.out)
              have hld := HFD.out.2.2.2
              have hlx := HF.out.2.2.2
              have A1 : ∀ W, (Op.stringOp .add ⟨#[48, 120]⟩ (bytesOf X)).run Tryd.prog W = .ok (.string (bytesOf (48 :: 120 :: X))) W := fun W => add_run (a := [48, 120]) W (by simp; omega)
              have A2 : ∀ W, (Op.stringOp .add ⟨#[48, 48, 48]⟩ (bytesOf D)).run Tryd.prog W = .ok (.string (bytesOf (48 :: 48 :: 48 :: D))) W := fun W => add_run (a := [48, 48, 48]) W (by simp; omega)
              have A3 : ∀ W, (Op.stringOp .add ⟨#[48, 120, 48, 48]⟩ (bytesOf X)).run Tryd.prog W = .ok (.string (bytesOf (48 :: 120 :: 48 :: 48 :: X))) W := fun W => add_run (a := [48, 120, 48, 48]) W (by simp; omega)
              clear HF hq
              go_wp2
              generalize hw3 : World.alloc wr _ = w3
              have HS : Hid (SIn w3 (some ⟨wr.heap.size, 0, none⟩) (txts D X)) := Lib.hid (sin_new (T := 9) (l := txts D X) (by rw [← hw3]; exact Kp.refl _))
              have N3 := (alloc_new_of hw3).2.1
              have K3 := Lib.hid (KW2.out.trans N3)
              obtain ⟨P3, hP3⟩ : ∃ P, wr.heap.size = P := ⟨_, rfl⟩
              rw [hP3] at HS ⊢
              clear hw3 hP3 N3 A1 A2 A3
              go_loopw [64] (fun i wr => ∃ k : Nat, k ≤ 4 ∧ i = .int .i64 k ∧ Kp w3 wr) (fun i _ => 4 - (intOf i).toNat)
              case atStart => exact ⟨0, Nat.zero_le _, rfl, Kp.refl _⟩
              case round =>
                obtain ⟨k, hk, rfl, kr⟩ := hrel
                by_cases hlt : k < 4
                · obtain ⟨b0, off0, hao, hb0, hc0⟩ := SIn.at (HS.out.kp kr) (i := k) hlt
                  simp only [Option.some.injEq, Addr.mk.injEq, and_true] at hao
                  obtain ⟨rfl, rfl⟩ := hao
                  have hc1 := hc0
                  rw [Nat.zero_add] at hc1
                  have hk0 : (0 : Int) ≤ (k : Int) := Int.natCast_nonneg _
                  have hk1 : (k : Int) < 4 := by omega
                  obtain ⟨hlex, hslen⟩ := HTX.out k hlt
                  have HLX := Lib.hid hlex
                  have KR := Lib.hid (K3.out.trans kr)
                  have KR3 := Lib.hid kr
                  clear hlex kr
                  generalize (txts D X).getD k [] = s at *
                  go_wp2_with fail
                  refine (All_q (HE.out.kp KR.out) s hslen [⟨3, s, 1, 1, N⟩] 0 0 0 (by rw [HLX.out]; rfl) (by rw [HLX.out]; rfl) (by rw [HLX.out]; rfl) (by rw [HLX.out]; rfl)).mono ?_
                  rintro e w5 ⟨ao, cap, rfl, hT, k5⟩
                  rw [show ([(⟨3, s, 1, 1, (N : Int)⟩ : Tk)]).length = 1 from rfl]
                  have HT := Lib.hid hT
                  have K5 := Lib.hid (KR3.out.trans k5)
                  clear hT k5 hc0 hc1
                  go_upto_region 16 with (fail)
                  generalize hw6 : World.alloc w5 _ = w6
                  have A6 := alloc_new_of hw6
                  have N6 := A6.2.1
                  have c60 := A6.1 0
                  have c61 := A6.1 1
                  have c62 := A6.1 2
                  have z6 := A6.2.2.1
                  simp only [List.getElem?_toArray, List.getElem?_cons_succ, List.getElem?_cons_zero] at c60 c61 c62
                  obtain ⟨P6, hP6⟩ : ∃ P, w5.heap.size = P := ⟨_, rfl⟩
                  rw [hP6] at c60 c61 c62 z6 ⊢
                  clear A6 hw6 hP6
                  have K6 := Lib.hid (K5.out.trans N6)
                  have HT6 := Lib.hid (HT.out.kp N6)
                  clear N6
                  obtain ⟨b6, off6, rfl, hcs⟩ := TIn.at HT6.out (i := 0) (by simp)
                  have y0 : w6.cell? ⟨b6, off6, none⟩ = some (.int .i64 3) := hcs.k 0 (by simp)
                  have y1 : w6.cell? ⟨b6, off6 + 1, none⟩ = some (.string (bytesOf s)) := hcs.t 0 (by simp)
                  have y2 : w6.cell? ⟨b6, off6 + 2, none⟩ = some (.int .i64 1) := hcs.l' 0 (by simp)
                  have y3 : w6.cell? ⟨b6, off6 + 3, none⟩ = some (.int .i64 1) := hcs.c 0 (by simp)
                  have y4 : w6.cell? ⟨b6, off6 + 4, none⟩ = some (.int .u32 N) := hcs.n 0 (by simp)
                  have q3 := tok_same 3 1 1 (bytesOf s) N
                  clear hcs
                  go_wp2
                  go_roundw
                  case rel => exact ⟨k + 1, by omega, by go_num, K6.out⟩
                  case measure => simp [intOf]; omega
                · obtain rfl : k = 4 := by omega
                  have KR := Lib.hid (K3.out.trans kr)
                  clear kr hlt hk
                  obtain ⟨j, hj⟩ : ∃ j, (letter % 26).toNat = j := ⟨_, rfl⟩
                  have hj26 : j < 26 := by omega
                  have hX : ByteArray.extract ⟨#[97, 98, 99, 100, 101, 102, 103, 104, 105, 106, 107, 108, 109, 110, 111, 112, 113, 114, 115, 116, 117, 118, 119, 120, 121, 122]⟩ j (j + 1) = bytesOf [UInt8.ofNat (97 + j)] := let26 ⟨j, hj26⟩
                  have HLC := Lib.hid (Lex_letter HFD.out.1 HFD.out.2.1 HFD.out.2.2.1 hN (letter_ok ⟨j, hj26⟩))
                  have HLG := Lib.hid (Lex_big (d := 49 :: 48 :: 48 :: 48 :: 48 :: 48 :: 48 :: 48 :: 48 :: 48 :: 48 :: D) (by simp) (big_dg HFD.out.2.1) big_val)
                  simp only at HLC
                  have HJ := Lib.hid hj
                  clear hj
                  generalize UInt8.ofNat (97 + j) = c at *
                  have A1 : ∀ W, (Op.stringOp .add (bytesOf D) (bytesOf [c])).run Tryd.prog W = .ok (.string (bytesOf (D ++ [c]))) W := fun W => add_run W (by simp; omega)
                  have A2 : ∀ W, (Op.stringOp .add ⟨#[49, 48, 48, 48, 48, 48, 48, 48, 48, 48, 48]⟩ (bytesOf D)).run Tryd.prog W = .ok (.string (bytesOf (49 :: 48 :: 48 :: 48 :: 48 :: 48 :: 48 :: 48 :: 48 :: 48 :: 48 :: D))) W := fun W => add_run (a := [49, 48, 48, 48, 48, 48, 48, 48, 48, 48, 48]) W (by simp; omega)
                  have j0 : (0 : Int) ≤ (j : Int) := Int.natCast_nonneg _
                  have j1 : (j : Int) < 26 := by omega
                  go_wp2_with fail
                  refine (pick_26 letter _ hl1 hl2 j HJ.out).mono ?_
                  rintro e w7 ⟨rfl, rfl⟩
                  go_upto_region 21 with (fail)
                  generalize hw6 : World.alloc wr _ = w6
                  have A6 := alloc_new_of hw6
                  have N6 := A6.2.1
                  have c60 := A6.1 0
                  have c61 := A6.1 1
                  have c62 := A6.1 2
                  have z6 := A6.2.2.1
                  simp only [List.getElem?_toArray, List.getElem?_cons_succ, List.getElem?_cons_zero] at c60 c61 c62
                  obtain ⟨P6, hP6⟩ : ∃ P, wr.heap.size = P := ⟨_, rfl⟩
                  rw [hP6] at c60 c61 c62 z6 ⊢
                  clear A6 hw6 hP6
                  have K6 := Lib.hid (KR.out.trans N6)
                  clear N6
                  go_wp2_with fail
                  refine (All_q (HE.out.kp K6.out) (D ++ [c]) (by simp; omega) [] 11 1 1 (by rw [HLC.out]; rfl) (by rw [HLC.out]; rfl) (by rw [HLC.out]; rfl) (by rw [HLC.out]; rfl)).mono ?_
                  rintro e w8 ⟨ao8, cap8, rfl, _, k8⟩
                  have c60 := (k8.cells P6 0 z6).trans c60
                  have c61 := (k8.cells P6 1 z6).trans c61
                  have c62 := (k8.cells P6 2 z6).trans c62
                  have z6 := Nat.lt_of_lt_of_le z6 k8.size
                  have K8 := Lib.hid (K6.out.trans k8)
                  clear k8
                  go_upto_region 22 with (fail)
                  generalize hw9 : World.alloc w8 _ = w9
                  have A9 := alloc_new_of hw9
                  have N9 := A9.2.1
                  have c90 := A9.1 0
                  have c91 := A9.1 1
                  have c92 := A9.1 2
                  have z9 := A9.2.2.1
                  simp only [List.getElem?_toArray, List.getElem?_cons_succ, List.getElem?_cons_zero] at c90 c91 c92
                  obtain ⟨P9, hP9⟩ : ∃ P, w8.heap.size = P := ⟨_, rfl⟩
                  rw [hP9] at c90 c91 c92 z9 ⊢
                  clear A9 hw9 hP9
                  have c60 := (N9.cells P6 0 z6).trans c60
                  have c61 := (N9.cells P6 1 z6).trans c61
                  have c62 := (N9.cells P6 2 z6).trans c62
                  have z6 := Nat.lt_of_lt_of_le z6 N9.size
                  have K9 := Lib.hid (K8.out.trans N9)
                  clear N9
                  go_wp2_with fail
                  refine (All_q (HE.out.kp K9.out) (49 :: 48 :: 48 :: 48 :: 48 :: 48 :: 48 :: 48 :: 48 :: 48 :: 48 :: D) (by simp; omega) [] 11 1 1 (by rw [HLG.out]; rfl) (by rw [HLG.out]; rfl) (by rw [HLG.out]; rfl) (by rw [HLG.out]; rfl)).mono ?_
                  rintro e w10 ⟨ao10, cap10, rfl, _, k10⟩
                  have c60 := (k10.cells P6 0 z6).trans c60
                  have c61 := (k10.cells P6 1 z6).trans c61
                  have c62 := (k10.cells P6 2 z6).trans c62
                  have z6 := Nat.lt_of_lt_of_le z6 k10.size
                  have c90 := (k10.cells P9 0 z9).trans c90
                  have c91 := (k10.cells P9 1 z9).trans c91
                  have c92 := (k10.cells P9 2 z9).trans c92
                  have z9 := Nat.lt_of_lt_of_le z9 k10.size
                  have K10 := Lib.hid (K9.out.trans k10)
                  clear k10
                  go_upto_region 23 with (fail)
                  generalize hw11 : World.alloc w10 _ = w11
                  have A11 := alloc_new_of hw11
                  have N11 := A11.2.1
                  have c110 := A11.1 0
                  have c111 := A11.1 1
                  have c112 := A11.1 2
                  simp only [List.getElem?_toArray, List.getElem?_cons_succ, List.getElem?_cons_zero] at c110 c111 c112
                  obtain ⟨P11, hP11⟩ : ∃ P, w10.heap.size = P := ⟨_, rfl⟩
                  rw [hP11] at c110 c111 c112 ⊢
                  clear A11 hw11 hP11
                  have c60 := (N11.cells P6 0 z6).trans c60
                  have c61 := (N11.cells P6 1 z6).trans c61
                  have c62 := (N11.cells P6 2 z6).trans c62
                  have c90 := (N11.cells P9 0 z9).trans c90
                  have c91 := (N11.cells P9 1 z9).trans c91
                  have c92 := (N11.cells P9 2 z9).trans c92
                  have K11 := Lib.hid (K10.out.trans N11)
                  clear N11
                  go_wp2
                  go_ret
                  exact ⟨rfl, K11.out⟩
end Lx
end Go.Proofs.YtlgkcjhoaecekaaDoor
