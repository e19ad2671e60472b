/-
  WALKS: package ast: is one statement what its kind is: let, set, call. Own work.
-/
import Derived.Test.YtbedcplkcaanhaaAsFits
namespace Go.Proofs.Ytbedcplkcaanhaa
namespace As
open Go.RowKit Go Rg Go.Shelf
set_option linter.unusedVariables false

set_option maxHeartbeats 4000000 in
set_option maxRecDepth 100000 in
theorem fits_1 (li t n : Int) (nm : List UInt8) (na ia ea ta la : Option Addr) (nn nc i ic e ec th tc el lc : Nat) (ek : Int) (an : Bool) (w : World) (hl : nm.length ≤ 1000000000000000000) (r : Bool) (hr : fB 1 t n nm nn i e th el ek an = r) :
    Calls Try.prog 119 #[.agg #[.int .i64 1, .int .i64 li, .int .i64 t, .int .i64 n, .string (bytesOf nm), .slice na nn nc, .slice ia i ic, .slice ea e ec, .slice ta th tc, .slice la el lc]] w fun r' w' => r' = .returned (.bool r) ∧ Below w.heap.size w w' := by
  have HL := Lib.hid hl
  have HR := Lib.hid hr
  clear hl hr
  have hN : (bytesOf nm).toList = nm := Lx.bytesOf_toList nm
  have hE : (ByteArray.mk #[]).toList = [] := Lx.bytesOf_toList []
  by_cases hc : n = 0 ∧ (nn : Int) = 0 ∧ (i : Int) = 0 ∧ (e : Int) = 1 ∧ (th : Int) = 0 ∧ (el : Int) = 0
  · have hq := sf_eq 1 t n (bytesOf nm) nn i e th el 1 t 0 (bytesOf nm) 0 0 1 0 0 true (by rw [hN]; simpa using hc)
    by_cases hnm : Lx.kindA nm = 1
    · have hr2 : Hid (decide (1 ≤ t ∧ t ≤ 4) = r) := Lib.hid (by rw [← HR.out]; simp [fB, hc, hnm])
      clear hc
      have HN1 : Hid (decide (Lx.kindA nm = 1) = true) := Lib.hid (by simp [hnm])
      clear hnm
      clear HR hN hE
      go_enter Try.func119, Try.ntmps119
      go_wp2_with (refine (fields_s _ _ _ _ _ _ _ _ _ _ _ _ _ _ _ _ _ _ _ _ _).mono ?_)
      rintro e' w2 ⟨rfl, b2⟩
      have B2 := Lib.hid (((Below.refl _ w).alloc (Nat.le_refl _) _).trans (b2.mono (by simp)))
      have c0 := new_in b2 (by simp) 0 _ rfl
      have c1 := new_in b2 (by simp) 1 _ rfl
      have c2 := new_in b2 (by simp) 2 _ rfl
      have c3 := new_in b2 (by simp) 3 _ rfl
      have c4 := new_in b2 (by simp) 4 _ rfl
      have c5 := new_in b2 (by simp) 5 _ rfl
      have c6 := new_in b2 (by simp) 6 _ rfl
      have c7 := new_in b2 (by simp) 7 _ rfl
      have c8 := new_in b2 (by simp) 8 _ rfl
      have c9 := new_in b2 (by simp) 9 _ rfl
      have z2 : w.heap.size < w2.heap.size := World.block_lt_of_cell? w2 _ c0
      clear b2
      go_wp2_with (refine (isName_any nm HL.out _ true HN1.out).mono ?_)
      rintro e' w3 ⟨rfl, b3⟩
      have B3 := Lib.hid ((B2.out.trans ((Below.refl w.heap.size w2).alloc (by omega) _)).trans (b3.mono (by simp; omega)))
      have c2' : w3.cell? ⟨w.heap.size, 2, none⟩ = some (.int .i64 t) := (b3.cell (p := ⟨w.heap.size, 2, none⟩) (by simp; omega)).trans ((((Below.refl w2.heap.size w2).alloc (Nat.le_refl _) _).cell z2).trans c2)
      clear b3
      go_wp2_with (refine (isType_any t _).mono ?_)
      rintro e' w4 ⟨rfl, rfl⟩
      rw [hr2.out]
      go_wp2
      go_ret
      exact ⟨rfl, B3.out⟩
    · have hr2 : Hid (r = false) := Lib.hid (by rw [← HR.out]; simp [fB, hnm])
      clear hc
      have HN1 : Hid (decide (Lx.kindA nm = 1) = false) := Lib.hid (by simp [hnm])
      clear hnm
      clear HR hN hE
      go_enter Try.func119, Try.ntmps119
      go_wp2_with (refine (fields_s _ _ _ _ _ _ _ _ _ _ _ _ _ _ _ _ _ _ _ _ _).mono ?_)
      rintro e' w2 ⟨rfl, b2⟩
      have B2 := Lib.hid (((Below.refl _ w).alloc (Nat.le_refl _) _).trans (b2.mono (by simp)))
      have c0 := new_in b2 (by simp) 0 _ rfl
      have c1 := new_in b2 (by simp) 1 _ rfl
      have c2 := new_in b2 (by simp) 2 _ rfl
      have c3 := new_in b2 (by simp) 3 _ rfl
      have c4 := new_in b2 (by simp) 4 _ rfl
      have c5 := new_in b2 (by simp) 5 _ rfl
      have c6 := new_in b2 (by simp) 6 _ rfl
      have c7 := new_in b2 (by simp) 7 _ rfl
      have c8 := new_in b2 (by simp) 8 _ rfl
      have c9 := new_in b2 (by simp) 9 _ rfl
      have z2 : w.heap.size < w2.heap.size := World.block_lt_of_cell? w2 _ c0
      clear b2
      go_wp2_with (refine (isName_any nm HL.out _ false HN1.out).mono ?_)
      rintro e' w3 ⟨rfl, b3⟩
      have B3 := Lib.hid ((B2.out.trans ((Below.refl w.heap.size w2).alloc (by omega) _)).trans (b3.mono (by simp; omega)))
      clear b3
      go_wp2
      go_ret
      exact ⟨by rw [hr2.out]; rfl, B3.out⟩
  · have hq := sf_eq 1 t n (bytesOf nm) nn i e th el 1 t 0 (bytesOf nm) 0 0 1 0 0 false (by rw [hN]; simpa using hc)
    have hr2 : Hid (r = false) := Lib.hid (by rw [← HR.out]; simp [fB]; try (intros; simp_all))
    clear hc
    clear HR hN hE
    go_enter Try.func119, Try.ntmps119
    go_wp2_with (refine (fields_s _ _ _ _ _ _ _ _ _ _ _ _ _ _ _ _ _ _ _ _ _).mono ?_)
    rintro e' w2 ⟨rfl, b2⟩
    have B2 := Lib.hid (((Below.refl _ w).alloc (Nat.le_refl _) _).trans (b2.mono (by simp)))
    have c0 := new_in b2 (by simp) 0 _ rfl
    have c1 := new_in b2 (by simp) 1 _ rfl
    have c2 := new_in b2 (by simp) 2 _ rfl
    have c3 := new_in b2 (by simp) 3 _ rfl
    have c4 := new_in b2 (by simp) 4 _ rfl
    have c5 := new_in b2 (by simp) 5 _ rfl
    have c6 := new_in b2 (by simp) 6 _ rfl
    have c7 := new_in b2 (by simp) 7 _ rfl
    have c8 := new_in b2 (by simp) 8 _ rfl
    have c9 := new_in b2 (by simp) 9 _ rfl
    have z2 : w.heap.size < w2.heap.size := World.block_lt_of_cell? w2 _ c0
    clear b2
    go_wp2
    go_ret
    exact ⟨by rw [hr2.out]; rfl, B2.out.trans ((Below.refl w.heap.size w2).alloc (by omega) _)⟩
set_option maxHeartbeats 4000000 in
set_option maxRecDepth 100000 in
theorem fits_2 (li t n : Int) (nm : List UInt8) (na ia ea ta la : Option Addr) (nn nc i ic e ec th tc el lc : Nat) (ek : Int) (an : Bool) (w : World) (hl : nm.length ≤ 1000000000000000000) (r : Bool) (hr : fB 2 t n nm nn i e th el ek an = r) :
    Calls Try.prog 119 #[.agg #[.int .i64 2, .int .i64 li, .int .i64 t, .int .i64 n, .string (bytesOf nm), .slice na nn nc, .slice ia i ic, .slice ea e ec, .slice ta th tc, .slice la el lc]] w fun r' w' => r' = .returned (.bool r) ∧ Below w.heap.size w w' := by
  have HL := Lib.hid hl
  have HR := Lib.hid hr
  clear hl hr
  have hN : (bytesOf nm).toList = nm := Lx.bytesOf_toList nm
  have hE : (ByteArray.mk #[]).toList = [] := Lx.bytesOf_toList []
  by_cases hc : t = 0 ∧ n = 0 ∧ (nn : Int) = 0 ∧ (e : Int) = 1 ∧ (th : Int) = 0 ∧ (el : Int) = 0
  · have hq := sf_eq 2 t n (bytesOf nm) nn i e th el 2 0 0 (bytesOf nm) 0 i 1 0 0 true (by rw [hN]; simpa using hc)
    by_cases hnm : Lx.kindA nm = 1
    · have hr2 : Hid (decide ((i : Int) ≤ 1) = r) := Lib.hid (by rw [← HR.out]; simp [fB, hc, hnm])
      clear hc
      have HN1 : Hid (decide (Lx.kindA nm = 1) = true) := Lib.hid (by simp [hnm])
      clear hnm
      clear HR hN hE
      go_enter Try.func119, Try.ntmps119
      go_wp2_with (refine (fields_s _ _ _ _ _ _ _ _ _ _ _ _ _ _ _ _ _ _ _ _ _).mono ?_)
      rintro e' w2 ⟨rfl, b2⟩
      have B2 := Lib.hid (((Below.refl _ w).alloc (Nat.le_refl _) _).trans (b2.mono (by simp)))
      have c0 := new_in b2 (by simp) 0 _ rfl
      have c1 := new_in b2 (by simp) 1 _ rfl
      have c2 := new_in b2 (by simp) 2 _ rfl
      have c3 := new_in b2 (by simp) 3 _ rfl
      have c4 := new_in b2 (by simp) 4 _ rfl
      have c5 := new_in b2 (by simp) 5 _ rfl
      have c6 := new_in b2 (by simp) 6 _ rfl
      have c7 := new_in b2 (by simp) 7 _ rfl
      have c8 := new_in b2 (by simp) 8 _ rfl
      have c9 := new_in b2 (by simp) 9 _ rfl
      have z2 : w.heap.size < w2.heap.size := World.block_lt_of_cell? w2 _ c0
      clear b2
      go_wp2_with (refine (isName_any nm HL.out _ true HN1.out).mono ?_)
      rintro e' w3 ⟨rfl, b3⟩
      have B3 := Lib.hid ((B2.out.trans ((Below.refl w.heap.size w2).alloc (by omega) _)).trans (b3.mono (by simp; omega)))
      have k3 : w3.cell? ⟨w2.heap.size, 5, none⟩ = some (.int .i64 i) := new_in b3 (by simp) 5 _ rfl
      clear b3
      go_wp2
      go_ret
      exact ⟨by rw [← hr2.out]; rfl, B3.out⟩
    · have hr2 : Hid (r = false) := Lib.hid (by rw [← HR.out]; simp [fB, hnm])
      clear hc
      have HN1 : Hid (decide (Lx.kindA nm = 1) = false) := Lib.hid (by simp [hnm])
      clear hnm
      clear HR hN hE
      go_enter Try.func119, Try.ntmps119
      go_wp2_with (refine (fields_s _ _ _ _ _ _ _ _ _ _ _ _ _ _ _ _ _ _ _ _ _).mono ?_)
      rintro e' w2 ⟨rfl, b2⟩
      have B2 := Lib.hid (((Below.refl _ w).alloc (Nat.le_refl _) _).trans (b2.mono (by simp)))
      have c0 := new_in b2 (by simp) 0 _ rfl
      have c1 := new_in b2 (by simp) 1 _ rfl
      have c2 := new_in b2 (by simp) 2 _ rfl
      have c3 := new_in b2 (by simp) 3 _ rfl
      have c4 := new_in b2 (by simp) 4 _ rfl
      have c5 := new_in b2 (by simp) 5 _ rfl
      have c6 := new_in b2 (by simp) 6 _ rfl
      have c7 := new_in b2 (by simp) 7 _ rfl
      have c8 := new_in b2 (by simp) 8 _ rfl
      have c9 := new_in b2 (by simp) 9 _ rfl
      have z2 : w.heap.size < w2.heap.size := World.block_lt_of_cell? w2 _ c0
      clear b2
      go_wp2_with (refine (isName_any nm HL.out _ false HN1.out).mono ?_)
      rintro e' w3 ⟨rfl, b3⟩
      have B3 := Lib.hid ((B2.out.trans ((Below.refl w.heap.size w2).alloc (by omega) _)).trans (b3.mono (by simp; omega)))
      clear b3
      go_wp2
      go_ret
      exact ⟨by rw [hr2.out]; rfl, B3.out⟩
  · have hq := sf_eq 2 t n (bytesOf nm) nn i e th el 2 0 0 (bytesOf nm) 0 i 1 0 0 false (by rw [hN]; simpa using hc)
    have hr2 : Hid (r = false) := Lib.hid (by rw [← HR.out]; simp [fB]; try (intros; simp_all))
    clear hc
    clear HR hN hE
    go_enter Try.func119, Try.ntmps119
    go_wp2_with (refine (fields_s _ _ _ _ _ _ _ _ _ _ _ _ _ _ _ _ _ _ _ _ _).mono ?_)
    rintro e' w2 ⟨rfl, b2⟩
    have B2 := Lib.hid (((Below.refl _ w).alloc (Nat.le_refl _) _).trans (b2.mono (by simp)))
    have c0 := new_in b2 (by simp) 0 _ rfl
    have c1 := new_in b2 (by simp) 1 _ rfl
    have c2 := new_in b2 (by simp) 2 _ rfl
    have c3 := new_in b2 (by simp) 3 _ rfl
    have c4 := new_in b2 (by simp) 4 _ rfl
    have c5 := new_in b2 (by simp) 5 _ rfl
    have c6 := new_in b2 (by simp) 6 _ rfl
    have c7 := new_in b2 (by simp) 7 _ rfl
    have c8 := new_in b2 (by simp) 8 _ rfl
    have c9 := new_in b2 (by simp) 9 _ rfl
    have z2 : w.heap.size < w2.heap.size := World.block_lt_of_cell? w2 _ c0
    clear b2
    go_wp2
    go_ret
    exact ⟨by rw [hr2.out]; rfl, B2.out.trans ((Below.refl w.heap.size w2).alloc (by omega) _)⟩
set_option maxHeartbeats 4000000 in
set_option maxRecDepth 100000 in
theorem fits_3 (li t n : Int) (nm : List UInt8) (na ia ea ta la : Option Addr) (nn nc i ic e ec th tc el lc : Nat) (ek : Int) (an : Bool) (w : World) (hl : nm.length ≤ 1000000000000000000) (r : Bool) (hr : fB 3 t n nm nn i e th el ek an = r)
    (hx : (e : Int) = 1 → ∃ b off, ea = some ⟨b, off, none⟩ ∧ b < w.heap.size ∧ w.cell? ⟨b, off, none⟩ = some (.int .i64 ek)) :
    Calls Try.prog 119 #[.agg #[.int .i64 3, .int .i64 li, .int .i64 t, .int .i64 n, .string (bytesOf nm), .slice na nn nc, .slice ia i ic, .slice ea e ec, .slice ta th tc, .slice la el lc]] w fun r' w' => r' = .returned (.bool r) ∧ Below w.heap.size w w' := by
  have HL := Lib.hid hl
  have HR := Lib.hid hr
  clear hl hr
  have hN : (bytesOf nm).toList = nm := Lx.bytesOf_toList nm
  have hE : (ByteArray.mk #[]).toList = [] := Lx.bytesOf_toList []
  by_cases hc : t = 0 ∧ n = 0 ∧ nm = [] ∧ (nn : Int) = 0 ∧ (i : Int) = 0 ∧ (e : Int) = 1 ∧ (th : Int) = 0 ∧ (el : Int) = 0
  · have hq := sf_eq 3 t n (bytesOf nm) nn i e th el 3 0 0 (ByteArray.mk #[]) 0 0 1 0 0 true (by rw [hN, hE]; simpa using hc)
    have hr2 : Hid (decide (ek = 4) = r) := Lib.hid (by rw [← HR.out]; simp [fB, hc])
    have he1 : 0 < e := by omega
    have he2 : (0 : Int) < (e : Int) := by omega
    obtain ⟨b, off, rfl, hzb, hxc⟩ := hx (by omega)
    clear hc hx
    clear HR hN hE
    go_enter Try.func119, Try.ntmps119
    go_wp2_with (refine (fields_s _ _ _ _ _ _ _ _ _ _ _ _ _ _ _ _ _ _ _ _ _).mono ?_)
    rintro e' w2 ⟨rfl, b2⟩
    have B2 := Lib.hid (((Below.refl _ w).alloc (Nat.le_refl _) _).trans (b2.mono (by simp)))
    have c0 := new_in b2 (by simp) 0 _ rfl
    have c1 := new_in b2 (by simp) 1 _ rfl
    have c2 := new_in b2 (by simp) 2 _ rfl
    have c3 := new_in b2 (by simp) 3 _ rfl
    have c4 := new_in b2 (by simp) 4 _ rfl
    have c5 := new_in b2 (by simp) 5 _ rfl
    have c6 := new_in b2 (by simp) 6 _ rfl
    have c7 := new_in b2 (by simp) 7 _ rfl
    have c8 := new_in b2 (by simp) 8 _ rfl
    have c9 := new_in b2 (by simp) 9 _ rfl
    have xc : w2.cell? ⟨b, off, none⟩ = some (.int .i64 ek) := (B2.out.cell (p := ⟨b, off, none⟩) hzb).trans hxc
    have xz : b < w2.heap.size := Nat.lt_of_lt_of_le hzb B2.out.size
    have z2 : w.heap.size < w2.heap.size := World.block_lt_of_cell? w2 _ c0
    clear b2
    go_wp2
    go_ret
    exact ⟨by rw [← hr2.out]; rfl, B2.out.trans ((Below.refl w.heap.size w2).alloc (by omega) _)⟩
  · clear hx
    have hq := sf_eq 3 t n (bytesOf nm) nn i e th el 3 0 0 (ByteArray.mk #[]) 0 0 1 0 0 false (by rw [hN, hE]; simpa using hc)
    have hr2 : Hid (r = false) := Lib.hid (by rw [← HR.out]; simp [fB]; try (intros; simp_all))
    clear hc
    clear HR hN hE
    go_enter Try.func119, Try.ntmps119
    go_wp2_with (refine (fields_s _ _ _ _ _ _ _ _ _ _ _ _ _ _ _ _ _ _ _ _ _).mono ?_)
    rintro e' w2 ⟨rfl, b2⟩
    have B2 := Lib.hid (((Below.refl _ w).alloc (Nat.le_refl _) _).trans (b2.mono (by simp)))
    have c0 := new_in b2 (by simp) 0 _ rfl
    have c1 := new_in b2 (by simp) 1 _ rfl
    have c2 := new_in b2 (by simp) 2 _ rfl
    have c3 := new_in b2 (by simp) 3 _ rfl
    have c4 := new_in b2 (by simp) 4 _ rfl
    have c5 := new_in b2 (by simp) 5 _ rfl
    have c6 := new_in b2 (by simp) 6 _ rfl
    have c7 := new_in b2 (by simp) 7 _ rfl
    have c8 := new_in b2 (by simp) 8 _ rfl
    have c9 := new_in b2 (by simp) 9 _ rfl
    have z2 : w.heap.size < w2.heap.size := World.block_lt_of_cell? w2 _ c0
    clear b2
    go_wp2
    go_ret
    exact ⟨by rw [hr2.out]; rfl, B2.out.trans ((Below.refl w.heap.size w2).alloc (by omega) _)⟩
end As
end Go.Proofs.Ytbedcplkcaanhaa
