/-
  WALKS: package ast: is one statement what its kind is: enable, disable, level. Own work.
-/
import Derived.Test.YtbedcplkcaanhaaAsFits
namespace Go.Proofs.Ytbedcplkcaanhaa
namespace As
open Go.RowKit Go Rg Go.Shelf
set_option linter.unusedVariables false

set_option maxHeartbeats 4000000 in
set_option maxRecDepth 100000 in
theorem fits_7 (li t n : Int) (nm : List UInt8) (na ia ea ta la : Option Addr) (nn nc i ic e ec th tc el lc : Nat) (ek : Int) (an : Bool) (w : World) (hl : nm.length ≤ 1000000000000000000) (r : Bool) (hr : fB 7 t n nm nn i e th el ek an = r) :
    Calls Try.prog 119 #[.agg #[.int .i64 7, .int .i64 li, .int .i64 t, .int .i64 n, .string (bytesOf nm), .slice na nn nc, .slice ia i ic, .slice ea e ec, .slice ta th tc, .slice la el lc]] w fun r' w' => r' = .returned (.bool r) ∧ Below w.heap.size w w' := by
  have HL := Lib.hid hl
  have HR := Lib.hid hr
  clear hl hr
  have hN : (bytesOf nm).toList = nm := Lx.bytesOf_toList nm
  have hE : (ByteArray.mk #[]).toList = [] := Lx.bytesOf_toList []
  by_cases hc : t = 0 ∧ nm = [] ∧ (nn : Int) = 0 ∧ (i : Int) = 0 ∧ (e : Int) = 0 ∧ (th : Int) = 0 ∧ (el : Int) = 0
  · have hq := sf_eq 7 t n (bytesOf nm) nn i e th el 7 0 n (ByteArray.mk #[]) 0 0 0 0 0 true (by rw [hN, hE]; simpa using hc)
    have hr2 : Hid (decide (0 ≤ n ∧ n < 32) = r) := Lib.hid (by rw [← HR.out]; simp [fB, hc])
    clear hc
    by_cases h0 : 0 ≤ n
    · have hr3 : Hid (decide (n < 32) = r) := Lib.hid (by rw [← hr2.out]; simp [h0])
      clear hr2
      clear HR hN hE
      go_enter Try.func119, Try.ntmps119
      go_wp2_with (refine (fields_s _ _ _ _ _ _ _ _ _ _ _ _ _ _ _ _ _ _ _ _ _).mono ?_)
      rintro e' w2 ⟨rfl, b2⟩
      have B2 := Lib.hid (((Below.refl _ w).alloc (Nat.le_refl _) _).trans (b2.mono (by simp)))
      have c0 := new_in b2 (by simp) 0 _ rfl
      have c1 := new_in b2 (by simp) 1 _ rfl
      have c2 := new_in b2 (by simp) 2 _ rfl
      have c3 := new_in b2 (by simp) 3 _ rfl
      have c4 := new_in b2 (by simp) 4 _ rfl
      have c5 := new_in b2 (by simp) 5 _ rfl
      have c6 := new_in b2 (by simp) 6 _ rfl
      have c7 := new_in b2 (by simp) 7 _ rfl
      have c8 := new_in b2 (by simp) 8 _ rfl
      have c9 := new_in b2 (by simp) 9 _ rfl
      have z2 : w.heap.size < w2.heap.size := World.block_lt_of_cell? w2 _ c0
      clear b2
      go_wp2
      go_ret
      exact ⟨by rw [← hr3.out]; rfl, B2.out.trans ((Below.refl w.heap.size w2).alloc (by omega) _)⟩
    · have hr3 : Hid (r = false) := Lib.hid (by rw [← hr2.out]; simp; omega)
      have h0' : n < 0 := by omega
      clear hr2 h0
      clear HR hN hE
      go_enter Try.func119, Try.ntmps119
      go_wp2_with (refine (fields_s _ _ _ _ _ _ _ _ _ _ _ _ _ _ _ _ _ _ _ _ _).mono ?_)
      rintro e' w2 ⟨rfl, b2⟩
      have B2 := Lib.hid (((Below.refl _ w).alloc (Nat.le_refl _) _).trans (b2.mono (by simp)))
      have c0 := new_in b2 (by simp) 0 _ rfl
      have c1 := new_in b2 (by simp) 1 _ rfl
      have c2 := new_in b2 (by simp) 2 _ rfl
      have c3 := new_in b2 (by simp) 3 _ rfl
      have c4 := new_in b2 (by simp) 4 _ rfl
      have c5 := new_in b2 (by simp) 5 _ rfl
      have c6 := new_in b2 (by simp) 6 _ rfl
      have c7 := new_in b2 (by simp) 7 _ rfl
      have c8 := new_in b2 (by simp) 8 _ rfl
      have c9 := new_in b2 (by simp) 9 _ rfl
      have z2 : w.heap.size < w2.heap.size := World.block_lt_of_cell? w2 _ c0
      clear b2
      go_wp2
      go_ret
      exact ⟨by rw [hr3.out]; rfl, B2.out.trans ((Below.refl w.heap.size w2).alloc (by omega) _)⟩
  · have hq := sf_eq 7 t n (bytesOf nm) nn i e th el 7 0 n (ByteArray.mk #[]) 0 0 0 0 0 false (by rw [hN, hE]; simpa using hc)
    have hr2 : Hid (r = false) := Lib.hid (by rw [← HR.out]; simp [fB]; try (intros; simp_all))
    clear hc
    clear HR hN hE
    go_enter Try.func119, Try.ntmps119
    go_wp2_with (refine (fields_s _ _ _ _ _ _ _ _ _ _ _ _ _ _ _ _ _ _ _ _ _).mono ?_)
    rintro e' w2 ⟨rfl, b2⟩
    have B2 := Lib.hid (((Below.refl _ w).alloc (Nat.le_refl _) _).trans (b2.mono (by simp)))
    have c0 := new_in b2 (by simp) 0 _ rfl
    have c1 := new_in b2 (by simp) 1 _ rfl
    have c2 := new_in b2 (by simp) 2 _ rfl
    have c3 := new_in b2 (by simp) 3 _ rfl
    have c4 := new_in b2 (by simp) 4 _ rfl
    have c5 := new_in b2 (by simp) 5 _ rfl
    have c6 := new_in b2 (by simp) 6 _ rfl
    have c7 := new_in b2 (by simp) 7 _ rfl
    have c8 := new_in b2 (by simp) 8 _ rfl
    have c9 := new_in b2 (by simp) 9 _ rfl
    have z2 : w.heap.size < w2.heap.size := World.block_lt_of_cell? w2 _ c0
    clear b2
    go_wp2
    go_ret
    exact ⟨by rw [hr2.out]; rfl, B2.out.trans ((Below.refl w.heap.size w2).alloc (by omega) _)⟩
set_option maxHeartbeats 4000000 in
set_option maxRecDepth 100000 in
theorem fits_8 (li t n : Int) (nm : List UInt8) (na ia ea ta la : Option Addr) (nn nc i ic e ec th tc el lc : Nat) (ek : Int) (an : Bool) (w : World) (hl : nm.length ≤ 1000000000000000000) (r : Bool) (hr : fB 8 t n nm nn i e th el ek an = r) :
    Calls Try.prog 119 #[.agg #[.int .i64 8, .int .i64 li, .int .i64 t, .int .i64 n, .string (bytesOf nm), .slice na nn nc, .slice ia i ic, .slice ea e ec, .slice ta th tc, .slice la el lc]] w fun r' w' => r' = .returned (.bool r) ∧ Below w.heap.size w w' := by
  have HL := Lib.hid hl
  have HR := Lib.hid hr
  clear hl hr
  have hN : (bytesOf nm).toList = nm := Lx.bytesOf_toList nm
  have hE : (ByteArray.mk #[]).toList = [] := Lx.bytesOf_toList []
  by_cases hc : t = 0 ∧ nm = [] ∧ (nn : Int) = 0 ∧ (i : Int) = 0 ∧ (e : Int) = 0 ∧ (th : Int) = 0 ∧ (el : Int) = 0
  · have hq := sf_eq 8 t n (bytesOf nm) nn i e th el 8 0 n (ByteArray.mk #[]) 0 0 0 0 0 true (by rw [hN, hE]; simpa using hc)
    have hr2 : Hid (decide (0 ≤ n ∧ n < 32) = r) := Lib.hid (by rw [← HR.out]; simp [fB, hc])
    clear hc
    by_cases h0 : 0 ≤ n
    · have hr3 : Hid (decide (n < 32) = r) := Lib.hid (by rw [← hr2.out]; simp [h0])
      clear hr2
      clear HR hN hE
      go_enter Try.func119, Try.ntmps119
      go_wp2_with (refine (fields_s _ _ _ _ _ _ _ _ _ _ _ _ _ _ _ _ _ _ _ _ _).mono ?_)
      rintro e' w2 ⟨rfl, b2⟩
      have B2 := Lib.hid (((Below.refl _ w).alloc (Nat.le_refl _) _).trans (b2.mono (by simp)))
      have c0 := new_in b2 (by simp) 0 _ rfl
      have c1 := new_in b2 (by simp) 1 _ rfl
      have c2 := new_in b2 (by simp) 2 _ rfl
      have c3 := new_in b2 (by simp) 3 _ rfl
      have c4 := new_in b2 (by simp) 4 _ rfl
      have c5 := new_in b2 (by simp) 5 _ rfl
      have c6 := new_in b2 (by simp) 6 _ rfl
      have c7 := new_in b2 (by simp) 7 _ rfl
      have c8 := new_in b2 (by simp) 8 _ rfl
      have c9 := new_in b2 (by simp) 9 _ rfl
      have z2 : w.heap.size < w2.heap.size := World.block_lt_of_cell? w2 _ c0
      clear b2
      go_wp2
      go_ret
      exact ⟨by rw [← hr3.out]; rfl, B2.out.trans ((Below.refl w.heap.size w2).alloc (by omega) _)⟩
    · have hr3 : Hid (r = false) := Lib.hid (by rw [← hr2.out]; simp; omega)
      have h0' : n < 0 := by omega
      clear hr2 h0
      clear HR hN hE
      go_enter Try.func119, Try.ntmps119
      go_wp2_with (refine (fields_s _ _ _ _ _ _ _ _ _ _ _ _ _ _ _ _ _ _ _ _ _).mono ?_)
      rintro e' w2 ⟨rfl, b2⟩
      have B2 := Lib.hid (((Below.refl _ w).alloc (Nat.le_refl _) _).trans (b2.mono (by simp)))
      have c0 := new_in b2 (by simp) 0 _ rfl
      have c1 := new_in b2 (by simp) 1 _ rfl
      have c2 := new_in b2 (by simp) 2 _ rfl
      have c3 := new_in b2 (by simp) 3 _ rfl
      have c4 := new_in b2 (by simp) 4 _ rfl
      have c5 := new_in b2 (by simp) 5 _ rfl
      have c6 := new_in b2 (by simp) 6 _ rfl
      have c7 := new_in b2 (by simp) 7 _ rfl
      have c8 := new_in b2 (by simp) 8 _ rfl
      have c9 := new_in b2 (by simp) 9 _ rfl
      have z2 : w.heap.size < w2.heap.size := World.block_lt_of_cell? w2 _ c0
      clear b2
      go_wp2
      go_ret
      exact ⟨by rw [hr3.out]; rfl, B2.out.trans ((Below.refl w.heap.size w2).alloc (by omega) _)⟩
  · have hq := sf_eq 8 t n (bytesOf nm) nn i e th el 8 0 n (ByteArray.mk #[]) 0 0 0 0 0 false (by rw [hN, hE]; simpa using hc)
    have hr2 : Hid (r = false) := Lib.hid (by rw [← HR.out]; simp [fB]; try (intros; simp_all))
    clear hc
    clear HR hN hE
    go_enter Try.func119, Try.ntmps119
    go_wp2_with (refine (fields_s _ _ _ _ _ _ _ _ _ _ _ _ _ _ _ _ _ _ _ _ _).mono ?_)
    rintro e' w2 ⟨rfl, b2⟩
    have B2 := Lib.hid (((Below.refl _ w).alloc (Nat.le_refl _) _).trans (b2.mono (by simp)))
    have c0 := new_in b2 (by simp) 0 _ rfl
    have c1 := new_in b2 (by simp) 1 _ rfl
    have c2 := new_in b2 (by simp) 2 _ rfl
    have c3 := new_in b2 (by simp) 3 _ rfl
    have c4 := new_in b2 (by simp) 4 _ rfl
    have c5 := new_in b2 (by simp) 5 _ rfl
    have c6 := new_in b2 (by simp) 6 _ rfl
    have c7 := new_in b2 (by simp) 7 _ rfl
    have c8 := new_in b2 (by simp) 8 _ rfl
    have c9 := new_in b2 (by simp) 9 _ rfl
    have z2 : w.heap.size < w2.heap.size := World.block_lt_of_cell? w2 _ c0
    clear b2
    go_wp2
    go_ret
    exact ⟨by rw [hr2.out]; rfl, B2.out.trans ((Below.refl w.heap.size w2).alloc (by omega) _)⟩
set_option maxHeartbeats 4000000 in
set_option maxRecDepth 100000 in
theorem fits_9 (li t n : Int) (nm : List UInt8) (na ia ea ta la : Option Addr) (nn nc i ic e ec th tc el lc : Nat) (ek : Int) (an : Bool) (w : World) (hl : nm.length ≤ 1000000000000000000) (r : Bool) (hr : fB 9 t n nm nn i e th el ek an = r) :
    Calls Try.prog 119 #[.agg #[.int .i64 9, .int .i64 li, .int .i64 t, .int .i64 n, .string (bytesOf nm), .slice na nn nc, .slice ia i ic, .slice ea e ec, .slice ta th tc, .slice la el lc]] w fun r' w' => r' = .returned (.bool r) ∧ Below w.heap.size w w' := by
  have HL := Lib.hid hl
  have HR := Lib.hid hr
  clear hl hr
  have hN : (bytesOf nm).toList = nm := Lx.bytesOf_toList nm
  have hE : (ByteArray.mk #[]).toList = [] := Lx.bytesOf_toList []
  by_cases hc : t = 0 ∧ nm = [] ∧ (nn : Int) = 0 ∧ (i : Int) = 0 ∧ (e : Int) = 0 ∧ (th : Int) = 0 ∧ (el : Int) = 0
  · have hq := sf_eq 9 t n (bytesOf nm) nn i e th el 9 0 n (ByteArray.mk #[]) 0 0 0 0 0 true (by rw [hN, hE]; simpa using hc)
    have hr2 : Hid (decide (0 ≤ n ∧ n ≤ 15) = r) := Lib.hid (by rw [← HR.out]; simp [fB, hc])
    clear hc
    by_cases h0 : 0 ≤ n
    · have hr3 : Hid (decide (n ≤ 15) = r) := Lib.hid (by rw [← hr2.out]; simp [h0])
      clear hr2
      clear HR hN hE
      go_enter Try.func119, Try.ntmps119
      go_wp2_with (refine (fields_s _ _ _ _ _ _ _ _ _ _ _ _ _ _ _ _ _ _ _ _ _).mono ?_)
      rintro e' w2 ⟨rfl, b2⟩
      have B2 := Lib.hid (((Below.refl _ w).alloc (Nat.le_refl _) _).trans (b2.mono (by simp)))
      have c0 := new_in b2 (by simp) 0 _ rfl
      have c1 := new_in b2 (by simp) 1 _ rfl
      have c2 := new_in b2 (by simp) 2 _ rfl
      have c3 := new_in b2 (by simp) 3 _ rfl
      have c4 := new_in b2 (by simp) 4 _ rfl
      have c5 := new_in b2 (by simp) 5 _ rfl
      have c6 := new_in b2 (by simp) 6 _ rfl
      have c7 := new_in b2 (by simp) 7 _ rfl
      have c8 := new_in b2 (by simp) 8 _ rfl
      have c9 := new_in b2 (by simp) 9 _ rfl
      have z2 : w.heap.size < w2.heap.size := World.block_lt_of_cell? w2 _ c0
      clear b2
      go_wp2
      go_ret
      exact ⟨by rw [← hr3.out]; rfl, B2.out.trans ((Below.refl w.heap.size w2).alloc (by omega) _)⟩
    · have hr3 : Hid (r = false) := Lib.hid (by rw [← hr2.out]; simp; omega)
      have h0' : n < 0 := by omega
      clear hr2 h0
      clear HR hN hE
      go_enter Try.func119, Try.ntmps119
      go_wp2_with (refine (fields_s _ _ _ _ _ _ _ _ _ _ _ _ _ _ _ _ _ _ _ _ _).mono ?_)
      rintro e' w2 ⟨rfl, b2⟩
      have B2 := Lib.hid (((Below.refl _ w).alloc (Nat.le_refl _) _).trans (b2.mono (by simp)))
      have c0 := new_in b2 (by simp) 0 _ rfl
      have c1 := new_in b2 (by simp) 1 _ rfl
      have c2 := new_in b2 (by simp) 2 _ rfl
      have c3 := new_in b2 (by simp) 3 _ rfl
      have c4 := new_in b2 (by simp) 4 _ rfl
      have c5 := new_in b2 (by simp) 5 _ rfl
      have c6 := new_in b2 (by simp) 6 _ rfl
      have c7 := new_in b2 (by simp) 7 _ rfl
      have c8 := new_in b2 (by simp) 8 _ rfl
      have c9 := new_in b2 (by simp) 9 _ rfl
      have z2 : w.heap.size < w2.heap.size := World.block_lt_of_cell? w2 _ c0
      clear b2
      go_wp2
      go_ret
      exact ⟨by rw [hr3.out]; rfl, B2.out.trans ((Below.refl w.heap.size w2).alloc (by omega) _)⟩
  · have hq := sf_eq 9 t n (bytesOf nm) nn i e th el 9 0 n (ByteArray.mk #[]) 0 0 0 0 0 false (by rw [hN, hE]; simpa using hc)
    have hr2 : Hid (r = false) := Lib.hid (by rw [← HR.out]; simp [fB]; try (intros; simp_all))
    clear hc
    clear HR hN hE
    go_enter Try.func119, Try.ntmps119
    go_wp2_with (refine (fields_s _ _ _ _ _ _ _ _ _ _ _ _ _ _ _ _ _ _ _ _ _).mono ?_)
    rintro e' w2 ⟨rfl, b2⟩
    have B2 := Lib.hid (((Below.refl _ w).alloc (Nat.le_refl _) _).trans (b2.mono (by simp)))
    have c0 := new_in b2 (by simp) 0 _ rfl
    have c1 := new_in b2 (by simp) 1 _ rfl
    have c2 := new_in b2 (by simp) 2 _ rfl
    have c3 := new_in b2 (by simp) 3 _ rfl
    have c4 := new_in b2 (by simp) 4 _ rfl
    have c5 := new_in b2 (by simp) 5 _ rfl
    have c6 := new_in b2 (by simp) 6 _ rfl
    have c7 := new_in b2 (by simp) 7 _ rfl
    have c8 := new_in b2 (by simp) 8 _ rfl
    have c9 := new_in b2 (by simp) 9 _ rfl
    have z2 : w.heap.size < w2.heap.size := World.block_lt_of_cell? w2 _ c0
    clear b2
    go_wp2
    go_ret
    exact ⟨by rw [hr2.out]; rfl, B2.out.trans ((Below.refl w.heap.size w2).alloc (by omega) _)⟩
end As
end Go.Proofs.Ytbedcplkcaanhaa
