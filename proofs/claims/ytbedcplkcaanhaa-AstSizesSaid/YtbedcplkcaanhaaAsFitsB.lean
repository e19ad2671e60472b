/-
  WALKS: package ast: is one statement what its kind is: if, while, return. Own work.
-/
import Derived.Test.YtbedcplkcaanhaaAsFits
namespace Go.Proofs.Ytbedcplkcaanhaa
namespace As
open Go.RowKit Go Rg Go.Shelf
set_option linter.unusedVariables false

set_option maxHeartbeats 4000000 in
set_option maxRecDepth 100000 in
theorem fits_4 (li t n : Int) (nm : List UInt8) (na ia ea ta la : Option Addr) (nn nc i ic e ec th tc el lc : Nat) (ek : Int) (an : Bool) (w : World) (hl : nm.length ≤ 1000000000000000000) (r : Bool) (hr : fB 4 t n nm nn i e th el ek an = r) :
    Calls Try.prog 119 #[.agg #[.int .i64 4, .int .i64 li, .int .i64 t, .int .i64 n, .string (bytesOf nm), .slice na nn nc, .slice ia i ic, .slice ea e ec, .slice ta th tc, .slice la el lc]] w fun r' w' => r' = .returned (.bool r) ∧ Below w.heap.size w w' := by
  have HL := Lib.hid hl
  have HR := Lib.hid hr
  clear hl hr
  have hN : (bytesOf nm).toList = nm := Lx.bytesOf_toList nm
  have hE : (ByteArray.mk #[]).toList = [] := Lx.bytesOf_toList []
  by_cases hc : t = 0 ∧ n = 0 ∧ nm = [] ∧ (nn : Int) = 0 ∧ (i : Int) = 0 ∧ (e : Int) = 1

  · have hq := sf_eq 4 t n (bytesOf nm) nn i e th el 4 0 0 (ByteArray.mk #[]) 0 0 1 th el true (by rw [hN, hE]; simpa using hc)
    have hr2 : Hid (r = true) := Lib.hid (by rw [← HR.out]; simp [fB, hc])
    clear hc
    clear HR hN hE
    go_enter Try.func119, Try.ntmps119
    go_wp2_with (refine (fields_s _ _ _ _ _ _ _ _ _ _ _ _ _ _ _ _ _ _ _ _ _).mono ?_)
    rintro e' w2 ⟨rfl, b2⟩
    have B2 := Lib.hid (((Below.refl _ w).alloc (Nat.le_refl _) _).trans (b2.mono (by simp)))
    have c0 := new_in b2 (by simp) 0 _ rfl
    have c1 := new_in b2 (by simp) 1 _ rfl
    have c2 := new_in b2 (by simp) 2 _ rfl
    have c3 := new_in b2 (by simp) 3 _ rfl
    have c4 := new_in b2 (by simp) 4 _ rfl
    have c5 := new_in b2 (by simp) 5 _ rfl
    have c6 := new_in b2 (by simp) 6 _ rfl
    have c7 := new_in b2 (by simp) 7 _ rfl
    have c8 := new_in b2 (by simp) 8 _ rfl
    have c9 := new_in b2 (by simp) 9 _ rfl
    have z2 : w.heap.size < w2.heap.size := World.block_lt_of_cell? w2 _ c0
    clear b2
    go_wp2
    go_ret
    exact ⟨by rw [hr2.out]; rfl, B2.out.trans ((Below.refl w.heap.size w2).alloc (by omega) _)⟩
  · have hq := sf_eq 4 t n (bytesOf nm) nn i e th el 4 0 0 (ByteArray.mk #[]) 0 0 1 th el false (by rw [hN, hE]; simpa using hc)
    have hr2 : Hid (r = false) := Lib.hid (by rw [← HR.out]; simp [fB]; try (intros; simp_all))
    clear hc
    clear HR hN hE
    go_enter Try.func119, Try.ntmps119
    go_wp2_with (refine (fields_s _ _ _ _ _ _ _ _ _ _ _ _ _ _ _ _ _ _ _ _ _).mono ?_)
    rintro e' w2 ⟨rfl, b2⟩
    have B2 := Lib.hid (((Below.refl _ w).alloc (Nat.le_refl _) _).trans (b2.mono (by simp)))
    have c0 := new_in b2 (by simp) 0 _ rfl
    have c1 := new_in b2 (by simp) 1 _ rfl
    have c2 := new_in b2 (by simp) 2 _ rfl
    have c3 := new_in b2 (by simp) 3 _ rfl
    have c4 := new_in b2 (by simp) 4 _ rfl
    have c5 := new_in b2 (by simp) 5 _ rfl
    have c6 := new_in b2 (by simp) 6 _ rfl
    have c7 := new_in b2 (by simp) 7 _ rfl
    have c8 := new_in b2 (by simp) 8 _ rfl
    have c9 := new_in b2 (by simp) 9 _ rfl
    have z2 : w.heap.size < w2.heap.size := World.block_lt_of_cell? w2 _ c0
    clear b2
    go_wp2
    go_ret
    exact ⟨by rw [hr2.out]; rfl, B2.out.trans ((Below.refl w.heap.size w2).alloc (by omega) _)⟩
set_option maxHeartbeats 4000000 in
set_option maxRecDepth 100000 in
theorem fits_5 (li t n : Int) (nm : List UInt8) (na ia ea ta la : Option Addr) (nn nc i ic e ec th tc el lc : Nat) (ek : Int) (an : Bool) (w : World) (hl : nm.length ≤ 1000000000000000000) (r : Bool) (hr : fB 5 t n nm nn i e th el ek an = r) :
    Calls Try.prog 119 #[.agg #[.int .i64 5, .int .i64 li, .int .i64 t, .int .i64 n, .string (bytesOf nm), .slice na nn nc, .slice ia i ic, .slice ea e ec, .slice ta th tc, .slice la el lc]] w fun r' w' => r' = .returned (.bool r) ∧ Below w.heap.size w w' := by
  have HL := Lib.hid hl
  have HR := Lib.hid hr
  clear hl hr
  have hN : (bytesOf nm).toList = nm := Lx.bytesOf_toList nm
  have hE : (ByteArray.mk #[]).toList = [] := Lx.bytesOf_toList []
  by_cases hc : t = 0 ∧ n = 0 ∧ nm = [] ∧ (nn : Int) = 0 ∧ (i : Int) = 0 ∧ (e : Int) = 1 ∧ (el : Int) = 0

  · have hq := sf_eq 5 t n (bytesOf nm) nn i e th el 5 0 0 (ByteArray.mk #[]) 0 0 1 th 0 true (by rw [hN, hE]; simpa using hc)
    have hr2 : Hid (r = true) := Lib.hid (by rw [← HR.out]; simp [fB, hc])
    clear hc
    clear HR hN hE
    go_enter Try.func119, Try.ntmps119
    go_wp2_with (refine (fields_s _ _ _ _ _ _ _ _ _ _ _ _ _ _ _ _ _ _ _ _ _).mono ?_)
    rintro e' w2 ⟨rfl, b2⟩
    have B2 := Lib.hid (((Below.refl _ w).alloc (Nat.le_refl _) _).trans (b2.mono (by simp)))
    have c0 := new_in b2 (by simp) 0 _ rfl
    have c1 := new_in b2 (by simp) 1 _ rfl
    have c2 := new_in b2 (by simp) 2 _ rfl
    have c3 := new_in b2 (by simp) 3 _ rfl
    have c4 := new_in b2 (by simp) 4 _ rfl
    have c5 := new_in b2 (by simp) 5 _ rfl
    have c6 := new_in b2 (by simp) 6 _ rfl
    have c7 := new_in b2 (by simp) 7 _ rfl
    have c8 := new_in b2 (by simp) 8 _ rfl
    have c9 := new_in b2 (by simp) 9 _ rfl
    have z2 : w.heap.size < w2.heap.size := World.block_lt_of_cell? w2 _ c0
    clear b2
    go_wp2
    go_ret
    exact ⟨by rw [hr2.out]; rfl, B2.out.trans ((Below.refl w.heap.size w2).alloc (by omega) _)⟩
  · have hq := sf_eq 5 t n (bytesOf nm) nn i e th el 5 0 0 (ByteArray.mk #[]) 0 0 1 th 0 false (by rw [hN, hE]; simpa using hc)
    have hr2 : Hid (r = false) := Lib.hid (by rw [← HR.out]; simp [fB]; try (intros; simp_all))
    clear hc
    clear HR hN hE
    go_enter Try.func119, Try.ntmps119
    go_wp2_with (refine (fields_s _ _ _ _ _ _ _ _ _ _ _ _ _ _ _ _ _ _ _ _ _).mono ?_)
    rintro e' w2 ⟨rfl, b2⟩
    have B2 := Lib.hid (((Below.refl _ w).alloc (Nat.le_refl _) _).trans (b2.mono (by simp)))
    have c0 := new_in b2 (by simp) 0 _ rfl
    have c1 := new_in b2 (by simp) 1 _ rfl
    have c2 := new_in b2 (by simp) 2 _ rfl
    have c3 := new_in b2 (by simp) 3 _ rfl
    have c4 := new_in b2 (by simp) 4 _ rfl
    have c5 := new_in b2 (by simp) 5 _ rfl
    have c6 := new_in b2 (by simp) 6 _ rfl
    have c7 := new_in b2 (by simp) 7 _ rfl
    have c8 := new_in b2 (by simp) 8 _ rfl
    have c9 := new_in b2 (by simp) 9 _ rfl
    have z2 : w.heap.size < w2.heap.size := World.block_lt_of_cell? w2 _ c0
    clear b2
    go_wp2
    go_ret
    exact ⟨by rw [hr2.out]; rfl, B2.out.trans ((Below.refl w.heap.size w2).alloc (by omega) _)⟩
set_option maxHeartbeats 4000000 in
set_option maxRecDepth 100000 in
theorem fits_6 (li t n : Int) (nm : List UInt8) (na ia ea ta la : Option Addr) (nn nc i ic e ec th tc el lc : Nat) (ek : Int) (an : Bool) (w : World) (hl : nm.length ≤ 1000000000000000000) (r : Bool) (hr : fB 6 t n nm nn i e th el ek an = r) :
    Calls Try.prog 119 #[.agg #[.int .i64 6, .int .i64 li, .int .i64 t, .int .i64 n, .string (bytesOf nm), .slice na nn nc, .slice ia i ic, .slice ea e ec, .slice ta th tc, .slice la el lc]] w fun r' w' => r' = .returned (.bool r) ∧ Below w.heap.size w w' := by
  have HL := Lib.hid hl
  have HR := Lib.hid hr
  clear hl hr
  have hN : (bytesOf nm).toList = nm := Lx.bytesOf_toList nm
  have hE : (ByteArray.mk #[]).toList = [] := Lx.bytesOf_toList []
  by_cases hc : t = 0 ∧ n = 0 ∧ nm = [] ∧ (nn : Int) = 0 ∧ (i : Int) = 0 ∧ (e : Int) = 1 ∧ (th : Int) = 0 ∧ (el : Int) = 0

  · have hq := sf_eq 6 t n (bytesOf nm) nn i e th el 6 0 0 (ByteArray.mk #[]) 0 0 1 0 0 true (by rw [hN, hE]; simpa using hc)
    have hr2 : Hid (r = true) := Lib.hid (by rw [← HR.out]; simp [fB, hc])
    clear hc
    clear HR hN hE
    go_enter Try.func119, Try.ntmps119
    go_wp2_with (refine (fields_s _ _ _ _ _ _ _ _ _ _ _ _ _ _ _ _ _ _ _ _ _).mono ?_)
    rintro e' w2 ⟨rfl, b2⟩
    have B2 := Lib.hid (((Below.refl _ w).alloc (Nat.le_refl _) _).trans (b2.mono (by simp)))
    have c0 := new_in b2 (by simp) 0 _ rfl
    have c1 := new_in b2 (by simp) 1 _ rfl
    have c2 := new_in b2 (by simp) 2 _ rfl
    have c3 := new_in b2 (by simp) 3 _ rfl
    have c4 := new_in b2 (by simp) 4 _ rfl
    have c5 := new_in b2 (by simp) 5 _ rfl
    have c6 := new_in b2 (by simp) 6 _ rfl
    have c7 := new_in b2 (by simp) 7 _ rfl
    have c8 := new_in b2 (by simp) 8 _ rfl
    have c9 := new_in b2 (by simp) 9 _ rfl
    have z2 : w.heap.size < w2.heap.size := World.block_lt_of_cell? w2 _ c0
    clear b2
    go_wp2
    go_ret
    exact ⟨by rw [hr2.out]; rfl, B2.out.trans ((Below.refl w.heap.size w2).alloc (by omega) _)⟩
  · have hq := sf_eq 6 t n (bytesOf nm) nn i e th el 6 0 0 (ByteArray.mk #[]) 0 0 1 0 0 false (by rw [hN, hE]; simpa using hc)
    have hr2 : Hid (r = false) := Lib.hid (by rw [← HR.out]; simp [fB]; try (intros; simp_all))
    clear hc
    clear HR hN hE
    go_enter Try.func119, Try.ntmps119
    go_wp2_with (refine (fields_s _ _ _ _ _ _ _ _ _ _ _ _ _ _ _ _ _ _ _ _ _).mono ?_)
    rintro e' w2 ⟨rfl, b2⟩
    have B2 := Lib.hid (((Below.refl _ w).alloc (Nat.le_refl _) _).trans (b2.mono (by simp)))
    have c0 := new_in b2 (by simp) 0 _ rfl
    have c1 := new_in b2 (by simp) 1 _ rfl
    have c2 := new_in b2 (by simp) 2 _ rfl
    have c3 := new_in b2 (by simp) 3 _ rfl
    have c4 := new_in b2 (by simp) 4 _ rfl
    have c5 := new_in b2 (by simp) 5 _ rfl
    have c6 := new_in b2 (by simp) 6 _ rfl
    have c7 := new_in b2 (by simp) 7 _ rfl
    have c8 := new_in b2 (by simp) 8 _ rfl
    have c9 := new_in b2 (by simp) 9 _ rfl
    have z2 : w.heap.size < w2.heap.size := World.block_lt_of_cell? w2 _ c0
    clear b2
    go_wp2
    go_ret
    exact ⟨by rw [hr2.out]; rfl, B2.out.trans ((Below.refl w.heap.size w2).alloc (by omega) _)⟩
set_option maxHeartbeats 4000000 in
set_option maxRecDepth 100000 in
theorem fits_0 (k li t n : Int) (nm : List UInt8) (na ia ea ta la : Option Addr) (nn nc i ic e ec th tc el lc : Nat) (ek : Int) (an : Bool) (w : World) (hl : nm.length ≤ 1000000000000000000) (r : Bool) (hr : fB k t n nm nn i e th el ek an = r)
    (hk : ∀ c : Int, 1 ≤ c → c ≤ 10 → k ≠ c) :
    Calls Try.prog 119 #[.agg #[.int .i64 k, .int .i64 li, .int .i64 t, .int .i64 n, .string (bytesOf nm), .slice na nn nc, .slice ia i ic, .slice ea e ec, .slice ta th tc, .slice la el lc]] w fun r' w' => r' = .returned (.bool r) ∧ Below w.heap.size w w' := by
  have HL := Lib.hid hl
  have HR := Lib.hid hr
  clear hl hr
  have hN : (bytesOf nm).toList = nm := Lx.bytesOf_toList nm
  have hE : (ByteArray.mk #[]).toList = [] := Lx.bytesOf_toList []
  have k1 : ¬ k = 1 := hk 1 (by decide) (by decide)
  have k2 : ¬ k = 2 := hk 2 (by decide) (by decide)
  have k3 : ¬ k = 3 := hk 3 (by decide) (by decide)
  have k4 : ¬ k = 4 := hk 4 (by decide) (by decide)
  have k5 : ¬ k = 5 := hk 5 (by decide) (by decide)
  have k6 : ¬ k = 6 := hk 6 (by decide) (by decide)
  have k7 : ¬ k = 7 := hk 7 (by decide) (by decide)
  have k8 : ¬ k = 8 := hk 8 (by decide) (by decide)
  have k9 : ¬ k = 9 := hk 9 (by decide) (by decide)
  have k10 : ¬ k = 10 := hk 10 (by decide) (by decide)
  have hr2 : Hid (r = false) := Lib.hid (by rw [← HR.out]; simp [fB, k1, k2, k3, k4, k5, k6, k7, k8, k9, k10])
  clear hk
  clear HR hN hE
  go_enter Try.func119, Try.ntmps119
  go_wp2_with (refine (fields_s _ _ _ _ _ _ _ _ _ _ _ _ _ _ _ _ _ _ _ _ _).mono ?_)
  rintro e' w2 ⟨rfl, b2⟩
  have B2 := Lib.hid (((Below.refl _ w).alloc (Nat.le_refl _) _).trans (b2.mono (by simp)))
  have c0 := new_in b2 (by simp) 0 _ rfl
  have c1 := new_in b2 (by simp) 1 _ rfl
  have c2 := new_in b2 (by simp) 2 _ rfl
  have c3 := new_in b2 (by simp) 3 _ rfl
  have c4 := new_in b2 (by simp) 4 _ rfl
  have c5 := new_in b2 (by simp) 5 _ rfl
  have c6 := new_in b2 (by simp) 6 _ rfl
  have c7 := new_in b2 (by simp) 7 _ rfl
  have c8 := new_in b2 (by simp) 8 _ rfl
  have c9 := new_in b2 (by simp) 9 _ rfl
  have z2 : w.heap.size < w2.heap.size := World.block_lt_of_cell? w2 _ c0
  clear b2
  go_wp2
  go_ret
  exact ⟨by rw [hr2.out]; rfl, B2.out.trans ((Below.refl w.heap.size w2).alloc (by omega) _)⟩
end As
end Go.Proofs.Ytbedcplkcaanhaa
