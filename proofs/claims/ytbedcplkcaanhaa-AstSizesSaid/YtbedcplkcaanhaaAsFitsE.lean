/-
  WALKS: package ast: is one statement what its kind is: atomic. Own work.
-/
import Derived.Test.YtbedcplkcaanhaaAsFits
namespace Go.Proofs.Ytbedcplkcaanhaa
namespace As
open Go.RowKit Go Rg Go.Shelf
set_option linter.unusedVariables false

set_option maxHeartbeats 4000000 in
set_option maxRecDepth 100000 in
theorem fits_10 (li t n : Int) (nm : List UInt8) (na ia ea ta la : Option Addr) (nn nc i ic e ec th tc el lc : Nat) (ek : Int) (an : Bool) (w : World) (hl : nm.length ≤ 1000000000000000000) (r : Bool) (hr : fB 10 t n nm nn i e th el ek an = r)
    (hx : 0 < nn → ∀ w', Below w.heap.size w w' → Calls Try.prog 122 #[.slice na nn nc, .func (.func 79) #[] #[]] w' fun r w'' => r = .returned (.bool an) ∧ Below w'.heap.size w' w'') :
    Calls Try.prog 119 #[.agg #[.int .i64 10, .int .i64 li, .int .i64 t, .int .i64 n, .string (bytesOf nm), .slice na nn nc, .slice ia i ic, .slice ea e ec, .slice ta th tc, .slice la el lc]] w fun r' w' => r' = .returned (.bool r) ∧ Below w.heap.size w w' := by
  have HL := Lib.hid hl
  have HR := Lib.hid hr
  clear hl hr
  have hN : (bytesOf nm).toList = nm := Lx.bytesOf_toList nm
  have hE : (ByteArray.mk #[]).toList = [] := Lx.bytesOf_toList []
  by_cases hc : t = 0 ∧ n = 0 ∧ nm = [] ∧ (i : Int) = 0 ∧ (e : Int) = 0 ∧ (el : Int) = 0
  · have hq := sf_eq 10 t n (bytesOf nm) nn i e th el 10 0 0 (ByteArray.mk #[]) nn 0 0 th 0 true (by rw [hN, hE]; simpa using hc)
    by_cases hnn : 0 < nn
    · have hr2 : Hid (an = r) := Lib.hid (by rw [← HR.out]; simp [fB, hc, hnn])
      obtain rfl := hr2.out
      have HX := Lib.hid (hx hnn)
      have hn2 : (0 : Int) < (nn : Int) := by omega
      clear hc hx hnn hr2
      clear HR hN hE
      go_enter Try.func119, Try.ntmps119
      go_wp2_with (refine (fields_s _ _ _ _ _ _ _ _ _ _ _ _ _ _ _ _ _ _ _ _ _).mono ?_)
      rintro e' w2 ⟨rfl, b2⟩
      have B2 := Lib.hid (((Below.refl _ w).alloc (Nat.le_refl _) _).trans (b2.mono (by simp)))
      have c0 := new_in b2 (by simp) 0 _ rfl
      have c1 := new_in b2 (by simp) 1 _ rfl
      have c2 := new_in b2 (by simp) 2 _ rfl
      have c3 := new_in b2 (by simp) 3 _ rfl
      have c4 := new_in b2 (by simp) 4 _ rfl
      have c5 := new_in b2 (by simp) 5 _ rfl
      have c6 := new_in b2 (by simp) 6 _ rfl
      have c7 := new_in b2 (by simp) 7 _ rfl
      have c8 := new_in b2 (by simp) 8 _ rfl
      have c9 := new_in b2 (by simp) 9 _ rfl
      have z2 : w.heap.size < w2.heap.size := World.block_lt_of_cell? w2 _ c0
      clear b2
      go_wp2_with (refine (HX.out _ (B2.out.trans ((Below.refl w.heap.size w2).alloc (by omega) _))).mono ?_)
      rintro e' w3 ⟨rfl, b3⟩
      have B3 := Lib.hid ((B2.out.trans ((Below.refl w.heap.size w2).alloc (by omega) _)).trans (b3.mono (by simp; omega)))
      clear b3
      go_wp2
      go_ret
      exact ⟨rfl, B3.out⟩
    · have hr2 : Hid (r = false) := Lib.hid (by rw [← HR.out]; simp [fB, hnn])
      have hn2 : (nn : Int) ≤ 0 := by omega
      clear hc hx hnn
      clear HR hN hE
      go_enter Try.func119, Try.ntmps119
      go_wp2_with (refine (fields_s _ _ _ _ _ _ _ _ _ _ _ _ _ _ _ _ _ _ _ _ _).mono ?_)
      rintro e' w2 ⟨rfl, b2⟩
      have B2 := Lib.hid (((Below.refl _ w).alloc (Nat.le_refl _) _).trans (b2.mono (by simp)))
      have c0 := new_in b2 (by simp) 0 _ rfl
      have c1 := new_in b2 (by simp) 1 _ rfl
      have c2 := new_in b2 (by simp) 2 _ rfl
      have c3 := new_in b2 (by simp) 3 _ rfl
      have c4 := new_in b2 (by simp) 4 _ rfl
      have c5 := new_in b2 (by simp) 5 _ rfl
      have c6 := new_in b2 (by simp) 6 _ rfl
      have c7 := new_in b2 (by simp) 7 _ rfl
      have c8 := new_in b2 (by simp) 8 _ rfl
      have c9 := new_in b2 (by simp) 9 _ rfl
      have z2 : w.heap.size < w2.heap.size := World.block_lt_of_cell? w2 _ c0
      clear b2
      go_wp2
      go_ret
      exact ⟨by rw [hr2.out]; rfl, B2.out.trans ((Below.refl w.heap.size w2).alloc (by omega) _)⟩
  · clear hx
    have hq := sf_eq 10 t n (bytesOf nm) nn i e th el 10 0 0 (ByteArray.mk #[]) nn 0 0 th 0 false (by rw [hN, hE]; simpa using hc)
    have hr2 : Hid (r = false) := Lib.hid (by rw [← HR.out]; simp [fB]; try (intros; simp_all))
    clear hc
    clear HR hN hE
    go_enter Try.func119, Try.ntmps119
    go_wp2_with (refine (fields_s _ _ _ _ _ _ _ _ _ _ _ _ _ _ _ _ _ _ _ _ _).mono ?_)
    rintro e' w2 ⟨rfl, b2⟩
    have B2 := Lib.hid (((Below.refl _ w).alloc (Nat.le_refl _) _).trans (b2.mono (by simp)))
    have c0 := new_in b2 (by simp) 0 _ rfl
    have c1 := new_in b2 (by simp) 1 _ rfl
    have c2 := new_in b2 (by simp) 2 _ rfl
    have c3 := new_in b2 (by simp) 3 _ rfl
    have c4 := new_in b2 (by simp) 4 _ rfl
    have c5 := new_in b2 (by simp) 5 _ rfl
    have c6 := new_in b2 (by simp) 6 _ rfl
    have c7 := new_in b2 (by simp) 7 _ rfl
    have c8 := new_in b2 (by simp) 8 _ rfl
    have c9 := new_in b2 (by simp) 9 _ rfl
    have z2 : w.heap.size < w2.heap.size := World.block_lt_of_cell? w2 _ c0
    clear b2
    go_wp2
    go_ret
    exact ⟨by rw [hr2.out]; rfl, B2.out.trans ((Below.refl w.heap.size w2).alloc (by omega) _)⟩
end As
end Go.Proofs.Ytbedcplkcaanhaa
