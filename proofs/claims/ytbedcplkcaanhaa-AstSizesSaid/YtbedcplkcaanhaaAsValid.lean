/-
  WALKS: package ast: is one expression valid, its parts aside. Own work.
-/
import Derived.Test.YtbedcplkcaanhaaAsOne
import Derived.Laws.StructEq
namespace Go.Proofs.Ytbedcplkcaanhaa
namespace As
open Go.RowKit Go Rg Go.Shelf
set_option linter.unusedVariables false

theorem ef_st : Try.prog.underlying 88 = some (.struct (Try.prog.fieldsOf 88)) := by kernel_rfl
theorem ef_hd : Try.prog.stoodInHeld 88 = false := by kernel_rfl
theorem ef_eq (k o t n a k' o' t' n' a' : Int) (s s' : ByteArray) (b : Bool) (h : (k = k' ∧ o = o' ∧ t = t' ∧ n = n' ∧ s.toList = s'.toList ∧ a = a') ↔ b = true) (w : World) :
    (binOp .eql 88 (.agg #[.int .i64 k, .int .i64 o, .int .i64 t, .int .u32 n, .string s, .int .i64 a]) (.agg #[.int .i64 k', .int .i64 o', .int .i64 t', .int .u32 n', .string s', .int .i64 a'])).run Try.prog w = .ok (.bool b) w := by
  have hu := Try.underlying88
  have hint := Try.underlying3
  have hu32 := Try.underlying22
  have hstr := Try.underlying9
  rw [run_eql_struct, run_equalIn_agg w 9999 _ _ _ ef_st ef_hd]
  generalize hx : s.toList = x at *
  generalize hy : s'.toList = y at *
  cases b with
  | true =>
    obtain ⟨rfl, rfl, rfl, rfl, rfl, rfl⟩ := h.2 rfl
    simp [Op.eqFields, Program.fieldsOf, hu, hint, hu32, hstr, go_sem, hx, hy]
  | false =>
    have e := mt h.1 (by decide)
    simp [Op.eqFields, Program.fieldsOf, hu, hint, hu32, hstr, go_sem, hx, hy]
    intro a0 a1 a2 a3 a4 a5
    exact e ⟨a0, a1, a2, a3, a4, a5⟩
theorem fields_v (k o t n : Int) (s : ByteArray) (ao : Option Addr) (m cap : Nat) (w : World) :
    Calls Try.prog 47 #[.agg #[.int .i64 k, .int .i64 o, .int .i64 t, .int .u32 n, .string s, .slice ao m cap]] w fun e w' => e = .returned (.agg #[.int .i64 k, .int .i64 o, .int .i64 t, .int .u32 n, .string s, .int .i64 m]) ∧ Below w.heap.size w w' := by
  go_enter Try.func47, Try.ntmps47
  go_wp2
  refine bodyPost_ret (v := .agg #[.int .i64 k, .int .i64 o, .int .i64 t, .int .u32 n, .string s, .int .i64 m]) (by simp [results, Try.results47, go_sem]) rfl ⟨rfl, ?_⟩
  exact ((Below.refl _ w).alloc (Nat.le_refl _) _).alloc (by simp) _
theorem un_keep {u : Nat → ByteArray} {w w' : World} (h : UnT u w) (b : Below w.heap.size w w') : UnT u w' := fun i hi => (b.cell (World.block_lt_of_cell? w _ (h i hi))).trans (h i hi)
theorem new_in {w w2 : World} {cs : Array Value} {t : TypeId} {B : Nat} (b : Below B (w.alloc (.cells cs t)) w2) (hB : w.heap.size < B) (o : Nat) (v : Value) (h : cs[o]? = some v) : w2.cell? ⟨w.heap.size, o, none⟩ = some v :=
  (b.cell (p := ⟨w.heap.size, o, none⟩) hB).trans (by simpa using h)
/-- What an expression has beside its parts is what its kind has. -/
def vB (u : Nat → ByteArray) (k o t n : Int) (nm : List UInt8) (m : Int) : Bool :=
  if k = 1 then decide (o = 0 ∧ t = 0 ∧ nm = [] ∧ m = 0)
  else if k = 2 then decide (o = 0 ∧ t = 0 ∧ n = 0 ∧ m = 0) && decide (Lx.kindA nm = 1)
  else if k = 3 then decide (o = 0 ∧ t = 0 ∧ n = 0 ∧ m = 1) && decide (Lx.kindA nm = 1)
  else if k = 4 then decide (o = 0 ∧ t = 0 ∧ n = 0) && decide (Lx.kindA nm = 1) && decide (m ≤ 8)
  else if k = 5 then decide (t = 0 ∧ n = 0 ∧ nm = [] ∧ m = 1) && unB u o
  else if k = 6 then decide (t = 0 ∧ n = 0 ∧ nm = [] ∧ m = 2) && binL.contains o
  else if k = 7 then decide (o = 0 ∧ n = 0 ∧ nm = [] ∧ m = 1) && decide (1 ≤ t ∧ t ≤ 4)
  else false
set_option maxHeartbeats 4000000 in
set_option maxRecDepth 100000 in
theorem valid_v (u : Nat → ByteArray) (k o t n : Int) (nm : List UInt8) (ao : Option Addr) (m cap : Nat) (w : World) (hu : UnT u w) (hl : nm.length ≤ 1000000000000000000) (hm : m ≤ 9223372036854775807) (r : Bool) (hr : vB u k o t n nm m = r) :
    Calls Try.prog 113 #[.agg #[.int .i64 k, .int .i64 o, .int .i64 t, .int .u32 n, .string (bytesOf nm), .slice ao m cap]] w fun e w' => e = .returned (.bool r) ∧ Below w.heap.size w w' := by
  have HU := Lib.hid hu
  have HL := Lib.hid hl
  have HR := Lib.hid hr
  clear hu hl hr
  have hm0 : (0 : Int) ≤ (m : Int) := Int.natCast_nonneg _
  have hN : (bytesOf nm).toList = nm := Lx.bytesOf_toList nm
  have hE : (ByteArray.mk #[]).toList = [] := Lx.bytesOf_toList []
  by_cases k1 : k = 1
  · subst k1
    have hq := ef_eq 1 o t n m 1 0 0 n 0 (bytesOf nm) (ByteArray.mk #[]) r (by rw [← HR.out]; simp [vB, hN, hE])
    clear HR hN hE
    go_enter Try.func113, Try.ntmps113
    go_wp2_with (refine (fields_v _ _ _ _ _ _ _ _ _).mono ?_)
    rintro e w2 ⟨rfl, b2⟩
    have B2 := Lib.hid (((Below.refl _ w).alloc (Nat.le_refl _) _).trans (b2.mono (by simp)))
    have c0 := new_in b2 (by simp) 0 _ rfl
    have c1 := new_in b2 (by simp) 1 _ rfl
    have c2 := new_in b2 (by simp) 2 _ rfl
    have c3 := new_in b2 (by simp) 3 _ rfl
    have c4 := new_in b2 (by simp) 4 _ rfl
    have c5 := new_in b2 (by simp) 5 _ rfl
    have z2 : w.heap.size < w2.heap.size := World.block_lt_of_cell? w2 _ c0
    clear b2
    go_wp2
    go_ret
    exact ⟨rfl, B2.out.trans ((Below.refl w.heap.size w2).alloc (by omega) _)⟩
  by_cases k2 : k = 2
  · subst k2
    by_cases hc : o = 0 ∧ t = 0 ∧ n = 0 ∧ (m : Int) = 0
    · have hq := ef_eq 2 o t n m 2 0 0 0 0 (bytesOf nm) (bytesOf nm) true (by rw [hN]; simpa using hc)
      have hr2 : Hid (decide (Lx.kindA nm = 1) = r) := Lib.hid (by rw [← HR.out]; simp [vB, hc])
      clear hc
      clear HR hN hE
      go_enter Try.func113, Try.ntmps113
      go_wp2_with (refine (fields_v _ _ _ _ _ _ _ _ _).mono ?_)
      rintro e w2 ⟨rfl, b2⟩
      have B2 := Lib.hid (((Below.refl _ w).alloc (Nat.le_refl _) _).trans (b2.mono (by simp)))
      have c0 := new_in b2 (by simp) 0 _ rfl
      have c1 := new_in b2 (by simp) 1 _ rfl
      have c2 := new_in b2 (by simp) 2 _ rfl
      have c3 := new_in b2 (by simp) 3 _ rfl
      have c4 := new_in b2 (by simp) 4 _ rfl
      have c5 := new_in b2 (by simp) 5 _ rfl
      have z2 : w.heap.size < w2.heap.size := World.block_lt_of_cell? w2 _ c0
      clear b2
      go_wp2_with (refine (isName_any nm HL.out _ r hr2.out).mono ?_)
      rintro e w3 ⟨rfl, b3⟩
      have B3 := Lib.hid ((B2.out.trans ((Below.refl w.heap.size w2).alloc (by omega) _)).trans (b3.mono (by simp; omega)))
      clear b3
      go_wp2
      go_ret
      exact ⟨rfl, B3.out⟩
    · have hq := ef_eq 2 o t n m 2 0 0 0 0 (bytesOf nm) (bytesOf nm) false (by rw [hN]; simpa using hc)
      have hr2 : Hid (r = false) := Lib.hid (by rw [← HR.out]; simp [vB]; try (intros; simp_all))
      clear hc
      clear HR hN hE
      go_enter Try.func113, Try.ntmps113
      go_wp2_with (refine (fields_v _ _ _ _ _ _ _ _ _).mono ?_)
      rintro e w2 ⟨rfl, b2⟩
      have B2 := Lib.hid (((Below.refl _ w).alloc (Nat.le_refl _) _).trans (b2.mono (by simp)))
      have c0 := new_in b2 (by simp) 0 _ rfl
      have c1 := new_in b2 (by simp) 1 _ rfl
      have c2 := new_in b2 (by simp) 2 _ rfl
      have c3 := new_in b2 (by simp) 3 _ rfl
      have c4 := new_in b2 (by simp) 4 _ rfl
      have c5 := new_in b2 (by simp) 5 _ rfl
      have z2 : w.heap.size < w2.heap.size := World.block_lt_of_cell? w2 _ c0
      clear b2
      go_wp2
      go_ret
      exact ⟨by rw [hr2.out]; rfl, B2.out.trans ((Below.refl w.heap.size w2).alloc (by omega) _)⟩
  by_cases k3 : k = 3
  · subst k3
    by_cases hc : o = 0 ∧ t = 0 ∧ n = 0 ∧ (m : Int) = 1
    · have hq := ef_eq 3 o t n m 3 0 0 0 1 (bytesOf nm) (bytesOf nm) true (by rw [hN]; simpa using hc)
      have hr2 : Hid (decide (Lx.kindA nm = 1) = r) := Lib.hid (by rw [← HR.out]; simp [vB, hc])
      clear hc
      clear HR hN hE
      go_enter Try.func113, Try.ntmps113
      go_wp2_with (refine (fields_v _ _ _ _ _ _ _ _ _).mono ?_)
      rintro e w2 ⟨rfl, b2⟩
      have B2 := Lib.hid (((Below.refl _ w).alloc (Nat.le_refl _) _).trans (b2.mono (by simp)))
      have c0 := new_in b2 (by simp) 0 _ rfl
      have c1 := new_in b2 (by simp) 1 _ rfl
      have c2 := new_in b2 (by simp) 2 _ rfl
      have c3 := new_in b2 (by simp) 3 _ rfl
      have c4 := new_in b2 (by simp) 4 _ rfl
      have c5 := new_in b2 (by simp) 5 _ rfl
      have z2 : w.heap.size < w2.heap.size := World.block_lt_of_cell? w2 _ c0
      clear b2
      go_wp2_with (refine (isName_any nm HL.out _ r hr2.out).mono ?_)
      rintro e w3 ⟨rfl, b3⟩
      have B3 := Lib.hid ((B2.out.trans ((Below.refl w.heap.size w2).alloc (by omega) _)).trans (b3.mono (by simp; omega)))
      clear b3
      go_wp2
      go_ret
      exact ⟨rfl, B3.out⟩
    · have hq := ef_eq 3 o t n m 3 0 0 0 1 (bytesOf nm) (bytesOf nm) false (by rw [hN]; simpa using hc)
      have hr2 : Hid (r = false) := Lib.hid (by rw [← HR.out]; simp [vB]; try (intros; simp_all))
      clear hc
      clear HR hN hE
      go_enter Try.func113, Try.ntmps113
      go_wp2_with (refine (fields_v _ _ _ _ _ _ _ _ _).mono ?_)
      rintro e w2 ⟨rfl, b2⟩
      have B2 := Lib.hid (((Below.refl _ w).alloc (Nat.le_refl _) _).trans (b2.mono (by simp)))
      have c0 := new_in b2 (by simp) 0 _ rfl
      have c1 := new_in b2 (by simp) 1 _ rfl
      have c2 := new_in b2 (by simp) 2 _ rfl
      have c3 := new_in b2 (by simp) 3 _ rfl
      have c4 := new_in b2 (by simp) 4 _ rfl
      have c5 := new_in b2 (by simp) 5 _ rfl
      have z2 : w.heap.size < w2.heap.size := World.block_lt_of_cell? w2 _ c0
      clear b2
      go_wp2
      go_ret
      exact ⟨by rw [hr2.out]; rfl, B2.out.trans ((Below.refl w.heap.size w2).alloc (by omega) _)⟩
  by_cases k4 : k = 4
  · subst k4
    by_cases hc : o = 0 ∧ t = 0 ∧ n = 0
    · have hq := ef_eq 4 o t n m 4 0 0 0 m (bytesOf nm) (bytesOf nm) true (by rw [hN]; simpa using hc)
      by_cases hnm : Lx.kindA nm = 1
      · have hr2 : Hid (decide ((m : Int) ≤ 8) = r) := Lib.hid (by rw [← HR.out]; simp [vB, hc, hnm])
        clear hc
        have HN1 : Hid (decide (Lx.kindA nm = 1) = true) := Lib.hid (by simp [hnm])
        clear hnm
        clear HR hN hE
        go_enter Try.func113, Try.ntmps113
        go_wp2_with (refine (fields_v _ _ _ _ _ _ _ _ _).mono ?_)
        rintro e w2 ⟨rfl, b2⟩
        have B2 := Lib.hid (((Below.refl _ w).alloc (Nat.le_refl _) _).trans (b2.mono (by simp)))
        have c0 := new_in b2 (by simp) 0 _ rfl
        have c1 := new_in b2 (by simp) 1 _ rfl
        have c2 := new_in b2 (by simp) 2 _ rfl
        have c3 := new_in b2 (by simp) 3 _ rfl
        have c4 := new_in b2 (by simp) 4 _ rfl
        have c5 := new_in b2 (by simp) 5 _ rfl
        have z2 : w.heap.size < w2.heap.size := World.block_lt_of_cell? w2 _ c0
        clear b2
        go_wp2_with (refine (isName_any nm HL.out _ true HN1.out).mono ?_)
        rintro e w3 ⟨rfl, b3⟩
        have B3 := Lib.hid ((B2.out.trans ((Below.refl w.heap.size w2).alloc (by omega) _)).trans (b3.mono (by simp; omega)))
        have k3 : w3.cell? ⟨w2.heap.size, 5, none⟩ = some (.int .i64 m) := new_in b3 (by simp) 5 _ rfl
        clear b3
        go_wp2
        go_ret
        exact ⟨by rw [← hr2.out]; rfl, B3.out⟩
      · have hr2 : Hid (r = false) := Lib.hid (by rw [← HR.out]; simp [vB, hnm])
        clear hc
        have HN1 : Hid (decide (Lx.kindA nm = 1) = false) := Lib.hid (by simp [hnm])
        clear hnm
        clear HR hN hE
        go_enter Try.func113, Try.ntmps113
        go_wp2_with (refine (fields_v _ _ _ _ _ _ _ _ _).mono ?_)
        rintro e w2 ⟨rfl, b2⟩
        have B2 := Lib.hid (((Below.refl _ w).alloc (Nat.le_refl _) _).trans (b2.mono (by simp)))
        have c0 := new_in b2 (by simp) 0 _ rfl
        have c1 := new_in b2 (by simp) 1 _ rfl
        have c2 := new_in b2 (by simp) 2 _ rfl
        have c3 := new_in b2 (by simp) 3 _ rfl
        have c4 := new_in b2 (by simp) 4 _ rfl
        have c5 := new_in b2 (by simp) 5 _ rfl
        have z2 : w.heap.size < w2.heap.size := World.block_lt_of_cell? w2 _ c0
        clear b2
        go_wp2_with (refine (isName_any nm HL.out _ false HN1.out).mono ?_)
        rintro e w3 ⟨rfl, b3⟩
        have B3 := Lib.hid ((B2.out.trans ((Below.refl w.heap.size w2).alloc (by omega) _)).trans (b3.mono (by simp; omega)))
        clear b3
        go_wp2
        go_ret
        exact ⟨by rw [hr2.out]; rfl, B3.out⟩
    · have hq := ef_eq 4 o t n m 4 0 0 0 m (bytesOf nm) (bytesOf nm) false (by rw [hN]; simpa using hc)
      have hr2 : Hid (r = false) := Lib.hid (by rw [← HR.out]; simp [vB]; try (intros; simp_all))
      clear hc
      clear HR hN hE
      go_enter Try.func113, Try.ntmps113
      go_wp2_with (refine (fields_v _ _ _ _ _ _ _ _ _).mono ?_)
      rintro e w2 ⟨rfl, b2⟩
      have B2 := Lib.hid (((Below.refl _ w).alloc (Nat.le_refl _) _).trans (b2.mono (by simp)))
      have c0 := new_in b2 (by simp) 0 _ rfl
      have c1 := new_in b2 (by simp) 1 _ rfl
      have c2 := new_in b2 (by simp) 2 _ rfl
      have c3 := new_in b2 (by simp) 3 _ rfl
      have c4 := new_in b2 (by simp) 4 _ rfl
      have c5 := new_in b2 (by simp) 5 _ rfl
      have z2 : w.heap.size < w2.heap.size := World.block_lt_of_cell? w2 _ c0
      clear b2
      go_wp2
      go_ret
      exact ⟨by rw [hr2.out]; rfl, B2.out.trans ((Below.refl w.heap.size w2).alloc (by omega) _)⟩
  by_cases k5 : k = 5
  · subst k5
    by_cases hc : t = 0 ∧ n = 0 ∧ nm = [] ∧ (m : Int) = 1
    · have hq := ef_eq 5 o t n m 5 o 0 0 1 (bytesOf nm) (ByteArray.mk #[]) true (by rw [hN, hE]; simpa using hc)
      have hr2 : Hid (unB u o = r) := Lib.hid (by rw [← HR.out]; simp [vB, hc])
      clear hc
      clear HR hN hE
      go_enter Try.func113, Try.ntmps113
      go_wp2_with (refine (fields_v _ _ _ _ _ _ _ _ _).mono ?_)
      rintro e w2 ⟨rfl, b2⟩
      have B2 := Lib.hid (((Below.refl _ w).alloc (Nat.le_refl _) _).trans (b2.mono (by simp)))
      have c0 := new_in b2 (by simp) 0 _ rfl
      have c1 := new_in b2 (by simp) 1 _ rfl
      have c2 := new_in b2 (by simp) 2 _ rfl
      have c3 := new_in b2 (by simp) 3 _ rfl
      have c4 := new_in b2 (by simp) 4 _ rfl
      have c5 := new_in b2 (by simp) 5 _ rfl
      have z2 : w.heap.size < w2.heap.size := World.block_lt_of_cell? w2 _ c0
      clear b2
      go_wp2_with (refine (isUn_any o (un_keep HU.out (B2.out.trans ((Below.refl w.heap.size w2).alloc (by omega) _)))).mono ?_)
      rintro e w3 ⟨rfl, rfl⟩
      rw [hr2.out]
      go_wp2
      go_ret
      exact ⟨rfl, B2.out.trans ((Below.refl w.heap.size w2).alloc (by omega) _)⟩
    · have hq := ef_eq 5 o t n m 5 o 0 0 1 (bytesOf nm) (ByteArray.mk #[]) false (by rw [hN, hE]; simpa using hc)
      have hr2 : Hid (r = false) := Lib.hid (by rw [← HR.out]; simp [vB]; try (intros; simp_all))
      clear hc
      clear HR hN hE
      go_enter Try.func113, Try.ntmps113
      go_wp2_with (refine (fields_v _ _ _ _ _ _ _ _ _).mono ?_)
      rintro e w2 ⟨rfl, b2⟩
      have B2 := Lib.hid (((Below.refl _ w).alloc (Nat.le_refl _) _).trans (b2.mono (by simp)))
      have c0 := new_in b2 (by simp) 0 _ rfl
      have c1 := new_in b2 (by simp) 1 _ rfl
      have c2 := new_in b2 (by simp) 2 _ rfl
      have c3 := new_in b2 (by simp) 3 _ rfl
      have c4 := new_in b2 (by simp) 4 _ rfl
      have c5 := new_in b2 (by simp) 5 _ rfl
      have z2 : w.heap.size < w2.heap.size := World.block_lt_of_cell? w2 _ c0
      clear b2
      go_wp2
      go_ret
      exact ⟨by rw [hr2.out]; rfl, B2.out.trans ((Below.refl w.heap.size w2).alloc (by omega) _)⟩
  by_cases k6 : k = 6
  · subst k6
    by_cases hc : t = 0 ∧ n = 0 ∧ nm = [] ∧ (m : Int) = 2
    · have hq := ef_eq 6 o t n m 6 o 0 0 2 (bytesOf nm) (ByteArray.mk #[]) true (by rw [hN, hE]; simpa using hc)
      have hr2 : Hid (binL.contains o = r) := Lib.hid (by rw [← HR.out]; simp [vB, hc])
      clear hc
      clear HR hN hE
      go_enter Try.func113, Try.ntmps113
      go_wp2_with (refine (fields_v _ _ _ _ _ _ _ _ _).mono ?_)
      rintro e w2 ⟨rfl, b2⟩
      have B2 := Lib.hid (((Below.refl _ w).alloc (Nat.le_refl _) _).trans (b2.mono (by simp)))
      have c0 := new_in b2 (by simp) 0 _ rfl
      have c1 := new_in b2 (by simp) 1 _ rfl
      have c2 := new_in b2 (by simp) 2 _ rfl
      have c3 := new_in b2 (by simp) 3 _ rfl
      have c4 := new_in b2 (by simp) 4 _ rfl
      have c5 := new_in b2 (by simp) 5 _ rfl
      have z2 : w.heap.size < w2.heap.size := World.block_lt_of_cell? w2 _ c0
      clear b2
      go_wp2_with (refine (isBin_any o _).mono ?_)
      rintro e w3 ⟨rfl, rfl⟩
      rw [hr2.out]
      go_wp2
      go_ret
      exact ⟨rfl, B2.out.trans ((Below.refl w.heap.size w2).alloc (by omega) _)⟩
    · have hq := ef_eq 6 o t n m 6 o 0 0 2 (bytesOf nm) (ByteArray.mk #[]) false (by rw [hN, hE]; simpa using hc)
      have hr2 : Hid (r = false) := Lib.hid (by rw [← HR.out]; simp [vB]; try (intros; simp_all))
      clear hc
      clear HR hN hE
      go_enter Try.func113, Try.ntmps113
      go_wp2_with (refine (fields_v _ _ _ _ _ _ _ _ _).mono ?_)
      rintro e w2 ⟨rfl, b2⟩
      have B2 := Lib.hid (((Below.refl _ w).alloc (Nat.le_refl _) _).trans (b2.mono (by simp)))
      have c0 := new_in b2 (by simp) 0 _ rfl
      have c1 := new_in b2 (by simp) 1 _ rfl
      have c2 := new_in b2 (by simp) 2 _ rfl
      have c3 := new_in b2 (by simp) 3 _ rfl
      have c4 := new_in b2 (by simp) 4 _ rfl
      have c5 := new_in b2 (by simp) 5 _ rfl
      have z2 : w.heap.size < w2.heap.size := World.block_lt_of_cell? w2 _ c0
      clear b2
      go_wp2
      go_ret
      exact ⟨by rw [hr2.out]; rfl, B2.out.trans ((Below.refl w.heap.size w2).alloc (by omega) _)⟩
  by_cases k7 : k = 7
  · subst k7
    by_cases hc : o = 0 ∧ n = 0 ∧ nm = [] ∧ (m : Int) = 1
    · have hq := ef_eq 7 o t n m 7 0 t 0 1 (bytesOf nm) (ByteArray.mk #[]) true (by rw [hN, hE]; simpa using hc)
      have hr2 : Hid (decide (1 ≤ t ∧ t ≤ 4) = r) := Lib.hid (by rw [← HR.out]; simp [vB, hc])
      clear hc
      clear HR hN hE
      go_enter Try.func113, Try.ntmps113
      go_wp2_with (refine (fields_v _ _ _ _ _ _ _ _ _).mono ?_)
      rintro e w2 ⟨rfl, b2⟩
      have B2 := Lib.hid (((Below.refl _ w).alloc (Nat.le_refl _) _).trans (b2.mono (by simp)))
      have c0 := new_in b2 (by simp) 0 _ rfl
      have c1 := new_in b2 (by simp) 1 _ rfl
      have c2 := new_in b2 (by simp) 2 _ rfl
      have c3 := new_in b2 (by simp) 3 _ rfl
      have c4 := new_in b2 (by simp) 4 _ rfl
      have c5 := new_in b2 (by simp) 5 _ rfl
      have z2 : w.heap.size < w2.heap.size := World.block_lt_of_cell? w2 _ c0
      clear b2
      go_wp2_with (refine (isType_any t _).mono ?_)
      rintro e w3 ⟨rfl, rfl⟩
      rw [hr2.out]
      go_wp2
      go_ret
      exact ⟨rfl, B2.out.trans ((Below.refl w.heap.size w2).alloc (by omega) _)⟩
    · have hq := ef_eq 7 o t n m 7 0 t 0 1 (bytesOf nm) (ByteArray.mk #[]) false (by rw [hN, hE]; simpa using hc)
      have hr2 : Hid (r = false) := Lib.hid (by rw [← HR.out]; simp [vB]; try (intros; simp_all))
      clear hc
      clear HR hN hE
      go_enter Try.func113, Try.ntmps113
      go_wp2_with (refine (fields_v _ _ _ _ _ _ _ _ _).mono ?_)
      rintro e w2 ⟨rfl, b2⟩
      have B2 := Lib.hid (((Below.refl _ w).alloc (Nat.le_refl _) _).trans (b2.mono (by simp)))
      have c0 := new_in b2 (by simp) 0 _ rfl
      have c1 := new_in b2 (by simp) 1 _ rfl
      have c2 := new_in b2 (by simp) 2 _ rfl
      have c3 := new_in b2 (by simp) 3 _ rfl
      have c4 := new_in b2 (by simp) 4 _ rfl
      have c5 := new_in b2 (by simp) 5 _ rfl
      have z2 : w.heap.size < w2.heap.size := World.block_lt_of_cell? w2 _ c0
      clear b2
      go_wp2
      go_ret
      exact ⟨by rw [hr2.out]; rfl, B2.out.trans ((Below.refl w.heap.size w2).alloc (by omega) _)⟩
  have hr2 : Hid (r = false) := Lib.hid (by rw [← HR.out]; simp [vB, k1, k2, k3, k4, k5, k6, k7])
  clear HR hN hE
  go_enter Try.func113, Try.ntmps113
  go_wp2_with (refine (fields_v _ _ _ _ _ _ _ _ _).mono ?_)
  rintro e w2 ⟨rfl, b2⟩
  have B2 := Lib.hid (((Below.refl _ w).alloc (Nat.le_refl _) _).trans (b2.mono (by simp)))
  have c0 := new_in b2 (by simp) 0 _ rfl
  have c1 := new_in b2 (by simp) 1 _ rfl
  have c2 := new_in b2 (by simp) 2 _ rfl
  have c3 := new_in b2 (by simp) 3 _ rfl
  have c4 := new_in b2 (by simp) 4 _ rfl
  have c5 := new_in b2 (by simp) 5 _ rfl
  have z2 : w.heap.size < w2.heap.size := World.block_lt_of_cell? w2 _ c0
  clear b2
  go_wp2
  go_ret
  exact ⟨by rw [hr2.out]; rfl, B2.out.trans ((Below.refl w.heap.size w2).alloc (by omega) _)⟩
end As
end Go.Proofs.Ytbedcplkcaanhaa
