/-
  WALKS: package code, Parse. Own work.
-/
import Derived.Test.YtehmpakcfahmaaaDoorCoRead
namespace Go.Proofs.YtehmpakcfahmaaaDoor
namespace Co
open Go.RowKit Go
set_option linter.unusedVariables false

theorem fieldsGoD_count : ∀ (f : Nat) (cur l : List UInt8), (Lib.fieldsGoD f cur l).length ≤ f + 1
  | 0, cur, l => by simp only [Lib.fieldsGoD]; split <;> simp
  | f + 1, cur, l => by
    simp only [Lib.fieldsGoD]
    split
    · split <;> simp
    · split
      · have ih := fieldsGoD_count f [] (l.drop (Lib.decodeL l).2)
        rw [List.length_append]
        split <;> simp <;> omega
      · have ih := fieldsGoD_count f (cur ++ l.take (Lib.decodeL l).2) (l.drop (Lib.decodeL l).2)
        omega
theorem fieldsGoD_each : ∀ (f : Nat) (cur l : List UInt8), ∀ p ∈ Lib.fieldsGoD f cur l, p.length ≤ cur.length + l.length
  | 0, cur, l, p, hp => by
    simp only [Lib.fieldsGoD] at hp
    split at hp
    · simp at hp
    · simp at hp; subst hp; omega
  | f + 1, cur, l, p, hp => by
    simp only [Lib.fieldsGoD] at hp
    split at hp
    · split at hp
      · simp at hp
      · simp at hp; subst hp; omega
    · split at hp
      · rw [List.mem_append] at hp
        rcases hp with hp | hp
        · split at hp
          · simp at hp
          · simp at hp; subst hp; omega
        · have := fieldsGoD_each f [] (l.drop (Lib.decodeL l).2) p hp
          simp at this
          omega
      · have := fieldsGoD_each f (cur ++ l.take (Lib.decodeL l).2) (l.drop (Lib.decodeL l).2) p hp
        simp at this
        omega
theorem fieldsD_bd (s : List UInt8) (hs : s.length ≤ 100) : (Lib.fieldsD s).length ≤ 1000 ∧ ∀ i, ((Lib.fieldsD s).getD i []).length ≤ 1000 := by
  refine ⟨?_, fun i => ?_⟩
  · have := fieldsGoD_count (s.length + 1) [] s
    unfold Lib.fieldsD
    omega
  · rw [List.getD_eq_getElem?_getD]
    by_cases h : i < (Lib.fieldsD s).length
    · rw [List.getElem?_eq_getElem h]
      have := fieldsGoD_each (s.length + 1) [] s ((Lib.fieldsD s)[i]) (List.getElem_mem h)
      simp only [Option.getD_some, List.length_nil] at this ⊢
      omega
    · rw [List.getElem?_eq_none (by omega)]; simp
theorem fndFrom_bd (f : Int → List UInt8) (t : List UInt8) : ∀ (m : Nat) (n : Int), 0 ≤ n → -1 ≤ fndFrom f t m n ∧ fndFrom f t m n ≤ n + m
  | 0, n, h => by simp only [fndFrom]; omega
  | m + 1, n, h => by
    simp only [fndFrom]
    split
    · omega
    · have := fndFrom_bd f t m (n + 1) (by omega)
      omega
theorem scn_bd (k : Int) (t : List UInt8) : -1 ≤ scn k t ∧ scn k t ≤ 4294967295 := by
  unfold scn
  split
  · have := fndFrom_bd signL t 19 1 (by omega); unfold fnd; omega
  · split
    · have := fndFrom_bd nameL t 3 1 (by omega); unfold fnd; omega
    · split
      · rename_i u h
        have := parseB_bd h
        omega
      · omega
theorem numAt_bd (k : Int) (j : Nat) (l : List (List UInt8)) : -1 ≤ numAt k j l ∧ numAt k j l ≤ 4294967295 := by
  unfold numAt
  split
  · exact scn_bd _ _
  · omega
theorem rd_wf (l : List (List UInt8)) : Wf (rd l) := by
  cases l with
  | nil => exact ⟨by decide, by decide, by decide, by decide⟩
  | cons h r =>
    have a := fndFrom_bd opL h 24 1 (by omega)
    have b := numAt_bd (rowAt (opOf h)).a 1 (h :: r)
    have c := numAt_bd (rowAt (opOf h)).b 2 (h :: r)
    have d := numAt_bd (rowAt (opOf h)).c 3 (h :: r)
    exact ⟨by show -9223372036854775808 ≤ fndFrom opL h 24 1 ∧ fndFrom opL h 24 1 ≤ 9223372036854775807; omega, by show -9223372036854775808 ≤ numAt _ _ _ ∧ numAt _ _ _ ≤ 9223372036854775807; omega,
      by show -9223372036854775808 ≤ numAt _ _ _ ∧ numAt _ _ _ ≤ 9223372036854775807; omega, by show -9223372036854775808 ≤ numAt _ _ _ ∧ numAt _ _ _ ≤ 9223372036854775807; omega⟩

/-- A slice that owns its texts' cells. -/
theorem own_texts {w : World} {B : Nat} {T : TypeId} {A n cap : Nat} {l : List (List UInt8)} (hA : w.ownsRow B T 1 (.slice (some ⟨A, 0, none⟩) n cap) n (l.map fun x => Value.string ⟨x.toArray⟩)) (hn : l.length = n) : SIn w (some ⟨A, 0, none⟩) l := by
  obtain ⟨hlen, h | ⟨g, cap', cur, hv, hB, hb, hnc, hcm, hsz, htk⟩⟩ := hA
  · cases h.1
  · simp only [Value.slice.injEq, Option.some.injEq, Addr.mk.injEq, and_true, true_and] at hv
    obtain ⟨rfl, rfl⟩ := hv
    by_cases h0 : l = []
    · exact .inl h0
    refine .inr ⟨A, 0, rfl, ?_, ?_⟩
    · by_cases hs : A < w.heap.size
      · exact hs
      · rw [Array.getElem?_eq_none (by omega)] at hb; cases hb
    · intro i hi
      have e := congrArg (·[i]?) htk
      simp only [List.getElem?_take, List.getElem?_map, Nat.mul_one] at e
      rw [if_pos (by omega), List.getElem?_eq_getElem hi, Array.getElem?_toList] at e
      have : w.cell? ⟨A, 0 + i, none⟩ = cur[i]? := by unfold World.cell?; simp [hb]
      rw [this, e, List.getD_eq_getElem?_getD, List.getElem?_eq_getElem hi]
      rfl
theorem Fields_any {w : World} (hE : Env w) (s : List UInt8) (hs : s.length ≤ 100) :
    Calls Tryd.prog 27 #[.string (bytesOf s)] w fun e w' => ∃ A, e = .returned (.slice (some ⟨A, 0, none⟩) (Lib.fieldsD s).length (Lib.fieldsD s).length) ∧ SIn w' (some ⟨A, 0, none⟩) (Lib.fieldsD s) ∧ Kp w w' :=
  (Tryd.strings_Fields_any (bytesOf s) w (by rw [bytesOf_size]; omega) hE.space hE.white).mono fun e w' ⟨A, he, _, ho, hb⟩ => ⟨A, he, own_texts ho rfl, ⟨hb⟩⟩

def prsI (s : List UInt8) : In := (prs s).getD in0
def prsE (s : List UInt8) : Int := if (prs s).isSome = true then 0 else 11
theorem prs_long {s : List UInt8} (h : 22 < s.length) : prs s = none := by unfold prs; rw [if_pos h]
theorem prs_bad {s : List UInt8} (h : ¬ 22 < s.length) (hc : chk (rd (Lib.fieldsD s)) = false) : prs s = none := by unfold prs; rw [if_neg h, if_neg (by simp [hc])]
theorem prs_other {s : List UInt8} (h : ¬ 22 < s.length) (hc : txt (rd (Lib.fieldsD s)) ≠ s) : prs s = none := by unfold prs; rw [if_neg h, if_neg (by simp [hc])]
theorem prs_good {s : List UInt8} (h : ¬ 22 < s.length) (hc : chk (rd (Lib.fieldsD s)) = true) (ht : txt (rd (Lib.fieldsD s)) = s) : prs s = some (rd (Lib.fieldsD s)) := by unfold prs; rw [if_neg h, if_pos ⟨hc, ht⟩]

theorem Parse_long {w : World} (s : List UInt8) (h : 22 < s.length) (hm : s.length ≤ 9223372036854775807) :
    Calls Tryd.prog 16 #[.string (bytesOf s)] w fun e w' => e = .returned (.tuple #[.agg #[.int .i64 0, .int .i64 0, .int .i64 0, .int .i64 0], .int .i64 11]) ∧ Kp w w' := by
  have hz : (22 : Int) < ((bytesOf s).size : Int) := by rw [bytesOf_size]; omega
  have hz2 : (bytesOf s).size ≤ 9223372036854775807 := by rw [bytesOf_size]; omega
  go_enter Tryd.func16, Tryd.ntmps16
  go_wp2
  exact bodyPost_ret (v := .tuple #[.agg #[.int .i64 0, .int .i64 0, .int .i64 0, .int .i64 0], .int .i64 11]) (by simp [results, Tryd.results16, go_sem]) rfl ⟨rfl, (Kp.refl w).alloc _ _⟩
set_option maxHeartbeats 2000000 in
set_option maxRecDepth 100000 in
theorem Parse_core {w : World} (hE : Env w) (s : List UInt8) (h : s.length ≤ 22) (op x y z : Int) (hi : rd (Lib.fieldsD s) = ⟨op, x, y, z⟩) (t : List UInt8) (ht : txt ⟨op, x, y, z⟩ = t) (ce : Int) (hce : chkE ⟨op, x, y, z⟩ = ce) (bt : Bool) (hbt : decide (t = s) = bt)
    (ro rx ry rz re : Int) (hr : (ce = 0 ∧ bt = true ∧ ro = op ∧ rx = x ∧ ry = y ∧ rz = z ∧ re = 0) ∨ ((ce = 2 ∨ (ce = 0 ∧ bt = false)) ∧ ro = 0 ∧ rx = 0 ∧ ry = 0 ∧ rz = 0 ∧ re = 11)) :
    Calls Tryd.prog 16 #[.string (bytesOf s)] w fun e w' => e = .returned (.tuple #[.agg #[.int .i64 ro, .int .i64 rx, .int .i64 ry, .int .i64 rz], .int .i64 re]) ∧ Kp w w' := by
  have hz : ((bytesOf s).size : Int) ≤ 22 := by rw [bytesOf_size]; omega
  have wf := rd_wf (Lib.fieldsD s)
  rw [hi] at wf
  have HB := Lib.hid (fieldsD_bd s (by omega))
  have HI := Lib.hid hi
  have HT := Lib.hid ht
  have HC := Lib.hid hce
  have HW := Lib.hid wf
  have hb := beq_bytes t s
  rw [hbt] at hb
  have kwa : Kp w (w.alloc (.cells #[.int .i64 0, .int .i64 0, .int .i64 0, .int .i64 0] 27)) := (Kp.refl w).alloc _ _
  have hRz : w.heap.size < (w.alloc (.cells #[.int .i64 0, .int .i64 0, .int .i64 0, .int .i64 0] 27)).heap.size := by simp
  have HRC := Lib.hid (show ∀ j, j < 4 → (w.alloc (.cells #[.int .i64 0, .int .i64 0, .int .i64 0, .int .i64 0] 27)).cell? ⟨w.heap.size, j, none⟩ = some (.int .i64 0) from fun j hj => by
    obtain rfl | rfl | rfl | rfl : j = 0 ∨ j = 1 ∨ j = 2 ∨ j = 3 := by omega
    all_goals simp)
  have HRF := Lib.hid (show ∀ j, (w.alloc (.cells #[.int .i64 0, .int .i64 0, .int .i64 0, .int .i64 0] 27)).frozen? ⟨w.heap.size, j, none⟩ = false from fun j => by simp)
  have hEa := hE.kept kwa
  clear hi ht hce wf hbt hE
  generalize hwa : w.alloc (.cells #[.int .i64 0, .int .i64 0, .int .i64 0, .int .i64 0] 27) = wa at *
  have HWA := Lib.hid hwa
  clear hwa
  go_enter Tryd.func16, Tryd.ntmps16
  go_wp2_with fail
  rw [HWA.out]
  refine (Fields_any hEa s (by omega)).mono ?_
  rintro e w1 ⟨A, rfl, s1, k1⟩
  go_wp2_with fail
  refine (read_any (hEa.kept k1) (some ⟨A, 0, none⟩) (Lib.fieldsD s).length (Lib.fieldsD s) s1 HB.out.1 HB.out.2 ⟨op, x, y, z⟩ HI.out).mono ?_
  rintro e w2 ⟨rfl, k2⟩
  have kk2 := k1.trans k2
  clear s1 k1 k2
  go_wp2_with fail
  refine (Check_r (hEa.kept (kk2.alloc _ _)) op x y z ce HW.out HC.out).mono ?_
  rintro e w3 ⟨rfl, k3⟩
  have hc3 := k3.cells
  have hz3 := size_alloc k3
  have kk3 := (kk2.alloc _ _).trans k3
  rcases hr with ⟨rfl, rfl, rfl, rfl, rfl, rfl, rfl⟩ | ⟨rfl | ⟨rfl, rfl⟩, rfl, rfl, rfl, rfl, rfl⟩
  · go_wp2_with fail
    have tx := Text_any (hEa.kept kk3) ⟨ro, rx, ry, rz⟩ HW.out
    rw [HT.out] at tx
    refine tx.mono ?_
    clear tx
    rintro e w4 ⟨rfl, k4⟩
    have hc4 := k4.cells
    have hz4 := Nat.lt_of_lt_of_le hz3 k4.size
    have kk4 := kk3.trans k4
    have g0 : w4.cell? ⟨w.heap.size, 0, none⟩ = some (.int .i64 0) := (kk4.cells _ _ hRz).trans (HRC.out 0 (by omega))
    have g1 : w4.cell? ⟨w.heap.size, 1, none⟩ = some (.int .i64 0) := (kk4.cells _ _ hRz).trans (HRC.out 1 (by omega))
    have g2 : w4.cell? ⟨w.heap.size, 2, none⟩ = some (.int .i64 0) := (kk4.cells _ _ hRz).trans (HRC.out 2 (by omega))
    have g3 : w4.cell? ⟨w.heap.size, 3, none⟩ = some (.int .i64 0) := (kk4.cells _ _ hRz).trans (HRC.out 3 (by omega))
    have u0 : ∀ j, w4.frozen? ⟨w.heap.size, j, none⟩ = false := fun j => (kk4.fros _ _ hRz).trans (HRF.out j)
    have kw := kwa.trans kk4
    go_wp2
    exact bodyPost_ret (v := .tuple #[.agg #[.int .i64 ro, .int .i64 rx, .int .i64 ry, .int .i64 rz], .int .i64 0]) (by simp [results, Tryd.results16, go_sem, g0, g1, g2, g3]) rfl ⟨rfl, (((kw.setCell (Nat.le_refl _) _).setCell (Nat.le_refl _) _).setCell (Nat.le_refl _) _).setCell (Nat.le_refl _) _⟩
  · have g0 : w3.cell? ⟨w.heap.size, 0, none⟩ = some (.int .i64 0) := (kk3.cells _ _ hRz).trans (HRC.out 0 (by omega))
    have g1 : w3.cell? ⟨w.heap.size, 1, none⟩ = some (.int .i64 0) := (kk3.cells _ _ hRz).trans (HRC.out 1 (by omega))
    have g2 : w3.cell? ⟨w.heap.size, 2, none⟩ = some (.int .i64 0) := (kk3.cells _ _ hRz).trans (HRC.out 2 (by omega))
    have g3 : w3.cell? ⟨w.heap.size, 3, none⟩ = some (.int .i64 0) := (kk3.cells _ _ hRz).trans (HRC.out 3 (by omega))
    have u0 : ∀ j, w3.frozen? ⟨w.heap.size, j, none⟩ = false := fun j => (kk3.fros _ _ hRz).trans (HRF.out j)
    have kw := kwa.trans kk3
    go_wp2
    exact bodyPost_ret (v := .tuple #[.agg #[.int .i64 0, .int .i64 0, .int .i64 0, .int .i64 0], .int .i64 11]) (by simp [results, Tryd.results16, go_sem, g0, g1, g2, g3]) rfl ⟨rfl, (((kw.setCell (Nat.le_refl _) _).setCell (Nat.le_refl _) _).setCell (Nat.le_refl _) _).setCell (Nat.le_refl _) _⟩
  · go_wp2_with fail
    have tx := Text_any (hEa.kept kk3) ⟨op, x, y, z⟩ HW.out
    rw [HT.out] at tx
    refine tx.mono ?_
    clear tx
    rintro e w4 ⟨rfl, k4⟩
    have hc4 := k4.cells
    have hz4 := Nat.lt_of_lt_of_le hz3 k4.size
    have kk4 := kk3.trans k4
    have g0 : w4.cell? ⟨w.heap.size, 0, none⟩ = some (.int .i64 0) := (kk4.cells _ _ hRz).trans (HRC.out 0 (by omega))
    have g1 : w4.cell? ⟨w.heap.size, 1, none⟩ = some (.int .i64 0) := (kk4.cells _ _ hRz).trans (HRC.out 1 (by omega))
    have g2 : w4.cell? ⟨w.heap.size, 2, none⟩ = some (.int .i64 0) := (kk4.cells _ _ hRz).trans (HRC.out 2 (by omega))
    have g3 : w4.cell? ⟨w.heap.size, 3, none⟩ = some (.int .i64 0) := (kk4.cells _ _ hRz).trans (HRC.out 3 (by omega))
    have u0 : ∀ j, w4.frozen? ⟨w.heap.size, j, none⟩ = false := fun j => (kk4.fros _ _ hRz).trans (HRF.out j)
    have kw := kwa.trans kk4
    go_wp2
    exact bodyPost_ret (v := .tuple #[.agg #[.int .i64 0, .int .i64 0, .int .i64 0, .int .i64 0], .int .i64 11]) (by simp [results, Tryd.results16, go_sem, g0, g1, g2, g3]) rfl ⟨rfl, (((kw.setCell (Nat.le_refl _) _).setCell (Nat.le_refl _) _).setCell (Nat.le_refl _) _).setCell (Nat.le_refl _) _⟩
theorem Parse_any {w : World} (hE : Env w) (s : List UInt8) (hm : s.length ≤ 9223372036854775807) (i : In) (e : Int) (hi : prsI s = i) (he : prsE s = e) :
    Calls Tryd.prog 16 #[.string (bytesOf s)] w fun r w' => r = .returned (.tuple #[.agg #[.int .i64 i.op, .int .i64 i.a, .int .i64 i.b, .int .i64 i.c], .int .i64 e]) ∧ Kp w w' := by
  rw [← hi, ← he]
  unfold prsI prsE
  by_cases h : 22 < s.length
  · rw [prs_long h]
    exact Parse_long s h hm
  · cases hc : chk (rd (Lib.fieldsD s)) with
    | false =>
      rw [prs_bad h hc]
      exact Parse_core hE s (by omega) _ _ _ _ rfl _ rfl _ rfl _ rfl _ _ _ _ _ (.inr ⟨.inl (chkE_no hc), rfl, rfl, rfl, rfl, rfl⟩)
    | true =>
      by_cases ht : txt (rd (Lib.fieldsD s)) = s
      · rw [prs_good h hc ht]
        exact Parse_core hE s (by omega) _ _ _ _ rfl _ rfl _ rfl _ rfl _ _ _ _ _ (.inl ⟨chkE_yes hc, decide_eq_true ht, rfl, rfl, rfl, rfl, rfl⟩)
      · rw [prs_other h ht]
        exact Parse_core hE s (by omega) _ _ _ _ rfl _ rfl _ rfl _ rfl _ _ _ _ _ (.inr ⟨.inr ⟨chkE_yes hc, decide_eq_false ht⟩, rfl, rfl, rfl, rfl, rfl⟩)
end Co
end Go.Proofs.YtehmpakcfahmaaaDoor
