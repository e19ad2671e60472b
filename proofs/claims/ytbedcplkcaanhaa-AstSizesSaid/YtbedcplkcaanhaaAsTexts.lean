/-
  WALKS: the kit's Texts. Own work.
-/
import Derived.Test.YtbedcplkcaanhaaAsOne
import Derived.BigQuiet
namespace Go.Proofs.Ytbedcplkcaanhaa
namespace As
open Go.RowKit Go
set_option linter.unusedVariables false

theorem tolist (l : List UInt8) : (bytesOf l).toList = l := Lx.bytesOf_toList l
def Qt (w w' : World) : Prop := ∃ m, w' = w.drewN m
theorem Qt.refl (w : World) : Qt w w := ⟨0, rfl⟩
theorem Qt.below {w w' : World} (h : Qt w w') : Below w.heap.size w w' := by
  obtain ⟨m, rfl⟩ := h
  exact ⟨rfl, rfl, rfl, Nat.le_refl _, fun _ _ => rfl⟩
theorem Qt.drew {w w' : World} (h : Qt w w') (m : Nat) : Qt w (w'.drewN m) := by
  obtain ⟨n, rfl⟩ := h
  exact ⟨n + m, by rw [World.drewN_drewN]⟩
theorem ext_getD {α : Type} {xs ys : List α} {d : α} (hl : xs.length = ys.length) (h : ∀ j, j < xs.length → xs.getD j d = ys.getD j d) : xs = ys := by
  apply List.ext_getElem hl
  intro i h1 h2
  have := h i h1
  rwa [List.getD_eq_getElem?_getD, List.getElem?_eq_getElem h1, List.getD_eq_getElem?_getD, List.getElem?_eq_getElem h2] at this
theorem ne_getD {α : Type} {xs ys : List α} {d : α} {j : Nat} (h : xs.getD j d ≠ ys.getD j d) : xs ≠ ys := fun e => h (by rw [e])
theorem ne_len {α : Type} {xs ys : List α} (h : xs.length ≠ ys.length) : xs ≠ ys := fun e => h (by rw [e])
theorem ret_boolA {a b : Bool} (h : a = b) : Ending.returned (.bool a) = Ending.returned (.bool b) := by rw [h]
/-- Texts in memory. -/
def SIn (w : World) (ao : Option Addr) (l : List (List UInt8)) : Prop := l.length = 0 ∨ ∃ b off, ao = some ⟨b, off, none⟩ ∧ b < w.heap.size ∧ ∀ i, i < l.length → w.cell? ⟨b, off + i, none⟩ = some (.string (bytesOf (l.getD i [])))
theorem SIn.kp {w w' : World} {ao : Option Addr} {l : List (List UInt8)} (h : SIn w ao l) (k : Below w.heap.size w w') : SIn w' ao l :=
  h.imp id fun ⟨b, off, e, g, c⟩ => ⟨b, off, e, Nat.lt_of_lt_of_le g k.size, fun i hi => (k.cell (p := ⟨b, off + i, none⟩) g).trans (c i hi)⟩
theorem SIn.at {w : World} {ao : Option Addr} {l : List (List UInt8)} (h : SIn w ao l) {i : Nat} (hi : i < l.length) : ∃ b off, ao = some ⟨b, off, none⟩ ∧ b < w.heap.size ∧ w.cell? ⟨b, off + i, none⟩ = some (.string (bytesOf (l.getD i []))) := by
  rcases h with h | ⟨b, off, e, g, c⟩
  · omega
  · exact ⟨b, off, e, g, c i hi⟩
set_option maxHeartbeats 1000000 in
theorem texts_same (ao bo : Option Addr) (ca cb n : Nat) (xs ys : List (List UInt8)) (w : World) (hv : SIn w ao xs) (hv2 : SIn w bo ys) (lx : xs.length = n) (ly : ys.length = n) (hn : n ≤ 9223372036854775807) (r : Bool) (hr : xs = ys ↔ r = true) :
    Calls Try.prog 23 #[.slice ao n ca, .slice bo n cb] w fun e w' => e = .returned (.bool r) ∧ Qt w w' := by
  have HR := Lib.hid hr
  have HV := Lib.hid hv
  have HV2 := Lib.hid hv2
  have LX := Lib.hid lx
  have LY := Lib.hid ly
  clear hr hv hv2 lx ly
  go_enter Try.func23, Try.ntmps23
  go_wp2
  go_loopw [5] (fun i wr => ∃ (k : Nat), k ≤ n ∧ i = .int .i64 k ∧ Qt w wr ∧ Hid (∀ j, j < k → xs.getD j [] = ys.getD j [])) (fun i _ => n - (intOf i).toNat)
  case atStart => exact ⟨0, Nat.zero_le _, rfl, Qt.refl _, fun j h => absurd h (Nat.not_lt_zero j)⟩
  case round =>
    obtain ⟨k, hk, rfl, hkp, ha⟩ := hrel
    have HA := Lib.hid ha
    clear ha
    by_cases hlt : k < n
    · obtain ⟨b, off, hao, hbs, cl⟩ := SIn.at (HV.out.kp hkp.below) (i := k) (by rw [LX.out]; exact hlt)
      subst hao
      obtain ⟨b2, off2, hbo, hbs2, cl2⟩ := SIn.at (HV2.out.kp hkp.below) (i := k) (by rw [LY.out]; exact hlt)
      subst hbo
      have hk0 : (0 : Int) ≤ (k : Int) := Int.natCast_nonneg _
      have hk1 : (k : Int) < (n : Int) := by omega
      by_cases hx : xs.getD k [] = ys.getD k []
      · have HX : Hid (∀ j, j < k + 1 → xs.getD j [] = ys.getD j []) := Lib.hid (fun j hj => by
          rcases Nat.lt_succ_iff_lt_or_eq.1 hj with h2 | h2
          · exact HA.out.out j h2
          · subst h2; exact hx)
        generalize xs.getD k [] = x at *
        generalize ys.getD k [] = y at *
        have hx : ((bytesOf x).toList == (bytesOf y).toList) = true := by rw [tolist, tolist]; simpa using hx
        go_wp2
        go_quiet (fail)
        go_wp2
        go_roundw
        case rel => exact ⟨k + 1, by omega, by go_num, hkp.drew _, HX⟩
        case measure => simp [intOf]; omega
      · have HX := Lib.hid hx
        have FIN : Hid (r = false) := Lib.hid (by
          have : ¬ r = true := fun e => ne_getD hx (HR.out.2 e)
          simpa using this)
        generalize xs.getD k [] = x at *
        generalize ys.getD k [] = y at *
        have hx : ((bytesOf x).toList == (bytesOf y).toList) = false := by rw [tolist, tolist]; simpa using hx
        go_wp2
        go_quiet (fail)
        go_wp2
        go_ret
        exact ⟨ret_boolA FIN.out.symm, hkp.drew _⟩
    · obtain rfl : k = n := by omega
      go_wp2
      go_ret
      exact ⟨ret_boolA (HR.out.1 (ext_getD (d := []) (by rw [LX.out, LY.out]) (fun j hj => HA.out.out j (by rw [← LX.out]; exact hj)))).symm, hkp⟩
theorem Texts_any (ao bo : Option Addr) (ca cb : Nat) (xs ys : List (List UInt8)) (w : World) (hv : SIn w ao xs) (hv2 : SIn w bo ys) (hn : xs.length ≤ 9223372036854775807) (r : Bool) (hr : xs = ys ↔ r = true) :
    Calls Try.prog 23 #[.slice ao xs.length ca, .slice bo ys.length cb] w fun e w' => e = .returned (.bool r) ∧ Qt w w' := by
  by_cases hnm : xs.length = ys.length
  · have := texts_same ao bo ca cb xs.length xs ys w hv hv2 rfl hnm.symm hn r hr
    rw [← hnm]
    exact this
  · have FIN : r = false := by
      have : ¬ r = true := fun e => ne_len hnm (hr.2 e)
      simpa using this
    subst FIN
    have hne : ((xs.length : Int) != (ys.length : Int)) = true := by simpa using (by omega : ¬ (xs.length : Int) = ys.length)
    clear hv hv2 hr
    generalize xs.length = n at *
    generalize ys.length = m at *
    go_enter Try.func23, Try.ntmps23
    go_wp2
    go_ret
    exact ⟨rfl, Qt.refl _⟩
end As
end Go.Proofs.Ytbedcplkcaanhaa
