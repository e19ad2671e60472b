/-
  WALKS: the kit's Ints, Texts, Lists, Pick. Own work.
-/
import Derived.Test.YtaeblnlbelebkaaGreatDoorImRead
import Derived.BigQuiet
namespace Go.Proofs.YtaeblnlbelebkaaGreatDoor
namespace Im
open Go.RowKit Go
open Co (Kp ret_int ret_bool ret2_int In in0 IIn Ics Wf)
open Ln (VIn Vcs)
set_option linter.unusedVariables false

/-- A world in which only draws were made. -/
def Qt (w w' : World) : Prop := ∃ m, w' = w.drewN m
theorem Qt.refl (w : World) : Qt w w := ⟨0, rfl⟩
theorem Qt.kp {w w' : World} (h : Qt w w') : Kp w w' := by
  obtain ⟨m, rfl⟩ := h
  exact (Kp.refl w).drewN m
theorem Qt.drew {w w' : World} (h : Qt w w') (m : Nat) : Qt w (w'.drewN m) := by
  obtain ⟨n, rfl⟩ := h
  exact ⟨n + m, by rw [World.drewN_drewN]⟩
/-- A callee that only draws is quiet behind draws. -/
theorem quietD {P : Program} {f : FuncId} {args : Array Value} {w : World} {n : Nat} {v : Value}
    (h : Calls P f args (w.drewN n) fun e w' => e = .returned v ∧ Qt (w.drewN n) w') : Calls P f args (w.drewN n) fun e w'' => e = .returned v ∧ ∃ m, w'' = w.drewN m :=
  h.mono fun _ _ ⟨he, m, hm⟩ => ⟨he, n + m, by rw [hm, World.drewN_drewN]⟩
theorem ext_getD {α : Type} {xs ys : List α} {d : α} (hl : xs.length = ys.length) (h : ∀ j, j < xs.length → xs.getD j d = ys.getD j d) : xs = ys := by
  apply List.ext_getElem hl
  intro i h1 h2
  have := h i h1
  rwa [List.getD_eq_getElem?_getD, List.getElem?_eq_getElem h1, List.getD_eq_getElem?_getD, List.getElem?_eq_getElem h2] at this
theorem ne_getD {α : Type} {xs ys : List α} {d : α} {j : Nat} (h : xs.getD j d ≠ ys.getD j d) : xs ≠ ys := fun e => h (by rw [e])
theorem ne_len {α : Type} {xs ys : List α} (h : xs.length ≠ ys.length) : xs ≠ ys := fun e => h (by rw [e])
set_option maxHeartbeats 1000000 in
theorem ints_same (ao bo : Option Addr) (ca cb n : Nat) (xs ys : List Int) (w : World) (hv : IIn w ao (fun j => xs.getD j 0) n) (hv2 : IIn w bo (fun j => ys.getD j 0) n) (lx : xs.length = n) (ly : ys.length = n) (hn : n ≤ 9223372036854775807) (r : Bool) (hr : xs = ys ↔ r = true) :
    Calls Tryz.prog 23 #[.slice ao n ca, .slice bo n cb] w fun e w' => e = .returned (.bool r) ∧ Qt w w' := by
  have HR := Lib.hid hr
  have HV := Lib.hid hv
  have HV2 := Lib.hid hv2
  have LX := Lib.hid lx
  have LY := Lib.hid ly
  clear hr hv hv2 lx ly
  go_enter Tryz.func23, Tryz.ntmps23
  go_wp2
  go_loopw [5] (fun i wr => ∃ (k : Nat), k ≤ n ∧ i = .int .i64 k ∧ Qt w wr ∧ Hid (∀ j, j < k → xs.getD j 0 = ys.getD j 0)) (fun i _ => n - (intOf i).toNat)
  case atStart => exact ⟨0, Nat.zero_le _, rfl, Qt.refl _, fun j h => absurd h (Nat.not_lt_zero j)⟩
  case round =>
    obtain ⟨k, hk, rfl, hkp, ha⟩ := hrel
    have HA := Lib.hid ha
    clear ha
    by_cases hlt : k < n
    · obtain ⟨b, off, hao, hvc⟩ := IIn.at (HV.out.kp hkp.kp) hlt
      subst hao
      obtain ⟨b2, off2, hbo, hvc2⟩ := IIn.at (HV2.out.kp hkp.kp) hlt
      subst hbo
      have cl := hvc.at' k hlt
      have cl2 := hvc2.at' k hlt
      clear hvc hvc2
      have hk0 : (0 : Int) ≤ (k : Int) := Int.natCast_nonneg _
      have hk1 : (k : Int) < (n : Int) := by omega
      by_cases hx : xs.getD k 0 = ys.getD k 0
      · have HX : Hid (∀ j, j < k + 1 → xs.getD j 0 = ys.getD j 0) := Lib.hid (fun j hj => by
          rcases Nat.lt_succ_iff_lt_or_eq.1 hj with h2 | h2
          · exact HA.out.out j h2
          · subst h2; exact hx)
        generalize xs.getD k 0 = x at *
        generalize ys.getD k 0 = y at *
        have hx : (x != y) = false := by simpa using hx
        go_wp2
        go_quiet (fail)
        go_wp2
        go_roundw
        case rel => exact ⟨k + 1, by omega, by go_num, hkp.drew _, HX⟩
        case measure => simp [intOf]; omega
      · have HX := Lib.hid hx
        have FIN : Hid (r = false) := Lib.hid (by
          have : ¬ r = true := fun e => ne_getD hx (HR.out.2 e)
          simpa using this)
        generalize xs.getD k 0 = x at *
        generalize ys.getD k 0 = y at *
        have hx : (x != y) = true := by simpa using hx
        go_wp2
        go_quiet (fail)
        go_wp2
        go_ret
        exact ⟨ret_bool FIN.out.symm, hkp.drew _⟩
    · obtain rfl : k = n := by omega
      go_wp2
      go_ret
      exact ⟨ret_bool (HR.out.1 (ext_getD (d := 0) (by rw [LX.out, LY.out]) (fun j hj => HA.out.out j (by rw [← LX.out]; exact hj)))).symm, hkp⟩
theorem Ints_any (ao bo : Option Addr) (ca cb : Nat) (xs ys : List Int) (w : World) (hv : IIn w ao (fun j => xs.getD j 0) xs.length) (hv2 : IIn w bo (fun j => ys.getD j 0) ys.length) (hn : xs.length ≤ 9223372036854775807) (r : Bool) (hr : xs = ys ↔ r = true) :
    Calls Tryz.prog 23 #[.slice ao xs.length ca, .slice bo ys.length cb] w fun e w' => e = .returned (.bool r) ∧ Qt w w' := by
  by_cases hnm : xs.length = ys.length
  · have := ints_same ao bo ca cb xs.length xs ys w hv (by rw [hnm]; exact hv2) rfl hnm.symm hn r hr
    rw [← hnm]
    exact this
  · have FIN : r = false := by
      have : ¬ r = true := fun e => ne_len hnm (hr.2 e)
      simpa using this
    subst FIN
    have hne : ((xs.length : Int) != (ys.length : Int)) = true := by simpa using (by omega : ¬ (xs.length : Int) = ys.length)
    clear hv hv2 hr
    generalize xs.length = n at *
    generalize ys.length = m at *
    go_enter Tryz.func23, Tryz.ntmps23
    go_wp2
    go_ret
    exact ⟨rfl, Qt.refl _⟩
theorem AIn.cell {w : World} {ao : Option Addr} {l : List (List Int)} (h : AIn w ao l) {i : Nat} (hi : i < l.length) : ∃ b off, ao = some ⟨b, off, none⟩ ∧ b < w.heap.size ∧ ∃ aox cap, w.cell? ⟨b, off + i, none⟩ = some (.slice aox (l.getD i []).length cap) ∧ IIn w aox (fun j => (l.getD i []).getD j 0) (l.getD i []).length := by
  obtain ⟨b, off, e, g⟩ := AIn.at h hi
  exact ⟨b, off, e, g.size, g.at' i hi⟩
set_option maxHeartbeats 1000000 in
theorem lists_same (ao bo : Option Addr) (ca cb n : Nat) (xs ys : List (List Int)) (w : World) (hv : AIn w ao xs) (hv2 : AIn w bo ys) (lx : xs.length = n) (ly : ys.length = n) (hn : n ≤ 9223372036854775807) (hne : ∀ k, (xs.getD k []).length ≤ 9223372036854775807) (r : Bool) (hr : xs = ys ↔ r = true) :
    Calls Tryz.prog 37 #[.slice ao n ca, .slice bo n cb] w fun e w' => e = .returned (.bool r) ∧ Qt w w' := by
  have HR := Lib.hid hr
  have HV := Lib.hid hv
  have HV2 := Lib.hid hv2
  have LX := Lib.hid lx
  have LY := Lib.hid ly
  have HNE := Lib.hid hne
  clear hr hv hv2 lx ly hne
  go_enter Tryz.func37, Tryz.ntmps37
  go_wp2
  go_loopw [5] (fun i wr => ∃ (k : Nat), k ≤ n ∧ i = .int .i64 k ∧ Qt w wr ∧ Hid (∀ j, j < k → xs.getD j [] = ys.getD j [])) (fun i _ => n - (intOf i).toNat)
  case atStart => exact ⟨0, Nat.zero_le _, rfl, Qt.refl _, fun j h => absurd h (Nat.not_lt_zero j)⟩
  case round =>
    obtain ⟨k, hk, rfl, hkp, ha⟩ := hrel
    have HA := Lib.hid ha
    clear ha
    by_cases hlt : k < n
    · obtain ⟨b, off, hao, hb, aox, cx, cl, hix⟩ := AIn.cell (HV.out.kp hkp.kp) (i := k) (by rw [LX.out]; exact hlt)
      subst hao
      obtain ⟨b2, off2, hbo, hb2, aoy, cy, cl2, hiy⟩ := AIn.cell (HV2.out.kp hkp.kp) (i := k) (by rw [LY.out]; exact hlt)
      subst hbo
      have hk0 : (0 : Int) ≤ (k : Int) := Int.natCast_nonneg _
      have hk1 : (k : Int) < (n : Int) := by omega
      have hlen := HNE.out k
      by_cases hx : xs.getD k [] = ys.getD k []
      · have HX : Hid (∀ j, j < k + 1 → xs.getD j [] = ys.getD j []) := Lib.hid (fun j hj => by
          rcases Nat.lt_succ_iff_lt_or_eq.1 hj with h2 | h2
          · exact HA.out.out j h2
          · subst h2; exact hx)
        generalize xs.getD k [] = x at *
        generalize ys.getD k [] = y at *
        have HC : Hid (∀ q, Calls Tryz.prog 23 #[.slice aox x.length cx, .slice aoy y.length cy] (wr.drewN q) fun e w' => e = .returned (.bool true) ∧ Qt (wr.drewN q) w') :=
          Lib.hid (fun q => Ints_any aox aoy cx cy x y _ (hix.kp ((Kp.refl wr).drewN q)) (hiy.kp ((Kp.refl wr).drewN q)) hlen true (by simpa using hx))
        clear hx hix hiy hlen
        generalize x.length = lx at *
        generalize y.length = ly at *
        go_wp2
        go_quiet ((go_at_call 23; exact quietD (HC.out _)))
        go_wp2
        go_roundw
        case rel => exact ⟨k + 1, by omega, by go_num, hkp.drew _, HX⟩
        case measure => simp [intOf]; omega
      · have FIN : Hid (r = false) := Lib.hid (by
          have : ¬ r = true := fun e => ne_getD hx (HR.out.2 e)
          simpa using this)
        generalize xs.getD k [] = x at *
        generalize ys.getD k [] = y at *
        have HC : Hid (∀ q, Calls Tryz.prog 23 #[.slice aox x.length cx, .slice aoy y.length cy] (wr.drewN q) fun e w' => e = .returned (.bool false) ∧ Qt (wr.drewN q) w') :=
          Lib.hid (fun q => Ints_any aox aoy cx cy x y _ (hix.kp ((Kp.refl wr).drewN q)) (hiy.kp ((Kp.refl wr).drewN q)) hlen false (by simpa using hx))
        clear hx hix hiy hlen
        generalize x.length = lx at *
        generalize y.length = ly at *
        go_wp2
        go_quiet ((go_at_call 23; exact quietD (HC.out _)))
        go_wp2
        go_ret
        exact ⟨ret_bool FIN.out.symm, hkp.drew _⟩
    · obtain rfl : k = n := by omega
      go_wp2
      go_ret
      exact ⟨ret_bool (HR.out.1 (ext_getD (d := []) (by rw [LX.out, LY.out]) (fun j hj => HA.out.out j (by rw [← LX.out]; exact hj)))).symm, hkp⟩
theorem Lists_any (ao bo : Option Addr) (ca cb : Nat) (xs ys : List (List Int)) (w : World) (hv : AIn w ao xs) (hv2 : AIn w bo ys) (hn : xs.length ≤ 9223372036854775807) (hne : ∀ k, (xs.getD k []).length ≤ 9223372036854775807) (r : Bool) (hr : xs = ys ↔ r = true) :
    Calls Tryz.prog 37 #[.slice ao xs.length ca, .slice bo ys.length cb] w fun e w' => e = .returned (.bool r) ∧ Qt w w' := by
  by_cases hnm : xs.length = ys.length
  · have := lists_same ao bo ca cb xs.length xs ys w hv hv2 rfl hnm.symm hn hne r hr
    rw [← hnm]
    exact this
  · have FIN : r = false := by
      have : ¬ r = true := fun e => ne_len hnm (hr.2 e)
      simpa using this
    subst FIN
    have hneq : ((xs.length : Int) != (ys.length : Int)) = true := by simpa using (by omega : ¬ (xs.length : Int) = ys.length)
    clear hv hv2 hr hne
    generalize xs.length = n at *
    generalize ys.length = m at *
    go_enter Tryz.func37, Tryz.ntmps37
    go_wp2
    go_ret
    exact ⟨rfl, Qt.refl _⟩
end Im
end Go.Proofs.YtaeblnlbelebkaaGreatDoor
