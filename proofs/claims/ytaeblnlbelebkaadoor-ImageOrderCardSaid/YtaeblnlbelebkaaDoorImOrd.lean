/-
  WALKS: package image, the order of the functions: all, next, order. Own work.
-/
import Derived.Test.YtaeblnlbelebkaaDoorImAsk
import Derived.Laws.MakeOwn
namespace Go.Proofs.YtaeblnlbelebkaaDoor
namespace Im
open Go.RowKit Go
open Co (Kp ret_int ret_bool ret2_int In in0 IIn Ics Wf)
open Ln (VIn Vcs)
set_option linter.unusedVariables false

theorem SetIn.below {B : Nat} {w w' : World} {S : Nat} {c : Nat → Bool} (h : SetIn w S c) (k : Below B w w') (hS : S < B) : SetIn w' S c :=
  ⟨Nat.lt_of_lt_of_le h.size k.size, fun g hg => (k.cell (p := ⟨S, g, none⟩) hS).trans (h.at' g hg), fun g => (k.frozen (p := ⟨S, g, none⟩) hS).trans (h.fro g)⟩
theorem Ics.below {B : Nat} {w w' : World} {b off n : Nat} {xs : Nat → Int} (h : Ics w b off xs n) (k : Below B w w') (hb : b < B) : Ics w' b off xs n :=
  ⟨Nat.lt_of_lt_of_le h.size k.size, fun i hi => (k.cell (p := ⟨b, off + i, none⟩) hb).trans (h.at' i hi)⟩
/-- A row of lists of numbers, all of it below block number B. -/
structure RowsB (w : World) (CB B n : Nat) (f : Nat → List Nat) : Prop where
  size : CB < w.heap.size
  lt : CB < B
  row : ∀ j, j < n → ∃ ao cap, w.cell? ⟨CB, j, none⟩ = some (.slice ao (f j).length cap) ∧ IIn w ao (fun q => (((f j).getD q 0 : Nat) : Int)) (f j).length ∧ ((f j).length : Int) ≤ 9223372036854775807 ∧ ∀ a, ao = some a → 0 < (f j).length → a.block < B
theorem RowsB.below {w w' : World} {CB B n : Nat} {f : Nat → List Nat} (h : RowsB w CB B n f) (k : Below B w w') : RowsB w' CB B n f :=
  ⟨Nat.lt_of_lt_of_le h.size k.size, h.lt, fun j hj => by
    obtain ⟨ao, cap, h1, h2, h3, h4⟩ := h.row j hj
    refine ⟨ao, cap, (k.cell (p := ⟨CB, j, none⟩) h.lt).trans h1, ?_, h3, h4⟩
    by_cases hz : (f j).length = 0
    · exact .inl hz
    · rcases h2 with h2 | ⟨b, off, rfl, g⟩
      · exact .inl h2
      · exact .inr ⟨b, off, rfl, Ics.below g k (h4 _ rfl (by omega))⟩⟩

theorem all_take {L : List Nat} {t : Nat → Bool} {k : Nat} (hk : k < L.length) (h : t (L.getD k 0) = false) : L.all t = false := by
  rw [List.all_eq_false]
  refine ⟨L.getD k 0, ?_, by rw [h]; decide⟩
  rw [List.getD_eq_getElem?_getD, List.getElem?_eq_getElem hk]
  exact List.getElem_mem hk
theorem all_full {L : List Nat} {t : Nat → Bool} (h : ∀ k, k < L.length → t (L.getD k 0) = true) : L.all t = true := by
  rw [List.all_eq_true]
  intro x hx
  obtain ⟨k, hk, e⟩ := List.mem_iff_getElem.1 hx
  have := h k hk
  rwa [List.getD_eq_getElem?_getD, List.getElem?_eq_getElem hk, Option.getD_some, e] at this
theorem getD_mem {L : List Nat} {k : Nat} (hk : k < L.length) : L.getD k 0 ∈ L := by
  rw [List.getD_eq_getElem?_getD, List.getElem?_eq_getElem hk]
  exact List.getElem_mem hk
set_option maxHeartbeats 1000000 in
theorem all_any {w : World} {S cap : Nat} {t : Nat → Bool} (hS : SetIn w S t) (ao : Option Addr) (L : List Nat) (hI : IIn w ao (fun q => ((L.getD q 0 : Nat) : Int)) L.length) (hn : (L.length : Int) ≤ 9223372036854775807) (h64 : ∀ x ∈ L, x < 64) (b : Bool) (hb : L.all t = b) :
    Calls Tryd.prog 73 #[.pointer (some ⟨S, 0, none⟩), .slice ao L.length cap] w fun e w' => e = .returned (.bool b) ∧ w = w' := by
  have HS := Lib.hid hS
  have HB := Lib.hid hb
  have hss := hS.size
  have H64 := Lib.hid h64
  have HI := Lib.hid hI
  clear hb hS h64 hI
  go_enter Tryd.func73, Tryd.ntmps73
  go_wp2
  go_loop [9] (fun i => ∃ k : Nat, k ≤ L.length ∧ i = .int .i64 k ∧ Hid (∀ q, q < k → t (L.getD q 0) = true)) (fun i => L.length - (intOf i).toNat)
  case atStart => exact ⟨0, Nat.zero_le _, rfl, fun q hq => absurd hq (Nat.not_lt_zero _)⟩
  case round =>
    obtain ⟨k, hk, rfl, hall⟩ := hrel
    by_cases hlt : k < L.length
    · obtain ⟨b0, off, hbo, hIc⟩ := IIn.at HI.out hlt
      subst hbo
      have x0 := hIc.at' k hlt
      have hbs := hIc.size
      have hx := H64.out _ (getD_mem hlt)
      have hcell := HS.out.at' _ hx
      have NO : Hid (t (L.getD k 0) = false → b = false) := fun g => by rw [← HB.out]; exact all_take hlt g
      have YE : Hid (t (L.getD k 0) = true → ∀ q, q < k + 1 → t (L.getD q 0) = true) := fun g q hq => by
        by_cases e : q = k
        · subst e; exact g
        · exact hall.out q (by omega)
      generalize L.getD k 0 = g at *
      have g0 : (0 : Int) ≤ (g : Int) := by omega
      have g1 : (g : Int) < 64 := by omega
      clear hIc
      cases ht : t g with
      | true =>
        rw [ht] at hcell
        have HY := Lib.hid (YE.out ht)
        clear ht
        go_wp2
        go_round
        case rel => exact ⟨k + 1, by omega, by go_num, HY.out⟩
        case measure => simp [intOf]; omega
      | false =>
        rw [ht] at hcell
        have HN := Lib.hid (NO.out ht)
        clear ht
        go_wp2
        go_ret
        exact ⟨ret_bool HN.out.symm, rfl⟩
    · obtain rfl : k = L.length := by omega
      go_wp2
      go_ret
      exact ⟨ret_bool (by rw [← HB.out]; exact (all_full hall.out).symm), rfl⟩

/-- The first that is not there, but all that it calls. -/
def rdyT (t : Nat → Bool) (f : Nat → List Nat) (x : Nat) : Bool := !t x && (f x).all t
def nextT (t : Nat → Bool) (f : Nat → List Nat) (n : Nat) : Nat := ((List.range n).find? (rdyT t f)).getD 0
theorem nextT_hit {t : Nat → Bool} {f : Nat → List Nat} {n k : Nat} (hk : k < n) (h : rdyT t f k = true) (hn : ∀ q, q < k → rdyT t f q = false) : nextT t f n = k := by
  unfold nextT
  have : (List.range n).find? (rdyT t f) = some k := by
    rw [List.find?_eq_some_iff_getElem]
    refine ⟨h, k, by simpa using hk, by simp, fun j hj => ?_⟩
    simp [hn j hj]
  rw [this]; rfl
theorem nextT_none {t : Nat → Bool} {f : Nat → List Nat} {n : Nat} (hn : ∀ q, q < n → rdyT t f q = false) : nextT t f n = 0 := by
  unfold nextT
  have : (List.range n).find? (rdyT t f) = none := by
    rw [List.find?_eq_none]
    intro x hx
    rw [List.mem_range] at hx
    simp [hn x hx]
  rw [this]; rfl
set_option maxHeartbeats 2000000 in
set_option maxRecDepth 100000 in
theorem next_any {w : World} {S CB B n : Nat} {t : Nat → Bool} {f : Nat → List Nat} (hS : SetIn w S t) (hR : RowsB w CB B n f) (hn : n ≤ 64) (h64 : ∀ j, j < n → ∀ x ∈ f j, x < 64) (r : Nat) (hr : nextT t f n = r) :
    Calls Tryd.prog 46 #[.slice (some ⟨CB, 0, none⟩) n n, .pointer (some ⟨S, 0, none⟩)] w fun e w' => e = .returned (.int .i64 r) ∧ w = w' := by
  have HS := Lib.hid hS
  have HR := Lib.hid hr
  have hss := hS.size
  have H64 := Lib.hid h64
  have HRW := Lib.hid hR
  have hcs := hR.size
  clear hr hS h64 hR
  go_enter Tryd.func46, Tryd.ntmps46
  go_wp2
  go_loop [9] (fun i => ∃ k : Nat, k ≤ n ∧ i = .int .i64 k ∧ Hid (∀ q, q < k → rdyT t f q = false)) (fun i => n - (intOf i).toNat)
  case atStart => exact ⟨0, Nat.zero_le _, rfl, fun q hq => absurd hq (Nat.not_lt_zero _)⟩
  case round =>
    obtain ⟨k, hk, rfl, hall⟩ := hrel
    by_cases hlt : k < n
    · obtain ⟨ao, cap, x0, hI, hlen, _⟩ := HRW.out.row k hlt
      have hcell := HS.out.at' k (by omega)
      have g0 : (0 : Int) ≤ (k : Int) := by omega
      have g1 : (k : Int) < 64 := by omega
      have g2 : (k : Int) < n := by omega
      have hrd : rdyT t f k = (!t k && (f k).all t) := rfl
      have HIT : Hid (rdyT t f k = true → r = k) := fun g => by rw [← HR.out]; exact nextT_hit hlt g hall.out
      have MISS : Hid (rdyT t f k = false → ∀ q, q < k + 1 → rdyT t f q = false) := fun g q hq => by
        by_cases e : q = k
        · subst e; exact g
        · exact hall.out q (by omega)
      have HL64 := Lib.hid (H64.out k hlt)
      have HI := Lib.hid hI
      generalize f k = L at *
      have HLE := Lib.hid hlen
      clear hI hlen
      cases ht : t k with
      | true =>
        rw [ht] at hcell hrd
        have HM := Lib.hid (MISS.out (by rw [hrd]; rfl))
        clear ht hrd
        go_wp2
        go_round
        case rel => exact ⟨k + 1, by omega, by go_num, HM.out⟩
        case measure => simp [intOf]; omega
      | false =>
        rw [ht] at hcell hrd
        have HRD := Lib.hid hrd
        clear ht hrd
        cases ha : L.all t with
        | true =>
          have HA := Lib.hid ha
          have HH := Lib.hid (HIT.out (by rw [HRD.out, ha]; rfl))
          clear ha
          go_wp2_with (go_at_call 73; refine (all_any HS.out ao L HI.out HLE.out HL64.out true HA.out).mono ?_; rintro e w4 ⟨rfl, rfl⟩)
          go_ret
          exact ⟨ret_int (by rw [HH.out]), rfl⟩
        | false =>
          have HA := Lib.hid ha
          have HM := Lib.hid (MISS.out (by rw [HRD.out, ha]; rfl))
          clear ha
          go_wp2_with (go_at_call 73; refine (all_any HS.out ao L HI.out HLE.out HL64.out false HA.out).mono ?_; rintro e w4 ⟨rfl, rfl⟩)
          go_round
          case rel => exact ⟨k + 1, by omega, by go_num, HM.out⟩
          case measure => simp [intOf]; omega
    · obtain rfl : k = n := by omega
      go_wp2
      go_ret
      exact ⟨ret_int (by rw [← HR.out, nextT_none hall.out]; rfl), rfl⟩
end Im
end Go.Proofs.YtaeblnlbelebkaaDoor
