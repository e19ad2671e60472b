/-
  WALKS: Find, Take and the closure of Take of package lines. Own work.
-/
import Derived.Test.YtlhbpklilfabnaaDoorLinCheck
import Derived.Deep.RegionHeld3
namespace Go.Proofs.YtlhbpklilfabnaaDoor
namespace Ln
open Go.RowKit Go
set_option linter.unusedVariables false

theorem ret2_ib {k : IntKind} {a b : Int} {c d : Bool} (h : a = b) (g : c = d) : Ending.returned (.tuple #[.int k a, .bool c]) = .returned (.tuple #[.int k b, .bool d]) := by rw [h, g]
theorem ret2_int {k l : IntKind} {a b c d : Int} (h : a = b) (g : c = d) : Ending.returned (.tuple #[.int k a, .int l c]) = .returned (.tuple #[.int k b, .int l d]) := by rw [h, g]

set_option maxHeartbeats 400000 in
theorem find_any (ao : Option Addr) (n cap : Nat) (vs : Nat → Vc) (x : Int) (w : World) (hv : VIn w ao vs n) (hn : n ≤ maxLen) :
    Calls Tryd.prog 9 #[.slice ao n cap, .int .i64 x] w fun e w' => e = .returned (.tuple #[.int .i64 (oi (fnd vs x n)), .bool (ob (fnd vs x n))]) ∧ Kp w w' := by
  unfold maxLen at hn
  go_enter Tryd.func9, Tryd.ntmps9
  go_wp2
  go_loopw [10] (fun i wr => ∃ (k : Nat), k ≤ n ∧ i = .int .i64 k ∧ fnd vs x k = none ∧ Kp w wr) (fun i _ => n - (intOf i).toNat)
  case atStart => exact ⟨0, Nat.zero_le _, rfl, rfl, Kp.refl _⟩
  case round =>
    obtain ⟨k, hk, rfl, hf, hkp⟩ := hrel
    have HF := Lib.hid hf
    clear hf
    by_cases hlt : k < n
    · obtain ⟨b, off, hao, hvc⟩ := (hv.kp hkp).at hlt
      subst hao
      have cl := hvc.l k hlt
      have cp := hvc.p k hlt
      have cf := hvc.f k hlt
      have HV := Lib.hid hvc
      clear hvc
      by_cases hx : (vs k).l = x
      · have HX := Lib.hid hx
        have hx : ((vs k).l == x) = true := by simpa using hx
        go_wp2
        go_ret2
        exact ⟨ret2_ib (by rw [fnd_hit HF.out HX.out n hlt]; rfl) (by rw [fnd_hit HF.out HX.out n hlt]; rfl), hkp.alloc _ _⟩
      · have HX := Lib.hid hx
        have hx : ((vs k).l == x) = false := by simpa using hx
        go_wp2
        go_roundw
        case rel => exact ⟨k + 1, by omega, by go_num, fnd_no HF.out HX.out, hkp.alloc _ _⟩
        case measure => simp [intOf]; omega
    · obtain rfl : k = n := by omega
      go_wp2
      go_ret2
      exact ⟨ret2_ib (by rw [HF.out]; rfl) (by rw [HF.out]; rfl), hkp⟩

theorem clo_first (v : Vc) (pf pl pb : Nat) (w : World) (hf : w.cell? ⟨pf, 0, none⟩ = some (.bool false)) (hfs : pf < w.heap.size) :
    Calls Tryd.prog 28 #[.agg #[.int .i64 v.l, .int .i64 v.p, .int .i64 v.f], .pointer (some ⟨pf, 0, none⟩), .pointer (some ⟨pl, 0, none⟩), .pointer (some ⟨pb, 0, none⟩)] w
      fun e w' => e = .returned (.bool true) ∧ Kp w w' := by
  go_enter Tryd.func28, Tryd.ntmps28
  go_wp2
  go_quiet (fail)
  go_wp2
  go_ret
  exact ⟨rfl, ((Kp.refl _).alloc _ _).drewN _⟩
set_option maxHeartbeats 400000 in
theorem clo_next (v : Vc) (pf pl pb b off n cap k : Nat) (vs : Nat → Vc) (w : World) (hf : w.cell? ⟨pf, 0, none⟩ = some (.bool true)) (hfs : pf < w.heap.size) (hl : w.cell? ⟨pl, 0, none⟩ = some (.slice (some ⟨b, off, none⟩) n cap)) (hls : pl < w.heap.size)
    (hb : w.cell? ⟨pb, 0, none⟩ = some (.int .i64 k)) (hbs : pb < w.heap.size) (hk : k < n) (hv : Vcs w b off vs n) :
    Calls Tryd.prog 28 #[.agg #[.int .i64 v.l, .int .i64 v.p, .int .i64 v.f], .pointer (some ⟨pf, 0, none⟩), .pointer (some ⟨pl, 0, none⟩), .pointer (some ⟨pb, 0, none⟩)] w
      fun e w' => e = .returned (.bool (beB v (vs k))) ∧ Kp w w' := by
  have cl := hv.l k hk
  have cp := hv.p k hk
  have cf := hv.f k hk
  have hvs := hv.size
  clear hv
  have hk0 : (0 : Int) ≤ (k : Int) := Int.natCast_nonneg _
  have hk1 : (k : Int) < (n : Int) := by omega
  go_enter Tryd.func28, Tryd.ntmps28
  go_wp2
  have KP : ∀ w', Kp (w.alloc (.cells #[.int .i64 v.l, .int .i64 v.p, .int .i64 v.f] 35)) w' → Kp (w.alloc (.cells #[.int .i64 v.l, .int .i64 v.p, .int .i64 v.f] 35)) w' ∧ w'.cell? ⟨w.heap.size, 0, none⟩ = some (.int .i64 v.l) ∧ w'.cell? ⟨w.heap.size, 1, none⟩ = some (.int .i64 v.p) ∧ w'.cell? ⟨w.heap.size, 2, none⟩ = some (.int .i64 v.f) ∧
      w'.cell? ⟨pf, 0, none⟩ = some (.bool true) ∧ w'.cell? ⟨pl, 0, none⟩ = some (.slice (some ⟨b, off, none⟩) n cap) ∧ w'.cell? ⟨pb, 0, none⟩ = some (.int .i64 k) ∧
      w'.cell? ⟨b, off + k * 3, none⟩ = some (.int .i64 (vs k).l) ∧ w'.cell? ⟨b, off + k * 3 + 1, none⟩ = some (.int .i64 (vs k).p) ∧ w'.cell? ⟨b, off + k * 3 + 2, none⟩ = some (.int .i64 (vs k).f) := fun w' h => by
    have hz : (w.alloc (.cells #[.int .i64 v.l, .int .i64 v.p, .int .i64 v.f] 35)).heap.size = w.heap.size + 1 := by simp
    have old : ∀ b' o, b' < w.heap.size → w'.cell? ⟨b', o, none⟩ = w.cell? ⟨b', o, none⟩ := fun b' o hb' => (h.cells b' o (by omega)).trans (((Kp.refl w).alloc _ _).cells b' o hb')
    refine ⟨h, ?_, ?_, ?_, ?_, ?_, ?_, ?_, ?_, ?_⟩
    · rw [h.cells _ _ (by omega)]; simp
    · rw [h.cells _ _ (by omega)]; simp
    · rw [h.cells _ _ (by omega)]; simp
    · rw [old _ _ hfs]; exact hf
    · rw [old _ _ hls]; exact hl
    · rw [old _ _ hbs]; exact hb
    · rw [old _ _ hvs]; exact cl
    · rw [old _ _ hvs]; exact cp
    · rw [old _ _ hvs]; exact cf
  have HK := Lib.hid KP
  clear KP
  go_region_held3 (fun w' => Kp (w.alloc (.cells #[.int .i64 v.l, .int .i64 v.p, .int .i64 v.f] 35)) w' ∧ w'.cell? ⟨w.heap.size, 0, none⟩ = some (.int .i64 v.l) ∧ w'.cell? ⟨w.heap.size, 1, none⟩ = some (.int .i64 v.p) ∧ w'.cell? ⟨w.heap.size, 2, none⟩ = some (.int .i64 v.f) ∧
      w'.cell? ⟨pf, 0, none⟩ = some (.bool true) ∧ w'.cell? ⟨pl, 0, none⟩ = some (.slice (some ⟨b, off, none⟩) n cap) ∧ w'.cell? ⟨pb, 0, none⟩ = some (.int .i64 k) ∧
      w'.cell? ⟨b, off + k * 3, none⟩ = some (.int .i64 (vs k).l) ∧ w'.cell? ⟨b, off + k * 3 + 1, none⟩ = some (.int .i64 (vs k).p) ∧ w'.cell? ⟨b, off + k * 3 + 2, none⟩ = some (.int .i64 (vs k).f))
    (first | exact HK.out _ (Kp.refl _).drew | exact HK.out _ (by assumption) | exact HK.out _ (Kp.trans (Kp.refl _).drew (by assumption)) | (go_split_ands; exact HK.out _ (Kp.trans (by assumption) (by assumption))))
    (first | (go_at_call 29; refine (before_any v (vs k) _).mono ?_; rintro e w2 ⟨rfl, hk2⟩))
  go_wp2
  go_ret
  rename_i hHeld
  exact ⟨rfl, ((Kp.refl _).alloc _ _).trans hHeld.1⟩
end Ln
end Go.Proofs.YtlhbpklilfabnaaDoor
