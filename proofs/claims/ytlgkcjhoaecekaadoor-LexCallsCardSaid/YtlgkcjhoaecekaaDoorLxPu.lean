/-
  WALKS: strconv.ParseUint of digits: the number, or an error; the reader's number. Own work.
-/
import Derived.Test.YtlgkcjhoaecekaaDoorLxUint
namespace Go.Proofs.YtlgkcjhoaecekaaDoor
namespace Lx
open Go.RowKit Go
set_option linter.unusedVariables false

set_option maxRecDepth 100000 in
theorem uint_empty (q : Int) (hq : q = 10 ∨ q = 16) (w : World) : Calls Tryd.prog 77 #[.string (bytesOf []), .int .i64 q, .int .i64 32] w fun e w' => e = .returned (.tuple #[.int .u64 0, .iface 94 (.int .i64 2)]) ∧ Kp w w' := by
  have hemp : (bytesOf []).toList.isEmpty = true := by rw [bytesOf_toList]; rfl
  go_enter Tryd.func77, Tryd.ntmps77
  go_wp2
  go_ret2
  exact ⟨rfl, Kp.refl _⟩
def dgs (q : Nat) : UInt8 → Bool := if q = 16 then isHx else isDg
theorem uint_inner (q : Nat) (hq : q = 10 ∨ q = 16) (ds : List UInt8) (hp : ∀ b ∈ ds, dgs q b = true) (hne : ds ≠ []) (hl : ds.length ≤ 65536) (w : World) :
    Calls Tryd.prog 77 #[.string (bytesOf ds), .int .i64 q, .int .i64 32] w fun e w' => e = .returned (uiV (val q ds)) ∧ Kp w w' := by
  rcases hq with rfl | rfl
  · exact uint10_inner ds hp hne hl w
  · exact uint16_inner ds hp hne hl w
set_option maxHeartbeats 4000000 in
theorem pu_ok (q : Nat) (hq : q = 10 ∨ q = 16) (ds : List UInt8) (hp : ∀ b ∈ ds, dgs q b = true) (hne : ds ≠ []) (hl : ds.length ≤ 65536) (v : Nat) (hv : val q ds = v) (hv2 : v ≤ 4294967295) (w : World) :
    Calls Tryd.prog 68 #[.string (bytesOf ds), .int .i64 q, .int .i64 32] w fun e w' => e = .returned (.tuple #[.int .u64 v, .nilIface]) ∧ Kp w w' := by
  have H := uint_inner q hq ds hp hne hl w
  rw [hv, uiV_yes hv2] at H
  have HC := Lib.hid H
  clear H hp hne hl hv
  go_enter Tryd.func68, Tryd.ntmps68
  go_wp2_with (go_at_call 77; refine HC.out.mono ?_; rintro e w1 ⟨rfl, k1⟩)
  go_ret2
  exact ⟨rfl, k1⟩
set_option maxHeartbeats 4000000 in
theorem pu_err {w : World} (hE : Env w) (q : Nat) (hq : q = 10 ∨ q = 16) (ds : List UInt8) (hp : ∀ b ∈ ds, dgs q b = true) (hl : ds.length ≤ 65536) (hv : ds = [] ∨ 4294967295 < val q ds) :
    Calls Tryd.prog 68 #[.string (bytesOf ds), .int .i64 q, .int .i64 32] w fun e w' => ∃ (x : Int) (N : Nat), e = .returned (.tuple #[.int .u64 x, .iface 96 (.pointer (some ⟨N, 0, none⟩))]) ∧ Kp w w' := by
  have hsz : (bytesOf ds).size ≤ 281474976710656 := by rw [bytesOf_size]; omega
  have HSZ := Lib.hid hsz
  have HE := Lib.hid hE
  clear hsz hE
  by_cases h0 : ds = []
  · subst h0
    have HC := Lib.hid (uint_empty q (by omega) w)
    clear hp hl hv
    obtain ⟨te, pe, hv0⟩ := HE.out.es
    go_enter Tryd.func68, Tryd.ntmps68
    go_wp2_with (first
      | (go_at_call 77; refine HC.out.mono ?_; rintro e w1 ⟨rfl, k1⟩)
      | (go_at_call 78; refine (Tryd.strconv_toError_syntax _ (bytesOf []) _ _ (.iface te pe) w1 HSZ.out ((k1.cells _ _ (block_of_cell hv0)).trans hv0) (.inr ⟨te, pe, rfl⟩)).mono ?_; rintro e w2 ⟨N, rfl, n1, n2, b2⟩))
    go_ret2
    exact ⟨_, N, rfl, k1.trans ⟨b2⟩⟩
  · have H := uint_inner q hq ds hp h0 hl w
    rw [uiV_no (hv.resolve_left h0)] at H
    have HC := Lib.hid H
    clear H hp hl hv h0
    obtain ⟨te, pe, hv0⟩ := HE.out.er
    go_enter Tryd.func68, Tryd.ntmps68
    go_wp2_with (first
      | (go_at_call 77; refine HC.out.mono ?_; rintro e w1 ⟨rfl, k1⟩)
      | (go_at_call 78; refine (Tryd.strconv_toError_range _ (bytesOf ds) _ _ (.iface te pe) w1 HSZ.out ((k1.cells _ _ (block_of_cell hv0)).trans hv0) (.inr ⟨te, pe, rfl⟩)).mono ?_; rintro e w2 ⟨N, rfl, n1, n2, b2⟩))
    go_ret2
    exact ⟨_, N, rfl, k1.trans ⟨b2⟩⟩
end Lx
end Go.Proofs.YtlgkcjhoaecekaaDoor
