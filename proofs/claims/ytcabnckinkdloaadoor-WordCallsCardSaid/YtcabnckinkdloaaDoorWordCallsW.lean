/-
  The walks of WordNames and WordCalls: the chapter's examples; results of operators are what the document says. Own work.
-/
import Derived.Test.YtcabnckinkdloaaDoorWordTexts
namespace Go.Proofs.YtcabnckinkdloaaDoor
namespace Wd
open Go.RowKit Go
set_option linter.unusedVariables false

theorem refc {w0 w : World} (hk : Kp w0 w) (op a b : Int) (ha : 0 ≤ a) (ha' : a < 4294967296) (hb : 0 ≤ b) (hb' : b < 4294967296) :
    Calls Tryd.prog 13 #[.int .i64 op, .int .u32 a, .int .u32 b] w fun e w' => e = .returned (.tuple #[.int .u32 (val op a b), .int .i64 (err op b)]) ∧ w = w' := ref_any op a b w ha ha' hb hb'
theorem signc {w0 w : World} (hs : SignsIn w0) (hk : Kp w0 w) (op : Int) :
    Calls Tryd.prog 9 #[.int .i64 op] w fun e w' => e = .returned (.string (signText op)) ∧ w = w' := Sign_any (hs.kept hk) op
theorem namec {w0 w : World} (hs : NamesIn w0) (hk : Kp w0 w) (op : Int) :
    Calls Tryd.prog 10 #[.int .i64 op] w fun e w' => e = .returned (.string (nameText op)) ∧ w = w' := Name_any (hs.kept hk) op
theorem rsignc {w0 w : World} (hk : Kp w0 w) (op : Int) :
    Calls Tryd.prog 17 #[.int .i64 op] w fun e w' => e = .returned (.string (signText op)) ∧ Kp w0 w' := (rSign_any op w).mono fun _ _ h => ⟨h.1, hk.trans h.2⟩
theorem rnamec {w0 w : World} (hk : Kp w0 w) (op : Int) :
    Calls Tryd.prog 18 #[.int .i64 op] w fun e w' => e = .returned (.string (nameText op)) ∧ Kp w0 w' := (rName_any op w).mono fun _ _ h => ⟨h.1, hk.trans h.2⟩

set_option maxHeartbeats 1000000 in
theorem calls_core (op a b n : Int) (s t : ByteArray) (c : Bool) (w : World) (hs : SignsIn w) (hn : NamesIn w) (ha : 0 ≤ a) (ha' : a < 4294967296) (hb : 0 ≤ b) (hb' : b < 4294967296) (hS : signText op = s) (hT : nameText op = t) (hC : decide (14 ≤ op ∧ op ≤ 19) = c) :
    Calls Tryd.prog 4 #[.int .i64 op, .int .u32 a, .int .u32 b, .int .i64 n] w (Yes w) := by
  have k0 := Kp.refl w
  have cC := fun W : World => Compares_any op W
  have cR := fun W : World => rCompares_any op W
  rw [hC] at cC cR
  have HC := Lib.hid cC
  have HR := Lib.hid cR
  clear cC cR hC
  have HS := Lib.hid hs
  have HN := Lib.hid hn
  clear hs hn
  go_enter Tryd.func4, Tryd.ntmps4
  go_wp2_with (first | (go_at_call 8; refine (lives_yes (by assumption)).mono ?_; rintro e w1 ⟨rfl, h1⟩) | (go_at_call 5; refine (doc (by assumption) _ _ _ (by omega) (by omega) (by omega) (by omega)).mono ?_; rintro e w1 ⟨rfl, h1⟩) | (go_at_call 6; refine (onec (by assumption) _ _ (by omega) (by omega)).mono ?_; rintro e w1 ⟨rfl, h1⟩) | (go_at_call 7; refine (cut_any _ _ _ (by omega) (by omega)).mono ?_; rintro e w1 ⟨rfl, rfl⟩) | (go_at_call 12; refine (signed_any _ _ (by omega) (by omega)).mono ?_; rintro e w1 ⟨rfl, rfl⟩) | (go_at_call 13; refine (ref_any _ _ _ _ (by omega) (by omega) (by omega) (by omega)).mono ?_; rintro e w1 ⟨rfl, rfl⟩) | (go_at_call 14; refine (rone_any _ _ _ (by omega) (by omega)).mono ?_; rintro e w1 ⟨rfl, rfl⟩) | (go_at_call 15; refine (rcut_any _ _ _ (by omega) (by omega)).mono ?_; rintro e w1 ⟨rfl, rfl⟩) | (go_at_call 16; refine (rsigned_any _ _ (by omega) (by omega)).mono ?_; rintro e w1 ⟨rfl, rfl⟩) | (go_at_call 9; refine (signc HS.out (by assumption) _).mono ?_; rintro e w1 ⟨rfl, rfl⟩) | (go_at_call 10; refine (namec HN.out (by assumption) _).mono ?_; rintro e w1 ⟨rfl, rfl⟩) | (go_at_call 17; refine (rsignc (by assumption) _).mono ?_; rintro e w1 ⟨rfl, h1⟩) | (go_at_call 18; refine (rnamec (by assumption) _).mono ?_; rintro e w1 ⟨rfl, h1⟩) | (go_at_call 11; refine (HC.out _).mono ?_; rintro e w1 ⟨rfl, rfl⟩) | (go_at_call 19; refine (HR.out _).mono ?_; rintro e w1 ⟨rfl, rfl⟩))
  go_ret
  exact ⟨ret_bool (by simp), by assumption⟩

theorem calls_walk (op a b n : Int) (w : World) (hs : SignsIn w) (hn : NamesIn w) (ha : 0 ≤ a) (ha1 : a ≤ 4294967295) (hb : 0 ≤ b) (hb1 : b ≤ 4294967295) :
    Calls Tryd.prog 4 #[.int .i64 op, .int .u32 a, .int .u32 b, .int .i64 n] w (Yes w) :=
  calls_core op a b n _ _ _ w hs hn ha (by omega) hb (by omega) rfl rfl rfl

theorem e1 : val 20 1 1 = 0 ∧ err 20 1 = 2 := by decide +kernel
theorem e2 : unVal 0 1 = 0 ∧ unErr 0 = 2 := by decide +kernel
theorem e3 : cutVal 1 9 = 0 ∧ cutErr 9 = 2 := by decide +kernel
theorem e4 : cutVal 511 8 = 255 ∧ cutErr 8 = 0 := by decide +kernel
theorem x1 {w0 w : World} (hk : Kp w0 w) : Calls Tryd.prog 5 #[.int .i64 20, .int .u32 1, .int .u32 1] w fun e w' => e = .returned (.tuple #[.int .u32 0, .int .i64 2]) ∧ Kp w0 w' := by
  have h := doc hk 20 1 1 (by decide) (by decide) (by decide) (by decide)
  rwa [e1.1, e1.2] at h
theorem x2 {w0 w : World} (hk : Kp w0 w) : Calls Tryd.prog 6 #[.int .i64 0, .int .u32 1] w fun e w' => e = .returned (.tuple #[.int .u32 0, .int .i64 2]) ∧ Kp w0 w' := by
  have h := onec hk 0 1 (by decide) (by decide)
  rwa [e2.1, e2.2] at h
theorem x3 (w : World) : Calls Tryd.prog 7 #[.int .u32 1, .int .i64 9] w fun e w' => e = .returned (.tuple #[.int .u32 0, .int .i64 2]) ∧ w = w' := by
  have h := cut_any 1 9 w (by decide) (by decide)
  rwa [e3.1, e3.2] at h
theorem x4 (w : World) : Calls Tryd.prog 7 #[.int .u32 511, .int .i64 8] w fun e w' => e = .returned (.tuple #[.int .u32 255, .int .i64 0]) ∧ w = w' := by
  have h := cut_any 511 8 w (by decide) (by decide)
  rwa [e4.1, e4.2] at h
theorem x5 {w0 w : World} (hs : SignsIn w0) (hk : Kp w0 w) : Calls Tryd.prog 9 #[.int .i64 13] w fun e w' => e = .returned (.string ⟨#[115, 62, 62]⟩) ∧ w = w' := signc hs hk 13
theorem x6 {w0 w : World} (hs : NamesIn w0) (hk : Kp w0 w) : Calls Tryd.prog 10 #[.int .i64 3] w fun e w' => e = .returned (.string ⟨#[122, 101, 114, 111]⟩) ∧ w = w' := namec hs hk 3
theorem x7 {w0 w : World} (hs : SignsIn w0) (hk : Kp w0 w) : Calls Tryd.prog 9 #[.int .i64 0] w fun e w' => e = .returned (.string ⟨#[]⟩) ∧ w = w' := signc hs hk 0
theorem x8 (w : World) : Calls Tryd.prog 11 #[.int .i64 19] w fun e w' => e = .returned (.bool true) ∧ w = w' := Compares_any 19 w
theorem x9 (w : World) : Calls Tryd.prog 11 #[.int .i64 13] w fun e w' => e = .returned (.bool false) ∧ w = w' := Compares_any 13 w
theorem x10 (w : World) : Calls Tryd.prog 12 #[.int .u32 4294967295] w fun e w' => e = .returned (.int .i64 (-1)) ∧ w = w' := by
  have h := signed_any 4294967295 w (by decide) (by decide)
  rwa [show wrap32 4294967295 = -1 by decide +kernel] at h

set_option maxHeartbeats 1000000 in
theorem names_walk (w : World) (hs : SignsIn w) (hn : NamesIn w) :
    Calls Tryd.prog 3 #[] w (Yes w) := by
  have k0 := Kp.refl w
  have HS := Lib.hid hs
  have HN := Lib.hid hn
  clear hs hn
  go_enter Tryd.func3, Tryd.ntmps3
  go_wp2_with fail
  refine (x1 k0).mono ?_
  rintro e w1 ⟨rfl, h1⟩
  go_wp2_with fail
  refine (x2 h1).mono ?_
  rintro e w2 ⟨rfl, h2⟩
  go_wp2_with fail
  refine (x3 _).mono ?_
  rintro e w3 ⟨rfl, rfl⟩
  go_wp2_with fail
  refine (x4 _).mono ?_
  rintro e w3 ⟨rfl, rfl⟩
  go_wp2_with fail
  refine (lives_yes h2).mono ?_
  rintro e w3 ⟨rfl, h3⟩
  go_wp2_with fail
  refine (x5 HS.out h3).mono ?_
  rintro e w4 ⟨rfl, rfl⟩
  go_wp2_with fail
  refine (x6 HN.out h3).mono ?_
  rintro e w4 ⟨rfl, rfl⟩
  go_wp2_with fail
  refine (x7 HS.out h3).mono ?_
  rintro e w4 ⟨rfl, rfl⟩
  go_wp2_with fail
  refine (x8 _).mono ?_
  rintro e w4 ⟨rfl, rfl⟩
  go_wp2_with fail
  refine (x9 _).mono ?_
  rintro e w4 ⟨rfl, rfl⟩
  go_wp2_with fail
  refine (x10 _).mono ?_
  rintro e w4 ⟨rfl, rfl⟩
  go_wp2
  go_ret
  exact ⟨rfl, h3⟩
end Wd
end Go.Proofs.YtcabnckinkdloaaDoor
