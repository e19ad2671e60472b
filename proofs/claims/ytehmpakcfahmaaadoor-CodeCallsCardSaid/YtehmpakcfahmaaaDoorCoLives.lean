/-
  WALKS: the chapter's examples; instructions compared. Own work.
-/
import Derived.Test.YtehmpakcfahmaaaDoorCoParse
import Derived.ChangeAlike
namespace Go.Proofs.YtehmpakcfahmaaaDoor
namespace Co
open Go.RowKit Go
set_option linter.unusedVariables false

def Yes (w : World) (e : Ending) (w' : World) : Prop := e = .returned (.bool true) ∧ Kp w w'

theorem ins_struct : Tryd.prog.underlying 27 = some (.struct (Tryd.prog.fieldsOf 27)) := by kernel_rfl
theorem ins_held : Tryd.prog.stoodInHeld 27 = false := by kernel_rfl
theorem ins_guard : Tryd.prog.eqGuardType Tryd.prog.depth 27 = false := by kernel_rfl
theorem ins_eq (a b c d a' b' c' d' : Int) (w : World) (e : Bool) (he : (a == a' && (b == b' && (c == c' && d == d'))) = e) : (binOp .eql 27 (.agg #[.int .i64 a, .int .i64 b, .int .i64 c, .int .i64 d]) (.agg #[.int .i64 a', .int .i64 b', .int .i64 c', .int .i64 d'])).run Tryd.prog w = .ok (.bool e) w := by
  have hu := Tryd.underlying27
  have hi := Tryd.underlying3
  subst he
  rw [run_eql_struct, run_equalIn_agg w 9999 _ _ _ ins_struct ins_held]
  cases h1 : (a == a') <;> cases h2 : (b == b') <;> cases h3 : (c == c') <;> cases h4 : (d == d') <;> simp [Op.eqFields, Program.fieldsOf, hu, hi, go_sem, h1, h2, h3, h4]

theorem txt_jz : txt ⟨16, 9, 0, 0⟩ = [106, 122, 32, 57] := by
  have c : chk ⟨16, 9, 0, 0⟩ = true := by decide +kernel
  unfold txt
  rw [if_pos c]
  show [106, 122] ++ (32 :: Lib.itoa 9) ++ [] ++ [] = _
  unfold Lib.itoa
  rw [if_neg (by decide), show (9 : Int).toNat = 9 from rfl, Lib.decDigits_one (by decide)]
  rfl
theorem txt_push : txt ⟨2, 5, 0, 0⟩ = [112, 117, 115, 104, 32, 53] := by
  have c : chk ⟨2, 5, 0, 0⟩ = true := by decide +kernel
  unfold txt
  rw [if_pos c]
  show [112, 117, 115, 104] ++ (32 :: Lib.itoa 5) ++ [] ++ [] = _
  unfold Lib.itoa
  rw [if_neg (by decide), show (5 : Int).toNat = 5 from rfl, Lib.decDigits_one (by decide)]
  rfl
theorem txt_stx : txt ⟨7, 4, 10, 8⟩ = [115, 116, 120, 32, 52, 32, 49, 48, 32, 56] := by
  have c : chk ⟨7, 4, 10, 8⟩ = true := by decide +kernel
  unfold txt
  rw [if_pos c]
  show [115, 116, 120] ++ (32 :: Lib.itoa 4) ++ (32 :: Lib.itoa 10) ++ (32 :: Lib.itoa 8) = _
  unfold Lib.itoa
  rw [if_neg (by decide), if_neg (by decide), if_neg (by decide), show (4 : Int).toNat = 4 from rfl, show (10 : Int).toNat = 10 from rfl, show (8 : Int).toNat = 8 from rfl, Lib.decDigits_one (by decide), Lib.decDigits_two (by decide) (by decide), Lib.decDigits_one (by decide)]
  rfl
theorem txt_bin : txt ⟨12, 6, 0, 0⟩ = [98, 105, 110, 32, 115, 47] := by decide +kernel
theorem prs_jz : prs [106, 122, 32, 57] = some ⟨16, 9, 0, 0⟩ := by
  rw [← txt_jz]; exact prs_txt (by decide +kernel)
theorem prs_push : prs [112, 117, 115, 104, 32, 48, 53] = none := by
  have e : rd (Lib.fieldsD [112, 117, 115, 104, 32, 48, 53]) = ⟨2, 5, 0, 0⟩ := by decide +kernel
  refine prs_other (by decide) ?_
  rw [e, txt_push]
  decide
theorem Wf.small {a b c d : Int} (h1 : -1 ≤ a ∧ a ≤ 4294967296) (h2 : -1 ≤ b ∧ b ≤ 4294967296) (h3 : -1 ≤ c ∧ c ≤ 4294967296) (h4 : -1 ≤ d ∧ d ≤ 4294967296) : Wf ⟨a, b, c, d⟩ :=
  ⟨⟨by show -9223372036854775808 ≤ a; omega, by show a ≤ 9223372036854775807; omega⟩, ⟨by show -9223372036854775808 ≤ b; omega, by show b ≤ 9223372036854775807; omega⟩, ⟨by show -9223372036854775808 ≤ c; omega, by show c ≤ 9223372036854775807; omega⟩, ⟨by show -9223372036854775808 ≤ d; omega, by show d ≤ 9223372036854775807; omega⟩⟩

/- The contracts at whatever later world, their results written out. -/
theorem Parse_k {w0 w : World} (hE : Env w0) (hk : Kp w0 w) (s : List UInt8) (hm : s.length ≤ 9223372036854775807) (a b c d e : Int) (hi : prsI s = ⟨a, b, c, d⟩) (he : prsE s = e) :
    Calls Tryd.prog 16 #[.string (bytesOf s)] w fun r w' => r = .returned (.tuple #[.agg #[.int .i64 a, .int .i64 b, .int .i64 c, .int .i64 d], .int .i64 e]) ∧ Kp w w' :=
  Parse_any (hE.kept hk) s hm ⟨a, b, c, d⟩ e hi he
theorem Text_k {w0 w : World} (hE : Env w0) (hk : Kp w0 w) (a b c d : Int) (hi : Wf ⟨a, b, c, d⟩) (t : List UInt8) (ht : txt ⟨a, b, c, d⟩ = t) :
    Calls Tryd.prog 19 #[.agg #[.int .i64 a, .int .i64 b, .int .i64 c, .int .i64 d]] w fun r w' => r = .returned (.string (bytesOf t)) ∧ Kp w w' := by
  have := Text_any (hE.kept hk) ⟨a, b, c, d⟩ hi
  rwa [ht] at this
theorem Check_k {w0 w : World} (hE : Env w0) (hk : Kp w0 w) (a b c d e : Int) (hi : Wf ⟨a, b, c, d⟩) (he : chkE ⟨a, b, c, d⟩ = e) :
    Calls Tryd.prog 13 #[.agg #[.int .i64 a, .int .i64 b, .int .i64 c, .int .i64 d]] w fun r w' => r = .returned (.int .i64 e) ∧ Kp w w' :=
  Check_r (hE.kept hk) a b c d e hi he
theorem Jumps_k {w0 w : World} (hE : Env w0) (hk : Kp w0 w) (a b c d : Int) (hi : Wf ⟨a, b, c, d⟩) (t : Int) (j o : Bool) (ht : jmpT ⟨a, b, c, d⟩ = t) (hj : jmpJ ⟨a, b, c, d⟩ = j) (ho : jmpO ⟨a, b, c, d⟩ = o) :
    Calls Tryd.prog 10 #[.agg #[.int .i64 a, .int .i64 b, .int .i64 c, .int .i64 d]] w fun r w' => r = .returned (.tuple #[.int .i64 t, .bool j, .bool o]) ∧ Kp w w' :=
  Jumps_any (hE.kept hk) ⟨a, b, c, d⟩ hi t j o ht hj ho
theorem Effect_k {w0 w : World} (hE : Env w0) (hk : Kp w0 w) (a b c d : Int) (hi : Wf ⟨a, b, c, d⟩) (ao : Option Addr) (n cap : Nat) (xs : Nat → Int) (hv : IIn w ao xs n) (t g : Int) (o : Bool) (ht : effT ⟨a, b, c, d⟩ xs n = t) (hg : effG ⟨a, b, c, d⟩ n = g) (ho : effO ⟨a, b, c, d⟩ n = o) :
    Calls Tryd.prog 11 #[.agg #[.int .i64 a, .int .i64 b, .int .i64 c, .int .i64 d], .slice ao n cap] w fun r w' => r = .returned (.tuple #[.int .i64 t, .int .i64 g, .bool o]) ∧ Kp w w' :=
  Effect_any (hE.kept hk) ⟨a, b, c, d⟩ hi ao n cap xs hv t g o ht hg ho
def two : Nat → Int
  | 0 => 0
  | _ => 2
theorem two_in (w : World) : IIn (w.alloc (.cells #[.int .i64 0, .int .i64 2] 3)) (some ⟨w.heap.size, 0, none⟩) two 2 := by
  refine .inr ⟨_, _, rfl, by simp, fun i hi => ?_⟩
  obtain rfl | rfl : i = 0 ∨ i = 1 := by omega
  · simp [two]
  · simp [two]
def zeroN : Nat → Int := fun _ => 0

set_option maxHeartbeats 2000000 in
set_option maxRecDepth 100000 in
theorem lives_yes {w : World} (hE : Env w) : Calls Tryd.prog 12 #[] w (Yes w) := by
  go_enter Tryd.func12, Tryd.ntmps12
  go_wp2_with fail
  refine (Parse_k hE (Kp.refl _) [106, 122, 32, 57] (by decide) 16 9 0 0 0 (by unfold prsI; rw [prs_jz]; rfl) (by unfold prsE; rw [prs_jz]; rfl)).mono ?_
  rintro e w1 ⟨rfl, k1⟩
  have K1 := k1.alloc #[.int .i64 16, .int .i64 9, .int .i64 0, .int .i64 0] 27
  go_wp2_with fail
  refine (Parse_k hE K1 [112, 117, 115, 104, 32, 48, 53] (by decide) 0 0 0 0 11 (by unfold prsI; rw [prs_push]; rfl) (by unfold prsE; rw [prs_push]; rfl)).mono ?_
  rintro e w2 ⟨rfl, k2⟩
  have B2 := k2.alloc #[.int .i64 0, .int .i64 0, .int .i64 0, .int .i64 0] 27
  have K2 := K1.trans B2
  clear k2
  go_wp2_with fail
  refine (Effect_k hE K2 7 1 1 8 (Wf.small (by decide) (by decide) (by decide) (by decide)) none 0 0 zeroN (.inl rfl) 2 0 true (by decide +kernel) (by decide +kernel) (by decide +kernel)).mono ?_
  rintro e w3 ⟨rfl, k3⟩
  have B3 := (B2.trans k3).alloc #[.int .i64 0, .int .i64 2] 3
  have K3 := K1.trans B3
  clear k3 B2 K2
  go_wp2_with fail
  refine (Effect_k hE K3 17 1 0 0 (Wf.small (by decide) (by decide) (by decide) (by decide)) _ 2 2 two (two_in w3) 2 1 true (by decide +kernel) (by decide +kernel) (by decide +kernel)).mono ?_
  rintro e w4 ⟨rfl, k4⟩
  have B4 := B3.trans k4
  have K4 := K1.trans B4
  clear k4 B3 K3
  go_wp2_with fail
  refine (Text_k hE K4 7 4 10 8 (Wf.small (by decide) (by decide) (by decide) (by decide)) _ txt_stx).mono ?_
  rintro e w5 ⟨rfl, k5⟩
  have B5 := B4.trans k5
  have K5 := K1.trans B5
  clear k5 B4 K4
  have t1 := bytesOf_toList [115, 116, 120, 32, 52, 32, 49, 48, 32, 56]
  go_wp2_with fail
  refine (Text_k hE K5 12 6 0 0 (Wf.small (by decide) (by decide) (by decide) (by decide)) _ txt_bin).mono ?_
  rintro e w6 ⟨rfl, k6⟩
  have B6 := B5.trans k6
  have K6 := K1.trans B6
  clear k6 B5 K5
  have t2 := bytesOf_toList [98, 105, 110, 32, 115, 47]
  have g0 : w6.cell? ⟨w1.heap.size, 0, none⟩ = some (.int .i64 16) := (B6.cells _ _ (by simp)).trans (by simp)
  have g1 : w6.cell? ⟨w1.heap.size, 1, none⟩ = some (.int .i64 9) := (B6.cells _ _ (by simp)).trans (by simp)
  have g2 : w6.cell? ⟨w1.heap.size, 2, none⟩ = some (.int .i64 0) := (B6.cells _ _ (by simp)).trans (by simp)
  have g3 : w6.cell? ⟨w1.heap.size, 3, none⟩ = some (.int .i64 0) := (B6.cells _ _ (by simp)).trans (by simp)
  have ie : ∀ W, (binOp .eql 27 (.agg #[.int .i64 16, .int .i64 9, .int .i64 0, .int .i64 0]) (.agg #[.int .i64 16, .int .i64 9, .int .i64 0, .int .i64 0])).run Tryd.prog W = .ok (.bool true) W := fun W => ins_eq _ _ _ _ _ _ _ _ W true (by decide)
  have ig := ins_guard
  go_wp2
  go_ret
  exact ⟨rfl, K6⟩
end Co
end Go.Proofs.YtehmpakcfahmaaaDoor
