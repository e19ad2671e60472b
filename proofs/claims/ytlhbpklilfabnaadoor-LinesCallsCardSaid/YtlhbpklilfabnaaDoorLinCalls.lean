/-
  WALK: the statement LinesCalls. Own work.
-/
import Derived.Test.YtlhbpklilfabnaaDoorLinRefTake
import Derived.Test.YtlhbpklilfabnaaDoorLinSets
namespace Go.Proofs.YtlhbpklilfabnaaDoor
namespace Ln
open Go.RowKit Go
set_option linter.unusedVariables false

set_option maxRecDepth 100000 in
set_option maxHeartbeats 400000 in
theorem calls_out (p e lv ac : Int) (ao : Option Addr) (n cap : Nat) (vs : Nat → Vc) (x : Int) (bo : Option Addr) (m cap2 : Nat) (xs : Nat → Int) (w : World) (hT : TabIn w) (hn : n ≤ maxLen) (hm : m ≤ maxLen) (h : 40 < n ∨ (n ≤ 40 ∧ 40 < m)) :
    Calls Tryd.prog 4 #[.int .u32 p, .int .u32 e, .int .i64 lv, .int .i64 ac, .slice ao n cap, .int .i64 x, .slice bo m cap2] w (Yes w) := by
  have HT := Lib.hid hT
  have hn2 : n ≤ 9223372036854775807 := by unfold maxLen at hn; omega
  have hm2 : m ≤ 9223372036854775807 := by unfold maxLen at hm; omega
  clear hT hn hm
  rcases h with h40 | ⟨h40, hm40⟩
  · go_enter Tryd.func4, Tryd.ntmps4
    go_wp2_with fail
    refine (lives_yes (Kp.refl w) HT.out).mono ?_
    rintro e1 w1 ⟨rfl, k1⟩
    go_wp2
    go_ret
    exact ⟨rfl, k1⟩
  · go_enter Tryd.func4, Tryd.ntmps4
    go_wp2_with fail
    refine (lives_yes (Kp.refl w) HT.out).mono ?_
    rintro e1 w1 ⟨rfl, k1⟩
    go_wp2
    go_ret
    exact ⟨rfl, k1⟩

set_option maxRecDepth 100000 in
set_option maxHeartbeats 2000000 in
theorem calls_in (p e lv ac : Int) (ao : Option Addr) (n cap : Nat) (vs : Nat → Vc) (x : Int) (bo : Option Addr) (m cap2 : Nat) (xs : Nat → Int) (w : World) (hT : TabIn w) (hv : VIn w ao vs n) (hx : IIn w bo xs m) (hn : n ≤ 40) (hm : m ≤ 40)
    (hp : 0 ≤ p) (hp' : p < 4294967296) (he : 0 ≤ e) (he' : e < 4294967296) :
    Calls Tryd.prog 4 #[.int .u32 p, .int .u32 e, .int .i64 lv, .int .i64 ac, .slice ao n cap, .int .i64 x, .slice bo m cap2] w (Yes w) := by
  have hnm : n ≤ maxLen := by unfold maxLen; omega
  have hmm : m ≤ maxLen := by unfold maxLen; omega
  have HT := Lib.hid hT
  have HV := Lib.hid hv
  have HX := Lib.hid hx
  obtain ⟨q, hq⟩ : ∃ q, (linesOf p).length = q := ⟨_, rfl⟩
  obtain ⟨r, hr⟩ : ∃ r, (linesOf e).length = r := ⟨_, rfl⟩
  have hq32 : q ≤ 32 := by rw [← hq]; exact linesOf_le p
  have hr32 : r ≤ 32 := by rw [← hr]; exact linesOf_le e
  obtain ⟨t1, ht1⟩ : ∃ t, oi (tk p e lv ac vs n) = t := ⟨_, rfl⟩
  obtain ⟨t2, ht2⟩ : ∃ t, ob (tk p e lv ac vs n) = t := ⟨_, rfl⟩
  obtain ⟨f1, hf1⟩ : ∃ t, oi (fnd vs x n) = t := ⟨_, rfl⟩
  obtain ⟨f2, hf2⟩ : ∃ t, ob (fnd vs x n) = t := ⟨_, rfl⟩
  obtain ⟨o1, ho1⟩ : ∃ t, ofV xs m = t := ⟨_, rfl⟩
  obtain ⟨o2, ho2⟩ : ∃ t, ofE xs m = t := ⟨_, rfl⟩
  obtain ⟨c1, hc1⟩ : ∃ t, chk vs n = t := ⟨_, rfl⟩
  obtain ⟨b1, hb1⟩ : ∃ t, hasB p x = t := ⟨_, rfl⟩
  have C1 := Lib.hid (fun (w' : World) (hk : Kp w w') => (take_any p e lv ac ao n cap vs w' (hv.kp hk) hnm hp hp' he he').mono (R' := fun e1 w'' => e1 = .returned (.tuple #[.int .i64 t1, .bool t2]) ∧ Kp w w'') fun _ _ ⟨h, k⟩ => ⟨by rw [h, ht1, ht2], hk.trans k⟩)
  have C2 := Lib.hid (fun (w' : World) (hk : Kp w w') => (rtake_any p e lv ac ao n cap vs w' (hv.kp hk) hnm hp hp' he he').mono (R' := fun e1 w'' => e1 = .returned (.tuple #[.int .i64 t1, .bool t2]) ∧ Kp w w'') fun _ _ ⟨h, k⟩ => ⟨by rw [h, ht1, ht2], hk.trans k⟩)
  have C3 := Lib.hid (fun (w' : World) (hk : Kp w w') => (find_any ao n cap vs x w' (hv.kp hk) hnm).mono (R' := fun e1 w'' => e1 = .returned (.tuple #[.int .i64 f1, .bool f2]) ∧ Kp w w'') fun _ _ ⟨h, k⟩ => ⟨by rw [h, hf1, hf2], hk.trans k⟩)
  have C4 := Lib.hid (fun (w' : World) (hk : Kp w w') => (rfind_any ao n cap vs x w' (hv.kp hk) hnm).mono (R' := fun e1 w'' => e1 = .returned (.tuple #[.int .i64 f1, .bool f2]) ∧ Kp w w'') fun _ _ ⟨h, k⟩ => ⟨by rw [h, hf1, hf2], by rw [← k]; exact hk⟩)
  have C5 := Lib.hid (fun (w' : World) (hk : Kp w w') => (of_any bo m cap2 xs w' (hx.kp hk) hmm).mono (R' := fun e1 w'' => e1 = .returned (.tuple #[.int .u32 o1, .int .i64 o2]) ∧ Kp w w'') fun _ _ ⟨h, k⟩ => ⟨by rw [h, ho1, ho2], by rw [← k]; exact hk⟩)
  have C6 := Lib.hid (fun (w' : World) (hk : Kp w w') => (rof_any bo m cap2 xs w' (hx.kp hk) hmm).mono (R' := fun e1 w'' => e1 = .returned (.tuple #[.int .u32 o1, .int .i64 o2]) ∧ Kp w w'') fun _ _ ⟨h, k⟩ => ⟨by rw [h, ho1, ho2], by rw [← k]; exact hk⟩)
  have C7 := Lib.hid (fun (w' : World) (hk : Kp w w') => (check_any ao n cap vs w' (hv.kp hk) hnm).mono (R' := fun e1 w'' => e1 = .returned (.int .i64 c1) ∧ Kp w w'') fun _ _ ⟨h, k⟩ => ⟨by rw [h, hc1], hk.trans k⟩)
  have C8 := Lib.hid (fun (w' : World) (hk : Kp w w') => (rcheck_any ao n cap vs w' (hv.kp hk) hnm).mono (R' := fun e1 w'' => e1 = .returned (.int .i64 c1) ∧ Kp w w'') fun _ _ ⟨h, k⟩ => ⟨by rw [h, hc1], hk.trans k⟩)
  have C9 := Lib.hid (fun (w' : World) (hk : Kp w w') => (has_any p x w' hp hp').mono (R' := fun e1 w'' => e1 = .returned (.bool b1) ∧ Kp w w'') fun _ _ ⟨h, k⟩ => ⟨by rw [h, hb1], by rw [← k]; exact hk⟩)
  have C10 := Lib.hid (fun (w' : World) (hk : Kp w w') => (rhas_any p x w' hp hp').mono (R' := fun e1 w'' => e1 = .returned (.bool b1) ∧ Kp w w'') fun _ _ ⟨h, k⟩ => ⟨by rw [h, hb1], by rw [← k]; exact hk⟩)
  have C11 := Lib.hid (fun (w' : World) (hk : Kp w w') => (count_any e w' he he').mono (R' := fun e1 w'' => e1 = .returned (.int .i64 (r : Int)) ∧ Kp w w'') fun _ _ ⟨h, k⟩ => ⟨by rw [h, ← hr]; rfl, hk.trans k⟩)
  have HQ := Lib.hid hq
  have HR := Lib.hid hr
  clear hT hv hx hq hr ht1 ht2 hf1 hf2 ho1 ho2 hc1 hb1 hnm hmm
  go_enter Tryd.func4, Tryd.ntmps4
  go_wp2_with fail
  refine (lives_yes (Kp.refl w) HT.out).mono ?_
  rintro e1 w1 ⟨rfl, k1⟩
  go_wp2_with fail
  refine (C1.out _ k1).mono ?_
  rintro e2 w2 ⟨rfl, k2⟩
  clear k1
  go_wp2_with fail
  refine (C2.out _ k2).mono ?_
  rintro e3 w3 ⟨rfl, k3⟩
  clear k2
  go_wp2_with fail
  refine (C3.out _ k3).mono ?_
  rintro e4 w4 ⟨rfl, k4⟩
  clear k3
  go_wp2_with fail
  refine (C4.out _ k4).mono ?_
  rintro e5 w5 ⟨rfl, k5⟩
  clear k4
  go_wp2_with fail
  refine (C5.out _ k5).mono ?_
  rintro e6 w6 ⟨rfl, k6⟩
  clear k5
  go_wp2_with fail
  refine (C6.out _ k6).mono ?_
  rintro e7 w7 ⟨rfl, k7⟩
  clear k6
  go_wp2_with fail
  refine (C7.out _ k7).mono ?_
  rintro e8 w8 ⟨rfl, k8⟩
  clear k7
  go_wp2_with fail
  refine (C8.out _ k8).mono ?_
  rintro e9 w9 ⟨rfl, k9⟩
  clear k8
  go_wp2_with fail
  refine (list_any p _ hp hp' (HT.out.kp k9)).mono ?_
  rintro e10 w10 ⟨lo, lc, rfl, hl, k10⟩
  rw [HQ.out] at hl ⊢
  have HL := Lib.hid hl
  have K10 := Lib.hid (k9.trans k10)
  clear hl k9 k10
  go_wp2_with fail
  refine (rlist_any p _ hp hp').mono ?_
  rintro e11 w11 ⟨mo, mc, rfl, hl2, k11⟩
  rw [HQ.out] at hl2 ⊢
  have HL2 := Lib.hid hl2
  have HL3 := Lib.hid (HL.out.kp k11)
  have K11 := Lib.hid (K10.out.trans k11)
  clear hl2 k11
  go_wp2_with fail
  refine (ints_any lo mo q q lc mc (lnF p) (lnF p) _ HL3.out HL2.out (by unfold maxLen; omega) (by unfold maxLen; omega)).mono ?_
  rintro e12 w12 ⟨rfl, k12⟩
  rw [eqI_yes (fun i _ => rfl)]
  have K12 := Lib.hid (K11.out.trans k12)
  clear k12
  go_wp2_with fail
  refine (C9.out _ K12.out).mono ?_
  rintro e13 w13 ⟨rfl, k13⟩
  go_wp2_with fail
  refine (C10.out _ k13).mono ?_
  rintro e14 w14 ⟨rfl, k14⟩
  clear k13
  go_wp2_with fail
  refine (C11.out _ k14).mono ?_
  rintro e15 w15 ⟨rfl, k15⟩
  clear k14
  go_wp2_with fail
  refine (rlist_any e _ he he').mono ?_
  rintro e16 w16 ⟨no, nc, rfl, _, k16⟩
  rw [HR.out]
  have K16 := Lib.hid (k15.trans k16)
  clear k15 k16
  go_wp2
  go_ret
  exact ⟨rfl, K16.out⟩

theorem calls_walk (p e lv ac : Int) (ao : Option Addr) (n cap : Nat) (vs : Nat → Vc) (x : Int) (bo : Option Addr) (m cap2 : Nat) (xs : Nat → Int) (w : World) (hT : TabIn w) (hv : VIn w ao vs n) (hn : n ≤ maxLen) (hx : IIn w bo xs m) (hm : m ≤ maxLen)
    (hp : 0 ≤ p) (hp' : p < 4294967296) (he : 0 ≤ e) (he' : e < 4294967296) (_hl : -9223372036854775808 ≤ lv) (_hl' : lv ≤ 9223372036854775807) (_ha : -9223372036854775808 ≤ ac) (_ha' : ac ≤ 9223372036854775807) (_hx : -9223372036854775808 ≤ x) (_hx' : x ≤ 9223372036854775807) :
    Calls Tryd.prog 4 #[.int .u32 p, .int .u32 e, .int .i64 lv, .int .i64 ac, .slice ao n cap, .int .i64 x, .slice bo m cap2] w (Yes w) := by
  by_cases h40 : 40 < n
  · exact calls_out p e lv ac ao n cap vs x bo m cap2 xs w hT hn hm (.inl h40)
  · by_cases hm40 : 40 < m
    · exact calls_out p e lv ac ao n cap vs x bo m cap2 xs w hT hn hm (.inr ⟨by omega, hm40⟩)
    · exact calls_in p e lv ac ao n cap vs x bo m cap2 xs w hT hv hx (by omega) (by omega) hp hp' he he'
end Ln
end Go.Proofs.YtlhbpklilfabnaaDoor
