/-
  WALK: the statement CodeGoes, calls; the whole. Own work.
-/
import Derived.Test.YtehmpakcfahmaaaDoorCoGoes
namespace Go.Proofs.YtehmpakcfahmaaaDoor
namespace Co
open Go.RowKit Go
set_option linter.unusedVariables false

set_option maxHeartbeats 4000000 in
set_option maxRecDepth 100000 in
theorem goes_call (x y z : Int) (ao : Option Addr) (n cap : Nat) (xs : Nat → Int) (w : World) (hE : Env w) (hi : Wf ⟨17, x, y, z⟩) (hc : chk ⟨17, x, y, z⟩ = true) (hv : IIn w ao xs n) (hn : (n : Int) ≤ 100) (h0 : 0 ≤ x) (inn : Bool) (hin : decide (x < (n : Int)) = inn) :
    Calls Tryd.prog 8 #[.agg #[.int .i64 17, .int .i64 x, .int .i64 y, .int .i64 z], .slice ao n cap] w (Yes w) := by
  have HI := Lib.hid hi
  have HC := Lib.hid (chkE_yes hc)
  have HV := Lib.hid hv
  have H1 := Lib.hid (show jmpT ⟨17, x, y, z⟩ = 0 by unfold jmpT; rw [hc]; rfl)
  have H2 := Lib.hid (show jmpJ ⟨17, x, y, z⟩ = false by unfold jmpJ; rw [hc]; rfl)
  have H3 := Lib.hid (show jmpO ⟨17, x, y, z⟩ = true by unfold jmpO; rw [hc]; rfl)
  have hW : effO ⟨17, x, y, z⟩ n = inn := by unfold effO; rw [hc, ← hin]; simp
  have H6 := Lib.hid hW
  have hU : inn = true → effT ⟨17, x, y, z⟩ xs n = xs x.toNat := fun h => by unfold effT; rw [if_pos (by rw [hW, h]), if_pos rfl]
  have hG : inn = true → effG ⟨17, x, y, z⟩ n = 1 := fun h => by unfold effG; rw [if_pos (by rw [hW, h])]; rfl
  have HU := Lib.hid hU
  have HG := Lib.hid hG
  clear hi hc hv hW hU hG
  have K0 := (Kp.refl w).alloc #[.int .i64 17, .int .i64 x, .int .i64 y, .int .i64 z] 27
  cases inn with
  | false =>
    have hx : (n : Int) ≤ x := by simpa using hin
    go_enter Tryd.func8, Tryd.ntmps8
    go_wp2_with fail
    refine (lives_k hE K0).mono ?_
    rintro e w1 ⟨rfl, k1⟩
    have c1 := k1.cells
    go_wp2_with fail
    refine (Jumps_k hE (K0.trans k1) 17 x y z HI.out _ _ _ H1.out H2.out H3.out).mono ?_
    rintro e w2 ⟨rfl, k2⟩
    have kb := k1.trans k2
    have c2 := kb.cells
    clear k1 k2 c1
    go_wp2_with fail
    refine (Check_k hE (K0.trans kb) 17 x y z 0 HI.out HC.out).mono ?_
    rintro e w3 ⟨rfl, k3⟩
    have kc := kb.trans k3
    have c3 := kc.cells
    clear kb k3 c2
    go_wp2_with fail
    refine (Effect_k hE (K0.trans kc) 17 x y z HI.out ao n cap xs (HV.out.kp (K0.trans kc)) _ _ _ rfl rfl H6.out).mono ?_
    rintro e w4 ⟨rfl, k4⟩
    have kd := kc.trans k4
    have c4 := kd.cells
    clear kc k4 c3
    go_wp2
    go_ret
    exact ⟨rfl, K0.trans kd⟩
  | true =>
    have hx : x < (n : Int) := by simpa using hin
    rcases hv : HV.out with hv | ⟨b0, off, rfl, hv'⟩
    · omega
    have hcell := hv'.at' x.toNat (by omega)
    have hsz := hv'.size
    have HU2 := Lib.hid (HU.out rfl)
    have HG2 := Lib.hid (HG.out rfl)
    clear hv hv' HU HG
    generalize xs x.toNat = v at *
    go_enter Tryd.func8, Tryd.ntmps8
    go_wp2_with fail
    refine (lives_k hE K0).mono ?_
    rintro e w1 ⟨rfl, k1⟩
    have c1 := k1.cells
    go_wp2_with fail
    refine (Jumps_k hE (K0.trans k1) 17 x y z HI.out _ _ _ H1.out H2.out H3.out).mono ?_
    rintro e w2 ⟨rfl, k2⟩
    have kb := k1.trans k2
    have c2 := kb.cells
    clear k1 k2 c1
    go_wp2_with fail
    refine (Check_k hE (K0.trans kb) 17 x y z 0 HI.out HC.out).mono ?_
    rintro e w3 ⟨rfl, k3⟩
    have kc := kb.trans k3
    have c3 := kc.cells
    clear kb k3 c2
    go_wp2_with fail
    refine (Effect_k hE (K0.trans kc) 17 x y z HI.out (some ⟨b0, off, none⟩) n cap xs (HV.out.kp (K0.trans kc)) v 1 true HU2.out HG2.out H6.out).mono ?_
    rintro e w4 ⟨rfl, k4⟩
    have kd := kc.trans k4
    have c4 := kd.cells
    clear kc k4 c3
    go_wp2
    go_ret
    exact ⟨rfl, K0.trans kd⟩
theorem goes_walk (i : In) (ao : Option Addr) (n cap : Nat) (xs : Nat → Int) (w : World) (hE : Env w) (hi : Wf i) (hv : IIn w ao xs n) (hm : n ≤ 9223372036854775807) :
    Calls Tryd.prog 8 #[.agg #[.int .i64 i.op, .int .i64 i.a, .int .i64 i.b, .int .i64 i.c], .slice ao n cap] w (Yes w) := by
  obtain ⟨op, x, y, z⟩ := i
  cases hc : chk ⟨op, x, y, z⟩ with
  | false => exact goes_bad op x y z ao n cap w hE hi hc
  | true =>
    by_cases hn : (100 : Int) < n
    · exact goes_long op x y z ao n cap xs w hE hi hc hv hn hm
    have hop := (chk_parts hc).1
    simp only at hop
    by_cases h17 : op = 17
    · subst h17
      exact goes_call x y z ao n cap xs w hE hi hc hv (by omega) (chk_call hc rfl) _ rfl
    · obtain ⟨hj, hs, ht, hg⟩ := goes_row hop
      have eO : effO ⟨op, x, y, z⟩ n = true := by unfold effO; rw [hc]; simp [h17]
      have eU : effT ⟨op, x, y, z⟩ xs n = (rowAt op).tk := by unfold effT; rw [if_pos eO, if_neg h17]
      have eG : effG ⟨op, x, y, z⟩ n = (rowAt op).gv := by unfold effG; rw [if_pos eO]
      refine goes_plain op x y z ao n cap xs w hE hi hc hv (by omega) (by simp [h17]) _ _ _ _ _ rfl rfl rfl eU eG eO ht.1 ht.2 hg.1 hg.2 (decide (op = 15)) (decide (op = 16)) (decide (op = 1)) (decide (op = 18)) rfl rfl rfl rfl rfl ?_
      unfold jmpT jmpJ jmpO
      rw [hc, hj, hs]
      by_cases a : op = 15
      · subst a; simp
      by_cases b : op = 16
      · subst b; simp
      by_cases c : op = 1
      · subst c; simp
      by_cases d : op = 18
      · subst d; simp
      simp [a, b, c, d]
end Co
end Go.Proofs.YtehmpakcfahmaaaDoor
