/-
  PLAIN FACTS AND A WALK: two sources with a remark between them; the kit's Tokens. Own work.
-/
import Derived.Test.YtlgkcjhoaecekaaDoorLxNums
namespace Go.Proofs.YtlgkcjhoaecekaaDoor
namespace Lx
open Go.RowKit Go
set_option linter.unusedVariables false

/-- What stands ahead of the second source. -/
def headL (a remark : List UInt8) : List UInt8 := a ++ 10 :: 32 :: 9 :: 47 :: 47 :: 32 :: (remark ++ [10])
theorem head_line (a remark : List UInt8) (hr : ∀ b ∈ remark, noNl b = true) : (posL (headL a remark)).1 = ((a.filter (fun b => b == 10)).length : Int) + 3 := by
  have h0 : remark.filter (fun b => b == 10) = [] := by
    rw [List.filter_eq_nil_iff]
    intro b hb
    have := hr b hb
    unfold noNl at this
    simpa using this
  unfold posL headL
  simp only [List.filter_append, List.filter_cons, List.filter_nil, h0]
  simp
  omega
theorem parts_lex {a b remark : List UInt8} {la lb : List Tk} (ha : Lex a 1 1 = .ok la) (hb : Lex b 1 1 = .ok lb) (hr : ∀ x ∈ remark, noNl x = true) :
    Lex (headL a remark ++ b) 1 1 = .ok (la ++ lb.map (shiftT ((posL (headL a remark)).1 - 1))) := by
  have e : headL a remark ++ b = a ++ 10 :: (32 :: 9 :: 47 :: 47 :: 32 :: (remark ++ 10 :: b)) := by unfold headL; simp
  rw [e, Lex_app a.length (Nat.le_refl _) ha]
  have h1 : hdOf (32 :: 9 :: 47 :: 47 :: 32 :: (remark ++ 10 :: b)) = .bl := rfl
  have s1 : spn isBl (32 :: 9 :: 47 :: 47 :: 32 :: (remark ++ 10 :: b)) = 2 := by
    rw [spn_cons_t (by decide), spn_cons_t (by decide), spn_cons_f (by decide)]
  rw [Lex_bl h1, s1]
  have d1 : (32 :: 9 :: 47 :: 47 :: 32 :: (remark ++ 10 :: b)).drop 2 = 47 :: 47 :: 32 :: (remark ++ 10 :: b) := rfl
  rw [d1]
  have h2 : hdOf (47 :: 47 :: 32 :: (remark ++ 10 :: b)) = .cm := rfl
  have s0 : spn noNl (remark ++ 10 :: b) = remark.length := by
    rw [spn_nl (by decide) b remark, spn_all hr]
  have s2 : spn noNl (47 :: 47 :: 32 :: (remark ++ 10 :: b)) = remark.length + 3 := by
    rw [spn_cons_t (by decide), spn_cons_t (by decide), spn_cons_t (by decide), s0]
  rw [Lex_cm h2, s2]
  have d2 : (47 :: 47 :: 32 :: (remark ++ 10 :: b)).drop (remark.length + 3) = 10 :: b := by
    show (remark ++ 10 :: b).drop remark.length = _
    rw [List.drop_left]
  rw [d2, Lex_nl (s := 10 :: b) rfl]
  have hl := head_line a remark hr
  have e3 : (1 : Int) + ((a.filter (fun b => b == 10)).length : Int) + 1 + 1 = 1 + ((posL (headL a remark)).1 - 1) := by omega
  rw [show (10 :: b).drop 1 = b from rfl, e3, Lex_shift b.length (Nat.le_refl _) hb]
  rfl
set_option maxHeartbeats 1000000 in
theorem tokens_same (ao bo : Option Addr) (ca cb : Nat) (l : List Tk) (w : World) (hv : TIn w ao l) (hv2 : TIn w bo l) (hn : l.length ≤ 65536) :
    Calls Tryd.prog 15 #[.slice ao l.length ca, .slice bo l.length cb] w fun e w' => e = .returned (.bool true) ∧ Qt w w' := by
  have HV := Lib.hid hv
  have HV2 := Lib.hid hv2
  obtain ⟨n, hn'⟩ : ∃ n, l.length = n := ⟨_, rfl⟩
  have HN := Lib.hid hn'
  rw [hn'] at hn ⊢
  have hn2 : (n : Int) ≤ 65536 := by omega
  clear hv hv2 hn'
  go_enter Tryd.func15, Tryd.ntmps15
  go_wp2
  go_loopw [5] (fun i wr => ∃ (k : Nat), k ≤ n ∧ i = .int .i64 k ∧ Qt w wr) (fun i _ => n - (intOf i).toNat)
  case atStart => exact ⟨0, Nat.zero_le _, rfl, Qt.refl _⟩
  case round =>
    obtain ⟨k, hk, rfl, hkp⟩ := hrel
    by_cases hlt : k < n
    · obtain ⟨b, off, hao, hc⟩ := TIn.at (HV.out.kp hkp.kp) (i := k) (by rw [HN.out]; exact hlt)
      subst hao
      obtain ⟨b2, off2, hbo, hc2⟩ := TIn.at (HV2.out.kp hkp.kp) (i := k) (by rw [HN.out]; exact hlt)
      subst hbo
      have x0 := hc.k k (by rw [HN.out]; exact hlt)
      have x1 := hc.t k (by rw [HN.out]; exact hlt)
      have x2 := hc.l' k (by rw [HN.out]; exact hlt)
      have x3 := hc.c k (by rw [HN.out]; exact hlt)
      have x4 := hc.n k (by rw [HN.out]; exact hlt)
      have y0 := hc2.k k (by rw [HN.out]; exact hlt)
      have y1 := hc2.t k (by rw [HN.out]; exact hlt)
      have y2 := hc2.l' k (by rw [HN.out]; exact hlt)
      have y3 := hc2.c k (by rw [HN.out]; exact hlt)
      have y4 := hc2.n k (by rw [HN.out]; exact hlt)
      have hk0 : (0 : Int) ≤ (k : Int) := Int.natCast_nonneg _
      have hk1 : (k : Int) < (n : Int) := by omega
      clear hc hc2
      generalize l.getD k t0 = x at *
      obtain ⟨xk, xt, xl, xc, xn⟩ := x
      simp only at x0 x1 x2 x3 x4 y0 y1 y2 y3 y4
      have q3 := tok_same xk xl xc (bytesOf xt) xn
      go_wp2
      go_quiet (fail)
      go_wp2
      go_roundw
      case rel => exact ⟨k + 1, by omega, by go_num, hkp.drew _⟩
      case measure => simp [intOf]; omega
    · obtain rfl : k = n := by omega
      go_wp2
      go_ret
      exact ⟨rfl, hkp⟩
end Lx
end Go.Proofs.YtlgkcjhoaecekaaDoor
