/-
  WALKS: package image, what it tells of an image: Of, Range, Calls. Own work.
-/
import Derived.Test.YtaeblnlbelebkaaGreatDoorImChk
namespace Go.Proofs.YtaeblnlbelebkaaGreatDoor
namespace Im
open Go.RowKit Go
open Co (Kp ret_int ret_bool ret2_int In in0 IIn Ics Wf)
open Ln (VIn Vcs)
set_option linter.unusedVariables false

theorem ret_ib {a b : Int} {c d : Bool} (h : a = b) (g : c = d) : Ending.returned (.tuple #[.int .i64 a, .bool c]) = .returned (.tuple #[.int .i64 b, .bool d]) := by rw [h, g]
/-- What Of answers. -/
def ofA (m : Im) (a : Int) : Option Nat := if chkI m = 0 then ofK m a m.funcs.length else none
def ofR : Option Nat → Int
  | some f => f
  | none => 0
theorem ofA_no {m : Im} {a : Int} (h : chkI m ≠ 0) : ofA m a = none := by unfold ofA; rw [if_neg h]
theorem ofA_yes {m : Im} {a : Int} (h : chkI m = 0) : ofA m a = ofK m a m.funcs.length := by unfold ofA; rw [if_pos h]
set_option maxHeartbeats 4000000 in
set_option maxRecDepth 100000 in
theorem Of_any {w : World} (hE : Co.Env w) {h : Hd} {m : Im} (hin : ImIn w h m) (hW : ImWf m) (f : Int) (r : Int) (b : Bool) (hr : ofR (ofA m f) = r) (hb : (ofA m f).isSome = b) :
    Calls Tryz.prog 16 #[.agg #[.slice h.aC m.code.length h.cC, .slice h.aF m.funcs.length h.cF, .slice h.aV m.vecs.length h.cV, .int .i64 m.main, .slice h.aI m.init.length h.cI, .slice h.aP m.ports.length h.cP, .int .i64 m.stack, .slice h.aA m.atoms.length h.cA], .int .i64 f] w fun e w' => e = .returned (.tuple #[.int .i64 r, .bool b]) ∧ Kp w w' := by
  have nF := hW.nF
  have PN := Ptr.new hin
  have EN := hE.kept ((Kp.refl w).alloc #[.slice h.aC m.code.length h.cC, .slice h.aF m.funcs.length h.cF, .slice h.aV m.vecs.length h.cV, .int .i64 m.main, .slice h.aI m.init.length h.cI, .slice h.aP m.ports.length h.cP, .int .i64 m.stack, .slice h.aA m.atoms.length h.cA] 29)
  have K1 := (Kp.refl w).alloc #[.slice h.aC m.code.length h.cC, .slice h.aF m.funcs.length h.cF, .slice h.aV m.vecs.length h.cV, .int .i64 m.main, .slice h.aI m.init.length h.cI, .slice h.aP m.ports.length h.cP, .int .i64 m.stack, .slice h.aA m.atoms.length h.cA] 29
  have Z1 : w.heap.size < (w.alloc (.cells #[.slice h.aC m.code.length h.cC, .slice h.aF m.funcs.length h.cF, .slice h.aV m.vecs.length h.cV, .int .i64 m.main, .slice h.aI m.init.length h.cI, .slice h.aP m.ports.length h.cP, .int .i64 m.stack, .slice h.aA m.atoms.length h.cA] 29)).heap.size := by simp
  have HW := Lib.hid hW
  clear hin hW hE
  go_enter Tryz.func16, Tryz.ntmps16
  go_upto_region 1 with (fail)
  revert PN EN K1 Z1
  generalize w.heap.size = p
  generalize w.alloc _ = w1
  intro PN EN K1 Z1
  have e0 := PN.c0
  have e1 := PN.c1
  have e2 := PN.c2
  have e3 := PN.c3
  have e4 := PN.c4
  have e5 := PN.c5
  have e6 := PN.c6
  have e7 := PN.c7
  have HPN := Lib.hid PN
  have HEN := Lib.hid EN
  clear PN EN
  by_cases h0 : chkI m = 0
  case neg =>
    have er : r = 0 := by rw [← hr, ofA_no h0]; rfl
    have eb : b = false := by rw [← hb, ofA_no h0]; rfl
    subst er eb
    generalize hq : chkI m = q at *
    have HQ := Lib.hid hq
    have hne : (q != 0) = true := by simpa using h0
    clear hb hr h0 hq
    go_wp2_with fail
    refine (Check_any HEN.out HPN.out.in' HW.out).mono ?_
    rw [HQ.out]
    rintro e w2 ⟨rfl, k2⟩
    go_wp2
    go_ret2
    exact ⟨rfl, K1.trans k2⟩
  case pos =>
  rw [ofA_yes h0] at hr hb
  obtain ⟨hlo, hmay, hac⟩ := chkI_zero.1 h0
  have HF := Lib.hid hmay.fns
  have HQ := Lib.hid h0
  have HR := Lib.hid hr
  have HB := Lib.hid hb
  clear h0 hr hb hlo hmay hac
  go_wp2_with fail
  refine (Check_any HEN.out HPN.out.in' HW.out).mono ?_
  rw [HQ.out]
  rintro e w2 ⟨rfl, k2⟩
  have z2 : p < w2.heap.size := Nat.lt_of_lt_of_le Z1 k2.size
  have HP2 := Lib.hid (HPN.out.kp k2)
  have HE2 := Lib.hid (HEN.out.kept k2)
  have K2 := Lib.hid (K1.trans k2)
  have d0 := HP2.out.c0
  have d1 := HP2.out.c1
  clear k2 e0 e1 e2 e3 e4 e5 e6 e7 K1
  go_wp2
  go_loopw [15] (fun i wr => ∃ k : Nat, k ≤ m.funcs.length ∧ i = .int .i64 k ∧ Hid (ofK m f k = none) ∧ w2 = wr) (fun i _ => m.funcs.length - (intOf i).toNat)
  case atStart => exact ⟨0, Nat.zero_le _, rfl, rfl, rfl⟩
  case round =>
    obtain ⟨k, hk, rfl, hno, rfl⟩ := hrel
    by_cases hlt : k < m.funcs.length
    · have HIT : Hid (m.fr k ≤ f ∧ f < m.to k → ofK m f m.funcs.length = some k) := fun g => ofK_hit hno.out g _ hlt
      have MISS : Hid (¬ (m.fr k ≤ f ∧ f < m.to k) → ofK m f (k + 1) = none) := fun g => by
        have := hno.out
        simp only [ofK, this, if_neg g]
      generalize hfr : m.fr k = A at *
      generalize hto : m.to k = B at *
      have HFR := Lib.hid hfr
      have HTO := Lib.hid hto
      clear hfr hto
      by_cases hc : A ≤ f ∧ f < B
      · obtain ⟨c1, c2⟩ := hc
        have HH := Lib.hid (HIT.out ⟨c1, c2⟩)
        go_wp2_with (go_at_call 49; refine (bounds_any HP2.out HW.out k hlt A B HFR.out HTO.out).mono ?_; rintro e w4 ⟨rfl, rfl⟩)
        go_ret2
        exact ⟨ret_ib (by rw [← HR.out, HH.out]; rfl) (by rw [← HB.out, HH.out]; rfl), K2.out⟩
      · have HM := Lib.hid (MISS.out hc)
        have HC := Lib.hid hc
        clear hc
        go_wp2_with (go_at_call 49; refine (bounds_any HP2.out HW.out k hlt A B HFR.out HTO.out).mono ?_; rintro e w4 ⟨rfl, rfl⟩)
        all_goals first
          | (exfalso; have := HC.out; omega)
          | (go_roundw
             case rel => exact ⟨k + 1, by omega, by go_num, HM.out, (by first | trivial | rfl)⟩
             case measure => simp [intOf]; omega)
    · obtain rfl : k = m.funcs.length := by omega
      go_wp2
      go_ret2
      exact ⟨ret_ib (by rw [← HR.out, hno.out]; rfl) (by rw [← HB.out, hno.out]; rfl), K2.out⟩

/-- What Range answers. -/
def rgA (m : Im) (f : Int) : Int := if chkI m = 0 ∧ 0 ≤ f ∧ f < m.funcs.length then m.fr f.toNat else 0
def rgB (m : Im) (f : Int) : Int := if chkI m = 0 ∧ 0 ≤ f ∧ f < m.funcs.length then m.to f.toNat else 0
set_option maxHeartbeats 4000000 in
set_option maxRecDepth 100000 in
theorem Range_any {w : World} (hE : Co.Env w) {h : Hd} {m : Im} (hin : ImIn w h m) (hW : ImWf m) (f : Int) (r s : Int) (hr : rgA m f = r) (hs : rgB m f = s) :
    Calls Tryz.prog 18 #[.agg #[.slice h.aC m.code.length h.cC, .slice h.aF m.funcs.length h.cF, .slice h.aV m.vecs.length h.cV, .int .i64 m.main, .slice h.aI m.init.length h.cI, .slice h.aP m.ports.length h.cP, .int .i64 m.stack, .slice h.aA m.atoms.length h.cA], .int .i64 f] w fun e w' => e = .returned (.tuple #[.int .i64 r, .int .i64 s]) ∧ Kp w w' := by
  have PN := Ptr.new hin
  have EN := hE.kept ((Kp.refl w).alloc #[.slice h.aC m.code.length h.cC, .slice h.aF m.funcs.length h.cF, .slice h.aV m.vecs.length h.cV, .int .i64 m.main, .slice h.aI m.init.length h.cI, .slice h.aP m.ports.length h.cP, .int .i64 m.stack, .slice h.aA m.atoms.length h.cA] 29)
  have K1 := (Kp.refl w).alloc #[.slice h.aC m.code.length h.cC, .slice h.aF m.funcs.length h.cF, .slice h.aV m.vecs.length h.cV, .int .i64 m.main, .slice h.aI m.init.length h.cI, .slice h.aP m.ports.length h.cP, .int .i64 m.stack, .slice h.aA m.atoms.length h.cA] 29
  have Z1 : w.heap.size < (w.alloc (.cells #[.slice h.aC m.code.length h.cC, .slice h.aF m.funcs.length h.cF, .slice h.aV m.vecs.length h.cV, .int .i64 m.main, .slice h.aI m.init.length h.cI, .slice h.aP m.ports.length h.cP, .int .i64 m.stack, .slice h.aA m.atoms.length h.cA] 29)).heap.size := by simp
  have HW := Lib.hid hW
  clear hin hW hE
  go_enter Tryz.func18, Tryz.ntmps18
  go_upto_region 1 with (fail)
  revert PN EN K1 Z1
  generalize w.heap.size = p
  generalize w.alloc _ = w1
  intro PN EN K1 Z1
  have e0 := PN.c0
  have e1 := PN.c1
  have e2 := PN.c2
  have e3 := PN.c3
  have e4 := PN.c4
  have e5 := PN.c5
  have e6 := PN.c6
  have e7 := PN.c7
  have HPN := Lib.hid PN
  have HEN := Lib.hid EN
  clear PN EN
  by_cases h0 : chkI m = 0
  case neg =>
    have er : r = 0 := by rw [← hr]; unfold rgA; rw [if_neg (fun g => h0 g.1)]
    have es : s = 0 := by rw [← hs]; unfold rgB; rw [if_neg (fun g => h0 g.1)]
    subst er es
    generalize hq : chkI m = q at *
    have HQ := Lib.hid hq
    have hne : (q != 0) = true := by simpa using h0
    clear hs hr h0 hq
    go_wp2_with fail
    refine (Check_any HEN.out HPN.out.in' HW.out).mono ?_
    rw [HQ.out]
    rintro e w2 ⟨rfl, k2⟩
    go_wp2
    go_ret2
    exact ⟨rfl, K1.trans k2⟩
  case pos =>
  have HQ := Lib.hid h0
  by_cases hf : 0 ≤ f ∧ f < m.funcs.length
  case neg =>
    have er : r = 0 := by rw [← hr]; unfold rgA; rw [if_neg (fun g => hf g.2)]
    have es : s = 0 := by rw [← hs]; unfold rgB; rw [if_neg (fun g => hf g.2)]
    subst er es
    have HH : Hid (decide (0 ≤ f ∧ f < (m.funcs.length : Int)) = false) := Lib.hid (by simpa using hf)
    clear hs hr h0 hf
    go_wp2_with fail
    refine (Check_any HEN.out HPN.out.in' HW.out).mono ?_
    rw [HQ.out]
    rintro e w2 ⟨rfl, k2⟩
    have z2 : p < w2.heap.size := Nat.lt_of_lt_of_le Z1 k2.size
    have HP2 := Lib.hid (HPN.out.kp k2)
    have HE2 := Lib.hid (HEN.out.kept k2)
    have K2 := Lib.hid (K1.trans k2)
    have d0 := HP2.out.c0
    have d1 := HP2.out.c1
    clear k2 e0 e1 e2 e3 e4 e5 e6 e7 K1
    go_wp2_with (go_at_call 51; refine (has_F _ _ _ _ _ false HH.out).mono ?_; rintro e w4 ⟨rfl, rfl⟩)
    go_ret2
    exact ⟨rfl, K2.out⟩
  case pos =>
  obtain ⟨g0, g1⟩ := hf
  have er : m.fr f.toNat = r := by rw [← hr]; unfold rgA; rw [if_pos ⟨h0, g0, g1⟩]
  have es : m.to f.toNat = s := by rw [← hs]; unfold rgB; rw [if_pos ⟨h0, g0, g1⟩]
  have HH : Hid (decide (0 ≤ f ∧ f < (m.funcs.length : Int)) = true) := Lib.hid (by simp; omega)
  obtain ⟨n, rfl⟩ := Int.eq_ofNat_of_zero_le g0
  rw [Int.toNat_natCast] at er es
  have HR := Lib.hid er
  have HS := Lib.hid es
  have hn : n < m.funcs.length := by omega
  clear hr hs er es h0
  go_wp2_with fail
  refine (Check_any HEN.out HPN.out.in' HW.out).mono ?_
  rw [HQ.out]
  rintro e w2 ⟨rfl, k2⟩
  have z2 : p < w2.heap.size := Nat.lt_of_lt_of_le Z1 k2.size
  have HP2 := Lib.hid (HPN.out.kp k2)
  have HE2 := Lib.hid (HEN.out.kept k2)
  have K2 := Lib.hid (K1.trans k2)
  have d0 := HP2.out.c0
  have d1 := HP2.out.c1
  clear k2 e0 e1 e2 e3 e4 e5 e6 e7 K1
  go_wp2_with (first
    | (go_at_call 51; refine (has_F _ _ _ _ _ true HH.out).mono ?_; rintro e w4 ⟨rfl, rfl⟩)
    | (go_at_call 49; refine (bounds_any HP2.out HW.out n hn r s HR.out HS.out).mono ?_; rintro e w4 ⟨rfl, rfl⟩))
  go_ret2
  exact ⟨rfl, K2.out⟩

/-- What Calls answers. -/
def caA (m : Im) (f : Int) : List Nat := if chkI m = 0 ∧ 0 ≤ f ∧ f < m.funcs.length then callsOf m f.toNat else []
theorem nin_nil (w : World) : NIn w (.slice none 0 0) [] := ⟨none, 0, rfl, .inl rfl, by simp⟩
/-- What a call answers that gives a list of numbers; nothing that was there has turned. -/
def GvN (w : World) (l : List Nat) (e : Ending) (w' : World) : Prop := ∃ v, e = .returned v ∧ NIn w' v l ∧ Kp w w'
set_option maxHeartbeats 4000000 in
set_option maxRecDepth 100000 in
theorem Calls_any {w : World} (hE : Co.Env w) {h : Hd} {m : Im} (hin : ImIn w h m) (hW : ImWf m) (f : Int) (l : List Nat) (hl : caA m f = l) :
    Calls Tryz.prog 24 #[.agg #[.slice h.aC m.code.length h.cC, .slice h.aF m.funcs.length h.cF, .slice h.aV m.vecs.length h.cV, .int .i64 m.main, .slice h.aI m.init.length h.cI, .slice h.aP m.ports.length h.cP, .int .i64 m.stack, .slice h.aA m.atoms.length h.cA], .int .i64 f] w (GvN w l) := by
  have PN := Ptr.new hin
  have EN := hE.kept ((Kp.refl w).alloc #[.slice h.aC m.code.length h.cC, .slice h.aF m.funcs.length h.cF, .slice h.aV m.vecs.length h.cV, .int .i64 m.main, .slice h.aI m.init.length h.cI, .slice h.aP m.ports.length h.cP, .int .i64 m.stack, .slice h.aA m.atoms.length h.cA] 29)
  have K1 := (Kp.refl w).alloc #[.slice h.aC m.code.length h.cC, .slice h.aF m.funcs.length h.cF, .slice h.aV m.vecs.length h.cV, .int .i64 m.main, .slice h.aI m.init.length h.cI, .slice h.aP m.ports.length h.cP, .int .i64 m.stack, .slice h.aA m.atoms.length h.cA] 29
  have Z1 : w.heap.size < (w.alloc (.cells #[.slice h.aC m.code.length h.cC, .slice h.aF m.funcs.length h.cF, .slice h.aV m.vecs.length h.cV, .int .i64 m.main, .slice h.aI m.init.length h.cI, .slice h.aP m.ports.length h.cP, .int .i64 m.stack, .slice h.aA m.atoms.length h.cA] 29)).heap.size := by simp
  have HW := Lib.hid hW
  clear hin hW hE
  go_enter Tryz.func24, Tryz.ntmps24
  go_upto_region 1 with (fail)
  revert PN EN K1 Z1
  generalize w.heap.size = p
  generalize w.alloc _ = w1
  intro PN EN K1 Z1
  have e0 := PN.c0
  have e1 := PN.c1
  have e2 := PN.c2
  have e3 := PN.c3
  have e4 := PN.c4
  have e5 := PN.c5
  have e6 := PN.c6
  have e7 := PN.c7
  have HPN := Lib.hid PN
  have HEN := Lib.hid EN
  clear PN EN
  by_cases h0 : chkI m = 0
  case neg =>
    have er : l = [] := by rw [← hl]; unfold caA; rw [if_neg (fun g => h0 g.1)]
    subst er
    generalize hq : chkI m = q at *
    have HQ := Lib.hid hq
    have hne : (q != 0) = true := by simpa using h0
    clear hl h0 hq
    go_wp2_with fail
    refine (Check_any HEN.out HPN.out.in' HW.out).mono ?_
    rw [HQ.out]
    rintro e w2 ⟨rfl, k2⟩
    go_wp2
    go_ret
    exact ⟨_, rfl, nin_nil _, K1.trans k2⟩
  case pos =>
  have HQ := Lib.hid h0
  by_cases hf : 0 ≤ f ∧ f < m.funcs.length
  case neg =>
    have er : l = [] := by rw [← hl]; unfold caA; rw [if_neg (fun g => hf g.2)]
    subst er
    have HH : Hid (decide (0 ≤ f ∧ f < (m.funcs.length : Int)) = false) := Lib.hid (by simpa using hf)
    clear hl h0 hf
    go_wp2_with fail
    refine (Check_any HEN.out HPN.out.in' HW.out).mono ?_
    rw [HQ.out]
    rintro e w2 ⟨rfl, k2⟩
    have z2 : p < w2.heap.size := Nat.lt_of_lt_of_le Z1 k2.size
    have HP2 := Lib.hid (HPN.out.kp k2)
    have HE2 := Lib.hid (HEN.out.kept k2)
    have K2 := Lib.hid (K1.trans k2)
    have d0 := HP2.out.c0
    have d1 := HP2.out.c1
    clear k2 e0 e1 e2 e3 e4 e5 e6 e7 K1
    go_wp2_with (go_at_call 51; refine (has_F _ _ _ _ _ false HH.out).mono ?_; rintro e w4 ⟨rfl, rfl⟩)
    go_ret
    exact ⟨_, rfl, nin_nil _, K2.out⟩
  case pos =>
  obtain ⟨g0, g1⟩ := hf
  have er : callsOf m f.toNat = l := by rw [← hl]; unfold caA; rw [if_pos ⟨h0, g0, g1⟩]
  have HH : Hid (decide (0 ≤ f ∧ f < (m.funcs.length : Int)) = true) := Lib.hid (by simp; omega)
  obtain ⟨hlo, hmay, hac⟩ := chkI_zero.1 h0
  have HF := Lib.hid hmay.fns
  have HI := Lib.hid hmay.ins
  have hn64 : m.funcs.length ≤ 64 := by unfold Long Large at hlo; omega
  obtain ⟨n, rfl⟩ := Int.eq_ofNat_of_zero_le g0
  rw [Int.toNat_natCast] at er
  have HR := Lib.hid er
  have hn : n < m.funcs.length := by omega
  clear hl er h0 hlo hmay hac
  go_wp2_with fail
  refine (Check_any HEN.out HPN.out.in' HW.out).mono ?_
  rw [HQ.out]
  rintro e w2 ⟨rfl, k2⟩
  have z2 : p < w2.heap.size := Nat.lt_of_lt_of_le Z1 k2.size
  have HP2 := Lib.hid (HPN.out.kp k2)
  have HE2 := Lib.hid (HEN.out.kept k2)
  have K2 := Lib.hid (K1.trans k2)
  have d0 := HP2.out.c0
  have d1 := HP2.out.c1
  clear k2 e0 e1 e2 e3 e4 e5 e6 e7 K1
  go_wp2_with (first
    | (go_at_call 51; refine (has_F _ _ _ _ _ true HH.out).mono ?_; rintro e w4 ⟨rfl, rfl⟩)
    | (go_at_call 54; refine (calls_any HP2.out HW.out HF.out HI.out hn64 n hn).mono ?_; rintro e w4 ⟨v, rfl, hv, k4, _⟩))
  go_ret
  rw [HR.out] at hv
  exact ⟨_, rfl, hv, K2.out.trans k4⟩

end Im
end Go.Proofs.YtaeblnlbelebkaaGreatDoor
