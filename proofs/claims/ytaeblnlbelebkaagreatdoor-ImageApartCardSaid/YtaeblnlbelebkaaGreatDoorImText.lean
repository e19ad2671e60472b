/-
  WALKS: package image, Text; the kit's Texts. Own work.
-/
import Derived.Test.YtaeblnlbelebkaaGreatDoorImChk
import Derived.Test.YtaeblnlbelebkaaGreatDoorImKit
import Derived.Test.YtaeblnlbelebkaaGreatDoorCoText
namespace Go.Proofs.YtaeblnlbelebkaaGreatDoor
namespace Im
open Go.RowKit Go
open Co (Kp ret_int ret_bool ret2_int In in0 IIn Ics Wf bytesOf txt)
open Ln (VIn Vcs)
set_option linter.unusedVariables false

def celT (l : List UInt8) : List Value := [.string (bytesOf l)]
/-- What Text answers. -/
def txA (m : Im) : List (List UInt8) := if chkI m = 0 then m.code.map txt else []
def TxP (w : World) (ts : List (List UInt8)) (q : Int) (e : Ending) (w' : World) : Prop := ∃ v, e = .returned (.tuple #[v, .int .i64 q]) ∧ w'.ownsRow w.heap.size 9 1 v ts.length (ts.flatMap celT) ∧ Kp w w'
theorem kp_grown {w w1 w2 : World} (k : Kp w w1) {row : Option Nat} (h : w1.grownBy w2 row) (hr : ∀ q, row = some q → w.heap.size ≤ q) : Kp w w2 :=
  ⟨k.below.trans ⟨h.os, h.tape, h.output, h.size, fun i hi => h.block i (Nat.lt_of_lt_of_le hi k.size) (fun e => by have := hr i e.symm; omega)⟩⟩
theorem own_le {w : World} {base base' size n : Nat} {e : TypeId} {v : Value} {xs : List Value} (h : w.ownsRow base e size v n xs) (hb : base' ≤ base) : w.ownsRow base' e size v n xs :=
  ⟨h.1, h.2.elim .inl (fun ⟨g, cap, cur, hv, hg, r⟩ => .inr ⟨g, cap, cur, hv, Nat.le_trans hb hg, r⟩)⟩
theorem info_T : (Tryz.prog.info? 9).map (fun i => (i.zero, i.size, i.bytes)) = some (some (.string ⟨#[]⟩), 1, 16) := by kernel_rfl
set_option maxHeartbeats 4000000 in
set_option maxRecDepth 100000 in
theorem Text_img {w : World} (hE : Co.Env w) (hP : Co.Pw w) {h : Hd} {m : Im} (hin : ImIn w h m) (hW : ImWf m) (ts : List (List UInt8)) (ht : txA m = ts) (q : Int) (hq : chkI m = q) :
    Calls Tryz.prog 20 #[h.val m] w (TxP w ts q) := by
  obtain ⟨i0, hi, hz0, hz1, hz2⟩ := info_parts info_T
  have PN := Ptr.new hin
  have EN := hE.kept ((Kp.refl w).alloc #[.slice h.aC m.code.length h.cC, .slice h.aF m.funcs.length h.cF, .slice h.aV m.vecs.length h.cV, .int .i64 m.main, .slice h.aI m.init.length h.cI, .slice h.aP m.ports.length h.cP, .int .i64 m.stack, .slice h.aA m.atoms.length h.cA] 29)
  have QN := hP.kept ((Kp.refl w).alloc #[.slice h.aC m.code.length h.cC, .slice h.aF m.funcs.length h.cF, .slice h.aV m.vecs.length h.cV, .int .i64 m.main, .slice h.aI m.init.length h.cI, .slice h.aP m.ports.length h.cP, .int .i64 m.stack, .slice h.aA m.atoms.length h.cA] 29)
  have K1 := (Kp.refl w).alloc #[.slice h.aC m.code.length h.cC, .slice h.aF m.funcs.length h.cF, .slice h.aV m.vecs.length h.cV, .int .i64 m.main, .slice h.aI m.init.length h.cI, .slice h.aP m.ports.length h.cP, .int .i64 m.stack, .slice h.aA m.atoms.length h.cA] 29
  have Z1 : w.heap.size < (w.alloc (.cells #[.slice h.aC m.code.length h.cC, .slice h.aF m.funcs.length h.cF, .slice h.aV m.vecs.length h.cV, .int .i64 m.main, .slice h.aI m.init.length h.cI, .slice h.aP m.ports.length h.cP, .int .i64 m.stack, .slice h.aA m.atoms.length h.cA] 29)).heap.size := by simp
  have HW := Lib.hid hW
  clear hin hW hE hP
  unfold Hd.val
  go_enter Tryz.func20, Tryz.ntmps20
  go_upto_region 1 with (fail)
  revert PN EN QN K1 Z1
  generalize hp : w.heap.size = p
  generalize w.alloc _ = w1
  intro PN EN QN K1 Z1
  have HPP := Lib.hid hp
  clear hp
  have e0 := PN.c0
  have e1 := PN.c1
  have e2 := PN.c2
  have e3 := PN.c3
  have e4 := PN.c4
  have e5 := PN.c5
  have e6 := PN.c6
  have e7 := PN.c7
  have HPN := Lib.hid PN
  have HEN := Lib.hid EN
  have HQN := Lib.hid QN
  clear PN EN QN
  by_cases h0 : chkI m = 0
  case neg =>
    have er : ts = [] := by rw [← ht]; unfold txA; rw [if_neg h0]
    subst er
    have HQ := Lib.hid hq
    have hne : (q != 0) = true := by rw [← hq]; simpa using h0
    clear ht h0 hq
    go_wp2_with fail
    refine (Check_any HEN.out HPN.out.in' HW.out).mono ?_
    rw [HQ.out]
    rintro e w2 ⟨rfl, k2⟩
    go_wp2
    go_ret2
    exact ⟨_, rfl, World.ownsRow_nil _ _ _ _, K1.trans k2⟩
  case pos =>
  have er : m.code.map txt = ts := by rw [← ht]; unfold txA; rw [if_pos h0]
  have eq : q = 0 := by rw [← hq]; exact h0
  subst eq
  obtain ⟨hlo, hmay, hac⟩ := chkI_zero.1 h0
  have n16 : m.code.length ≤ 16384 := by unfold Long Large at hlo; omega
  have HQ := Lib.hid hq
  have HR := Lib.hid er
  clear ht er h0 hlo hmay hac hq
  go_wp2_with fail
  refine (Check_any HEN.out HPN.out.in' HW.out).mono ?_
  rw [HQ.out]
  rintro e w2 ⟨rfl, k2⟩
  have z2 : p < w2.heap.size := Nat.lt_of_lt_of_le Z1 k2.size
  have HP2 := Lib.hid (HPN.out.kp k2)
  have HE2 := Lib.hid (HEN.out.kept k2)
  have HQ2 := Lib.hid (HQN.out.kept k2)
  have K2 := Lib.hid (K1.trans k2)
  have d0 := HP2.out.c0
  clear k2 e0 e1 e2 e3 e4 e5 e6 e7 K1 HPN HEN HQN
  go_wp2_with fail
  clear d0
  generalize hn : m.code.length = n at *
  have HN := Lib.hid hn
  clear hn
  go_loopw [5, 16] (fun v i wr => ∃ k : Nat, k ≤ n ∧ i = .int .i64 k ∧ wr.ownsRow w2.heap.size 9 1 v k (((m.code.take k).map txt).flatMap celT) ∧ Kp w2 wr) (fun _ i _ => n - (intOf i).toNat)
  case atStart => exact ⟨0, Nat.zero_le _, rfl, World.ownsRow_nil _ _ _ _, Kp.refl _⟩
  case round =>
    obtain ⟨k, hk, rfl, hown, kr⟩ := hrel
    have hwz : w2.heap.size ≤ wr.heap.size := kr.size
    by_cases hlt : k < n
    · obtain ⟨b, off, hao, hvc⟩ := CIn.at (HP2.out.kp kr).in'.code (i := k) (by rw [HN.out]; exact hlt)
      have x0 := hvc.o k (by rw [HN.out]; exact hlt)
      have x1 := hvc.a k (by rw [HN.out]; exact hlt)
      have x2 := hvc.b' k (by rw [HN.out]; exact hlt)
      have x3 := hvc.c k (by rw [HN.out]; exact hlt)
      have y0 := hvc.size
      have hk0 : (0 : Int) ≤ (k : Int) := Int.natCast_nonneg _
      have hk1 : (k : Int) < (n : Int) := by omega
      have hwf : Wf (m.code.getD k in0) := HW.out.code k
      have HS : Hid (∀ x, m.code.getD k in0 = x → ((m.code.take (k + 1)).map txt).flatMap celT = ((m.code.take k).map txt).flatMap celT ++ [.string (bytesOf (txt x))]) := Lib.hid (fun x hx => by
        rw [List.take_add_one, getD_some (d := in0) (show k < m.code.length by rw [HN.out]; exact hlt), hx]
        simp [celT])
      obtain ⟨x, hx⟩ : ∃ x, m.code.getD k in0 = x := ⟨_, rfl⟩
      have HS2 := Lib.hid (HS.out x hx)
      rw [hx] at x0 x1 x2 x3 hwf
      obtain ⟨op, xa, xb, xc⟩ := x
      simp only at x0 x1 x2 x3
      clear hvc hx HS
      have HWX := Lib.hid hwf
      have HKR := Lib.hid kr
      have HER := Lib.hid (HE2.out.kept (kr.alloc #[.int .i64 op, .int .i64 xa, .int .i64 xb, .int .i64 xc] 55))
      have HQR := Lib.hid (HQ2.out.kept (kr.alloc #[.int .i64 op, .int .i64 xa, .int .i64 xb, .int .i64 xc] 55))
      have HO := Lib.hid (hown.alloc (.cells #[.int .i64 op, .int .i64 xa, .int .i64 xb, .int .i64 xc] 55))
      clear hwf kr hown
      have hsw : w2.heap.size ≤ (wr.alloc (.cells #[.int .i64 op, .int .i64 xa, .int .i64 xb, .int .i64 xc] 55)).heap.size := by simp; omega
      have HCT := Lib.hid (Co.Text_any HER.out HQR.out ⟨op, xa, xb, xc⟩ HWX.out)
      have HKA := Lib.hid (HKR.out.alloc #[.int .i64 op, .int .i64 xa, .int .i64 xb, .int .i64 xc] 55)
      generalize txt ⟨op, xa, xb, xc⟩ = tx at *
      rw [hao]
      clear hao
      go_wp2_with fail
      revert HCT HKA HO hsw
      generalize wr.alloc _ = w3
      intro HO hsw HKA HCT
      refine HCT.out.mono ?_
      rintro e w4 ⟨rfl, k4⟩
      have own4 := own_up HO.out (Up.of_kp (lo := 0) k4) (Nat.zero_le _)
      have K4 := Lib.hid (HKA.out.trans k4)
      have hw4 : w2.heap.size ≤ w4.heap.size := Nat.le_trans hsw k4.size
      have ONE : Hid (∀ u ∈ ([.string (bytesOf tx)] : List Value), u.oneCell' = true) := Lib.hid (by intro u hu; simp at hu; subst hu; rfl)
      have NEW : Hid (∀ (j : Nat) (u : Value), ([.string (bytesOf tx)] : List Value)[j]? = some u → (w4.alloc (.cells #[.string (bytesOf tx)] 9)).cell? ((⟨w4.heap.size, 0, none⟩ : Addr).add j) = some u) := Lib.hid (World.news_of_block (cs := #[.string (bytesOf tx)]) (t := 9) (fr := (0, 0)) (heap_alloc_new w4 _))
      clear HO HCT k4
      go_wp2_with (at_builtin; refine wpList_append_own _ rfl _ _ 45 rfl w2.heap.size 9 i0 (.string ⟨#[]⟩) 1 16 Tryz.underlying45 hi hz0 hz1 hz2 rfl (by decide) _ _ _ rfl (own4.alloc _) ⟨w4.heap.size, 0, none⟩ 1 1 [.string (bytesOf tx)] rfl rfl NEW.out ONE.out (by unfold maxLen; omega) (by omega) (by simp; omega) ?_)
      intro v' w5 hown' hgrow _
      have HK5 := Lib.hid (kp_grown (K4.out.alloc #[.string (bytesOf tx)] 9) hgrow (fun q hq => (own4.lt q hq).1))
      have HO5 : Hid (w5.ownsRow w2.heap.size 9 1 v' (k + 1) (((m.code.take (k + 1)).map txt).flatMap celT)) := Lib.hid (by rw [HS2.out, List.map_take]; exact hown')
      clear hown' hgrow own4
      go_wp2
      go_roundw
      case rel => exact ⟨k + 1, by omega, by go_num, HO5.out, HK5.out⟩
      case measure => simp [intOf]; omega
    · obtain rfl : k = n := by omega
      go_wp2
      go_ret2
      have h1 : ts.length = k := by rw [← HR.out, List.length_map, HN.out]
      have h2 : (m.code.take k).map txt = ts := by rw [← HR.out, ← HN.out, List.take_length]
      rw [h2] at hown
      exact ⟨_, rfl, by rw [h1]; exact own_le hown K2.out.size, K2.out.trans kr⟩
end Im
end Go.Proofs.YtaeblnlbelebkaaGreatDoor
