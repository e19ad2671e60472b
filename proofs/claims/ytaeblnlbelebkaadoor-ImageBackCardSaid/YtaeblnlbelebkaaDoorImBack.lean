/-
  WALKS: the statement ImageBack. Own work.
-/
import Derived.Test.YtaeblnlbelebkaaDoorImLives
import Derived.Test.YtaeblnlbelebkaaDoorImLight
import Derived.Test.YtaeblnlbelebkaaDoorImOwn
namespace Go.Proofs.YtaeblnlbelebkaaDoor
namespace Im
open Go.RowKit Go
open Co (Kp ret_int ret_bool ret2_int In in0 IIn Ics Wf bytesOf)
open Ln (VIn Vcs)
set_option linter.unusedVariables false

theorem BIn.more {w w' : World} {R R' : Nat} {ao : Option Addr} {l : List UInt8} (h : BIn w R ao l) (k : Kp w w') (hR : R ≤ R') : BIn w' R' ao l := by
  rcases h with h | ⟨b, off, e, n, g⟩
  · exact .inl h
  · exact .inr ⟨b, off, e, Nat.lt_of_lt_of_le n hR, Nat.lt_of_lt_of_le g.size k.size, fun i hi => (k.cells _ _ g.size).trans (g.at' i hi)⟩
/-- The call under way: the image's box, the bytes, the variables. -/
structure Bk (w wi : World) (p : Nat) (h : Hd) (m : Im) (ao : Option Addr) (bs : List UInt8) : Prop where
  ptr : Ptr wi p h m
  b : BIn wi wi.heap.size ao bs
  env : Co.Env wi
  k : Kp w wi
theorem Bk.kp {w wi wj : World} {p : Nat} {h : Hd} {m : Im} {ao : Option Addr} {bs : List UInt8} (s : Bk w wi p h m ao bs) (k : Kp wi wj) : Bk w wj p h m ao bs :=
  ⟨s.ptr.kp k, s.b.more k k.size, s.env.kept k, s.k.trans k⟩
/-- Bytes that came in, as a string. -/
theorem conv_empty (w : World) (b off : Nat) (spot : Option Nat) (cap : Nat) : (convert 45 9 (.slice (some ⟨b, off, spot⟩) ([] : List UInt8).length cap)).run Tryd.prog w = .ok (.string (strOfNums (([] : List UInt8).map fun b => (b.toNat : Int)))) w := by
  rw [run_convert_bytes_string w 45 9 5 _ _ _ Tryd.underlying45 Tryd.underlying5 Tryd.underlying9]
  simp [Conv.bytesToString, loadCells]
  rfl
theorem conv_in {w w' : World} {ao : Option Addr} {cap : Nat} {l : List UInt8} (h : BIn w w.heap.size ao l) (hz : ao = none → cap = 0) (k : Kp w w') : (convert 45 9 (.slice ao l.length cap)).run Tryd.prog w' = .ok (.string (bytesOf l)) w' := by
  cases ao with
  | none =>
    have h0 : l.length = 0 := by
      rcases h with h | ⟨b, off, e, _⟩
      · exact h
      · cases e
    have := List.eq_nil_of_length_eq_zero h0
    subst this
    exact run_convert_bytes_nil w' 45 5 Tryd.underlying45 Tryd.underlying5 _ _ _ Tryd.underlying9
  | some a =>
    rw [← str_nums]
    by_cases h0 : l.length = 0
    · obtain rfl := List.eq_nil_of_length_eq_zero h0
      obtain ⟨b, off, spot⟩ := a
      exact conv_empty w' b off spot cap
    · rcases h with h | ⟨b, off, e, _, g⟩
      · exact absurd h h0
      · obtain rfl := Option.some.inj e
        refine run_convert_bytes_arg w' 45 5 Tryd.underlying45 Tryd.underlying5 b off l.length cap _ (by simp) (fun i hi => ?_) _ Tryd.underlying9
        rw [k.cells _ _ g.size, g.at' i hi]
        congr 2
        rw [List.getD_eq_getElem?_getD, List.getD_eq_getElem?_getD, List.getElem?_map, List.getElem?_eq_getElem hi]
        rfl
theorem flat_le {α : Type} (enc : α → List UInt8) (c : Nat) : ∀ (l : List α), (∀ x ∈ l, (enc x).length ≤ c) → (l.flatMap enc).length ≤ c * l.length
  | [], _ => by simp
  | x :: l, h => by
    have a := h x (by simp)
    have b := flat_le enc c l (fun y hy => h y (by simp [hy]))
    rw [List.flatMap_cons, List.length_append, List.length_cons, Nat.mul_succ]
    omega
theorem vints_five (l : List Int) (h : ∀ x ∈ l, Word x) : (vints l).length ≤ 5 * l.length := by
  rw [vints_all]
  exact flat_le wdEnc 5 l (fun x hx => vint_len5 (by have := h x hx; unfold Word at this; omega))
theorem li_le {α : Type} (enc : α → List UInt8) (c : Nat) (l : List α) (hl : l.length ≤ 16384) (h : ∀ x ∈ l, (enc x).length ≤ c) : (liEnc enc l).length ≤ 10 + c * l.length := by
  unfold liEnc
  rw [List.length_append]
  have a := vint_len10 (n := l.length) (by omega)
  have b := flat_le enc c l h
  omega
theorem byts_len {m : Im} (h : OkI m) : (byts m).length ≤ 2000000 := by
  obtain ⟨⟨w1, w2, w3, w4, w5, w6⟩, nF, nV, nI, nP, nA, nC, wi⟩ := h
  rw [byts_enc]
  unfold encI
  simp only [List.length_append]
  have a1 := li_le fnEnc 15 m.funcs (by omega) (fun f hf => vints_five (fnN f) (by have := w1 f hf; unfold okFn at this; unfold fnN; simpa using this))
  have a2 := li_le vcEnc 15 m.vecs (by omega) (fun f hf => vints_five (vcN f) (by have := w2 f hf; unfold okVc at this; unfold vcN; simpa using this))
  have a3 := vint_len5 (n := m.main.toNat) (by unfold Word at w3; omega)
  have a4 := li_le wdEnc 5 m.init (by omega) (fun x hx => vint_len5 (by have := wi x hx; unfold Word at this; omega))
  have a5 := li_le ptEnc 5 m.ports (by omega) (fun x hx => vint_len5 (by have : ∀ a b : Bool, (acc ⟨a, b⟩).toNat ≤ 4294967295 := by decide
                                                                         exact this x.r x.w))
  have a6 := vint_len5 (n := m.stack.toNat) (by unfold Word at w4; omega)
  have a7 := li_le (liEnc wdEnc) 20490 m.atoms (by omega) (fun l hl => by
    have q := w5 l hl
    have := li_le wdEnc 5 l (by omega) (fun x hx => vint_len5 (by have := q.2 x hx; unfold Word at this; omega))
    omega)
  have a8 := li_le inEnc 20 m.code nC (fun f hf => vints_five (inN f) (by have := w6 f hf; unfold okIn at this; unfold inN; simpa using this))
  omega
theorem bin_take {w : World} {R n : Nat} {ao : Option Addr} {l : List UInt8} (h : BIn w R ao l) : BIn w R ao (l.take n) := by
  rcases h with h | ⟨b, off, e, nn, g⟩
  · exact .inl (by rw [List.length_take]; omega)
  · refine .inr ⟨b, off, e, nn, g.size, fun i hi => ?_⟩
    rw [List.length_take] at hi
    rw [g.at' i (by omega)]
    congr 2
    rw [List.getD_eq_getElem?_getD, List.getD_eq_getElem?_getD, List.getElem?_take_of_lt (by omega)]
theorem kp_put {w w' : World} (k : Kp w w') {B : Nat} (hB : w.heap.size ≤ B) (o : Nat) (v : Value) : Kp w (w'.setCell ⟨B, o, none⟩ v) := k.setCell hB v
theorem im0_wf : ImWf im0 := wf_mk (by decide) (by decide) (by decide) (by decide) (by decide) (by decide) (fun l hl => by cases hl) (fun i hi => by cases hi) (fun i => by simp)
theorem rdM_wf (bs : List UInt8) : ImWf (rdM bs) := by
  by_cases h : imR (some bs) = some [] ∧ chkI (imV (some bs)) = 0
  · rw [(rd_yes h.1 h.2).1]; exact imV_wf _
  · rw [(rd_no h).1]; exact im0_wf
theorem rdE_two (bs : List UInt8) : rdE bs = 0 ∨ rdE bs = 4 := by unfold rdE; split <;> simp
theorem rd_zero {bs : List UInt8} (h : rdE bs = 0) : chkI (rdM bs) = 0 ∧ byA (rdM bs) = bs := by
  have hq : ∃ m, readI bs = some m := by
    unfold rdE at h
    split at h
    · rename_i g; exact Option.isSome_iff_exists.1 g
    · simp at h
  obtain ⟨m, hm⟩ := hq
  have e : rdM bs = m := by unfold rdM; rw [hm]; rfl
  obtain ⟨h1, h2⟩ := read_sound hm
  rw [e]
  exact ⟨h1, by unfold byA; rw [if_pos h1]; exact h2⟩
theorem rd_some {bs : List UInt8} {m : Im} (h : readI bs = some m) : rdM bs = m ∧ rdE bs = 0 := by unfold rdM rdE; rw [h]; exact ⟨rfl, rfl⟩
theorem rd_none {bs : List UInt8} (h : readI bs = none) : rdM bs = im0 ∧ rdE bs = 4 := by unfold rdM rdE; rw [h]; exact ⟨rfl, rfl⟩
/-- An image's cells. -/
def fv (h : Hd) (m : Im) : Nat → Value := fun j => if j = 0 then .slice h.aC m.code.length h.cC else if j = 1 then .slice h.aF m.funcs.length h.cF else if j = 2 then .slice h.aV m.vecs.length h.cV else if j = 3 then .int .i64 m.main else if j = 4 then .slice h.aI m.init.length h.cI else if j = 5 then .slice h.aP m.ports.length h.cP else if j = 6 then .int .i64 m.stack else .slice h.aA m.atoms.length h.cA
theorem fv_at (h : Hd) (m : Im) : ∀ i, i < 8 → (#[.slice h.aC m.code.length h.cC, .slice h.aF m.funcs.length h.cF, .slice h.aV m.vecs.length h.cV, .int .i64 m.main, .slice h.aI m.init.length h.cI, .slice h.aP m.ports.length h.cP, .int .i64 m.stack, .slice h.aA m.atoms.length h.cA] : Array Value)[i]? = some (fv h m i) := fun i hi => by
  match i, hi with
  | 0, _ => rfl
  | 1, _ => rfl
  | 2, _ => rfl
  | 3, _ => rfl
  | 4, _ => rfl
  | 5, _ => rfl
  | 6, _ => rfl
  | 7, _ => rfl
set_option maxHeartbeats 8000000 in
set_option maxRecDepth 100000 in
theorem back_walk {w : World} (hE : Co.Env w) {h : Hd} {m : Im} (hin : ImIn w h m) (hW : ImWf m) {ao : Option Addr} {cap : Nat} {bs : List UInt8} (hb : BIn w w.heap.size ao bs) (hz : ao = none → cap = 0) :
    Calls Tryd.prog 4 #[h.val m, .slice ao bs.length cap] w fun e w' => e = .returned (.bool true) ∧ Kp w w' := by
  have K1 := (Kp.refl w).alloc #[.slice h.aC m.code.length h.cC, .slice h.aF m.funcs.length h.cF, .slice h.aV m.vecs.length h.cV, .int .i64 m.main, .slice h.aI m.init.length h.cI, .slice h.aP m.ports.length h.cP, .int .i64 m.stack, .slice h.aA m.atoms.length h.cA] 29
  have B1 := Lib.hid (Bk.mk (Ptr.new hin) (hb.more K1 K1.size) (hE.kept K1) K1)
  have HW := Lib.hid hW
  have HZ := Lib.hid hz
  clear hE hin hW hb hz K1
  unfold Hd.val
  go_enter Tryd.func4, Tryd.ntmps4
  go_upto_region 1 with (fail)
  revert B1
  generalize w.alloc _ = w1
  generalize w.heap.size = p
  intro B1
  go_wp2_with fail
  refine (lives_any B1.out.env).mono ?_
  rintro e w2 ⟨rfl, k2⟩
  have B2 := Lib.hid (B1.out.kp k2)
  clear B1 k2
  have c0 := B2.out.ptr.c0
  have c1 := B2.out.ptr.c1
  have c2 := B2.out.ptr.c2
  have c3 := B2.out.ptr.c3
  have c4 := B2.out.ptr.c4
  have c5 := B2.out.ptr.c5
  have c6 := B2.out.ptr.c6
  have c7 := B2.out.ptr.c7
  have cz := B2.out.ptr.size
  go_wp2_with fail
  refine (Light_any (h := h) (m := m) B2.out.ptr.in' HW.out).mono ?_
  rintro e w3 ⟨b, rfl, _, k3⟩
  have B3 := Lib.hid (B2.out.kp k3)
  clear c0 c1 c2 c3 c4 c5 c6 c7 cz
  clear B2 k3
  cases b with
  | false =>
    go_wp2
    go_ret
    exact ⟨rfl, B3.out.k⟩
  | true =>
  by_cases hlong : (3000 : Int) < bs.length
  case pos =>
    have hd : decide ((3000 : Int) < bs.length) = true := by simpa using hlong
    go_wp2
    go_ret
    exact ⟨rfl, B3.out.k⟩
  case neg =>
  have hd : decide ((3000 : Int) < bs.length) = false := by simpa using hlong
  have HOW := Lib.hid (Own_any B3.out.b HZ.out (by omega))
  go_upto_region 5 with (fail)
  clear hd
  go_wp2_with fail
  refine HOW.out.mono ?_
  rintro e w4 ⟨v4, rfl, o4, k4⟩
  have B4 := Lib.hid (B3.out.kp k4)
  obtain ⟨a4, c4, rfl, b4, l4, m4, -⟩ := ow_in o4
  have HR5 := Lib.hid (Read_any B4.out.env bs b4 l4 m4 (rdM bs) rfl (rdE bs) rfl)
  have HYES := Lib.hid (rd_zero (bs := bs))
  have HQ := rdE_two bs
  have HWM := Lib.hid (rdM_wf bs)
  clear HOW B3 k4 o4 b4 l4 m4
  generalize rdM bs = M at *
  generalize rdE bs = q at *
  go_wp2_with fail
  refine HR5.out.mono ?_
  rintro e w5 ⟨hd5, rfl, i5, k5⟩
  have B5 := Lib.hid (B4.out.kp k5)
  clear HR5 B4 k5
  unfold Hd.val
  go_upto_region 6 with (fail)
  have K6 := (Kp.refl w5).alloc #[.slice hd5.aC M.code.length hd5.cC, .slice hd5.aF M.funcs.length hd5.cF, .slice hd5.aV M.vecs.length hd5.cV, .int .i64 M.main, .slice hd5.aI M.init.length hd5.cI, .slice hd5.aP M.ports.length hd5.cP, .int .i64 M.stack, .slice hd5.aA M.atoms.length hd5.cA] 29
  have M6 := Mine.new w5 #[.slice hd5.aC M.code.length hd5.cC, .slice hd5.aF M.funcs.length hd5.cF, .slice hd5.aV M.vecs.length hd5.cV, .int .i64 M.main, .slice hd5.aI M.init.length hd5.cI, .slice hd5.aP M.ports.length hd5.cP, .int .i64 M.stack, .slice hd5.aA M.atoms.length hd5.cA] 29 8 _ (fv_at hd5 M)
  have I6 := Lib.hid (i5 _ (Up.of_kp K6))
  have B6 := Lib.hid (B5.out.kp K6)
  have KK6 := Lib.hid K6
  clear i5 K6
  revert M6 I6 B6 KK6
  generalize w5.alloc _ = w6
  generalize hpo : w5.heap.size = po
  intro M6 I6 B6 KK6
  have HPO := Lib.hid hpo
  have HM6 := Lib.hid M6
  clear hpo M6
  rcases HQ with rfl | rfl
  case' inl =>
    obtain ⟨hck, hby⟩ := HYES.out rfl
    have HBY := Lib.hid (Bytes_any B6.out.env I6.out HWM.out bs hby 0 hck)
    clear hck hby
    have e0 : _ = some (Value.slice hd5.aC M.code.length hd5.cC) := HM6.out.at' 0 (by omega)
    have e1 : _ = some (Value.slice hd5.aF M.funcs.length hd5.cF) := HM6.out.at' 1 (by omega)
    have e2 : _ = some (Value.slice hd5.aV M.vecs.length hd5.cV) := HM6.out.at' 2 (by omega)
    have e3 : _ = some (Value.int .i64 M.main) := HM6.out.at' 3 (by omega)
    have e4 : _ = some (Value.slice hd5.aI M.init.length hd5.cI) := HM6.out.at' 4 (by omega)
    have e5 : _ = some (Value.slice hd5.aP M.ports.length hd5.cP) := HM6.out.at' 5 (by omega)
    have e6 : _ = some (Value.int .i64 M.stack) := HM6.out.at' 6 (by omega)
    have e7 : _ = some (Value.slice hd5.aA M.atoms.length hd5.cA) := HM6.out.at' 7 (by omega)
    have ez := HM6.out.size
    go_wp2_with fail
    refine HBY.out.mono ?_
    rintro e w7 ⟨v7, rfl, ⟨Bq, -, o7⟩, k7⟩
    have B9 := Lib.hid (B6.out.kp k7)
    have HM9 := Lib.hid (HM6.out.kp k7)
    have KK9 := Lib.hid (KK6.out.trans k7)
    have cv7 := conv_row o7 (Kp.refl _)
    have cvb := conv_in B9.out.b HZ.out (Kp.refl _)
    have bt : ((bytesOf bs).toList == (bytesOf bs).toList) = true := by simp
    clear e0 e1 e2 e3 e4 e5 e6 e7 ez HBY o7 k7
    go_upto_region 10 with (fail)
    clear cv7 cvb bt
  case' inr =>
    have B9 := Lib.hid B6.out
    have HM9 := Lib.hid HM6.out
    have KK9 := Lib.hid KK6.out
    go_upto_region 10 with (fail)
  all_goals
    clear B6 HM6 KK6 I6 HYES
    have c0 := B9.out.ptr.c0
    have c1 := B9.out.ptr.c1
    have c2 := B9.out.ptr.c2
    have c3 := B9.out.ptr.c3
    have c4 := B9.out.ptr.c4
    have c5 := B9.out.ptr.c5
    have c6 := B9.out.ptr.c6
    have c7 := B9.out.ptr.c7
    have cz := B9.out.ptr.size
    by_cases h0 : chkI m = 0
    case neg =>
      obtain ⟨c, hc⟩ : ∃ c, chkI m = c := ⟨_, rfl⟩
      have hne : (c != 0) = true := by rw [← hc]; simpa using h0
      have HC := Lib.hid hc
      have HBY := Lib.hid (Bytes_any B9.out.env B9.out.ptr.in' HW.out (byA m) rfl c hc)
      clear hc h0
      go_wp2_with fail
      refine HBY.out.mono ?_
      rintro e w11 ⟨v11, rfl, -, k11⟩
      have B11 := Lib.hid (B9.out.kp k11)
      clear c0 c1 c2 c3 c4 c5 c6 c7 cz
      have c0 := B11.out.ptr.c0
      have c1 := B11.out.ptr.c1
      have c2 := B11.out.ptr.c2
      have c3 := B11.out.ptr.c3
      have c4 := B11.out.ptr.c4
      have c5 := B11.out.ptr.c5
      have c6 := B11.out.ptr.c6
      have c7 := B11.out.ptr.c7
      have cz := B11.out.ptr.size
      clear HBY k11
      go_wp2_with fail
      refine (Check_any B11.out.env B11.out.ptr.in' HW.out).mono ?_
      rw [HC.out]
      rintro e w12 ⟨rfl, k12⟩
      go_wp2
      go_ret
      exact ⟨ret_bool (by simp), B11.out.k.trans k12⟩
    case pos =>
      have hx : byA m = byts m := by unfold byA; rw [if_pos h0]
      have HBY := Lib.hid (Bytes_any B9.out.env B9.out.ptr.in' HW.out (byts m) hx 0 h0)
      have HI := HW.out.init
      have XP := byts_pos m
      have XN := byts_len (OkI.of h0 HI)
      have XR := Lib.hid (rd_some (read_byts h0 HI))
      have XM := Lib.hid (rd_none (read_more h0 HI (r := [0]) (by simp)))
      have XL := Lib.hid (rd_none (read_less h0 HI (p := (byts m).take ((byts m).length - 1)) (r := (byts m).drop ((byts m).length - 1)) (by intro e; have := congrArg List.length e; simp at this; omega) (List.take_append_drop _ _).symm))
      clear hx h0 HI
      generalize byts m = X at *
      go_wp2_with fail
      refine HBY.out.mono ?_
      rintro e w11 ⟨v11, rfl, ⟨Bx, hBx, o11⟩, k11⟩
      have B11 := Lib.hid (B9.out.kp k11)
      have HM11 := Lib.hid (HM9.out.kp k11)
      have KK11 := Lib.hid (KK9.out.trans k11)
      clear c0 c1 c2 c3 c4 c5 c6 c7 cz
      have hpx : po < Bx := Nat.lt_of_lt_of_le HM9.out.size hBx
      clear HBY k11 HM9 KK9 B9 hBx
      obtain ⟨a11, c11, rfl, b11, l11, m11, z11⟩ := ow_in o11
      obtain ⟨gx, cx, ex, -, -⟩ := World.ownsRow.form o11 (by omega)
      obtain ⟨rfl, rfl⟩ : a11 = some ⟨gx, 0, none⟩ ∧ c11 = cx := by simp only [Value.slice.injEq] at ex; exact ⟨ex.1, ex.2.2⟩
      clear ex
      have O11 := Lib.hid o11
      clear o11
      obtain ⟨n, hn⟩ : ∃ n, X.length = n + 1 := ⟨X.length - 1, by omega⟩
      have HOW := Lib.hid (Own_any b11 z11 (by omega))
      have HB11 := Lib.hid b11
      have HZ11 := Lib.hid z11
      have HN := Lib.hid hn
      rw [hn] at l11
      clear b11 z11 XP
      have XN2 : (n : Int) ≤ 2000000 := by omega
      rw [hn] at HOW
      rw [hn]
      clear XN hn
      go_wp2_with fail
      refine HOW.out.mono ?_
      rintro e w12 ⟨v12, rfl, o12, k12⟩
      obtain ⟨a12, c12, rfl, b12, l12, m12, -⟩ := ow_in o12
      have HR13 := Lib.hid (Read_any (B11.out.env.kept k12) X b12 l12 m12 m XR.out.1 0 XR.out.2)
      have hp12 : po < w12.heap.size := Nat.lt_of_lt_of_le HM11.out.size k12.size
      rw [HN.out] at HR13
      rw [HN.out]
      clear o12 b12 l12 m12 HOW
      go_wp2_with fail
      refine HR13.out.mono ?_
      rintro e w13 ⟨hd13, rfl, i13, k13⟩
      have HM13 := Lib.hid (HM11.out.kp (k12.trans k13))
      have KK13 := Lib.hid (KK11.out.trans (k12.trans k13))
      have hpk : w5.heap.size ≤ po := Nat.le_of_eq HPO.out
      have O13 := Lib.hid (own_up O11.out (Up.of_kp (lo := 0) (k12.trans k13)) (Nat.zero_le _))
      have d0 := HM13.out.at' 0 (by omega)
      have f0 := HM13.out.fro 0
      have d1 := HM13.out.at' 1 (by omega)
      have f1 := HM13.out.fro 1
      have d2 := HM13.out.at' 2 (by omega)
      have f2 := HM13.out.fro 2
      have d3 := HM13.out.at' 3 (by omega)
      have f3 := HM13.out.fro 3
      have d4 := HM13.out.at' 4 (by omega)
      have f4 := HM13.out.fro 4
      have d5 := HM13.out.at' 5 (by omega)
      have f5 := HM13.out.fro 5
      have d6 := HM13.out.at' 6 (by omega)
      have f6 := HM13.out.fro 6
      have d7 := HM13.out.at' 7 (by omega)
      have f7 := HM13.out.fro 7
      have dz := HM13.out.size
      have O14 := Lib.hid (own_set (M := po) (k := 7) (own_set (M := po) (k := 6) (own_set (M := po) (k := 5) (own_set (M := po) (k := 4) (own_set (M := po) (k := 3) (own_set (M := po) (k := 2) (own_set (M := po) (k := 1) (own_set (M := po) (k := 0) O13.out hpx (.slice hd13.aC m.code.length hd13.cC)) hpx (.slice hd13.aF m.funcs.length hd13.cF)) hpx (.slice hd13.aV m.vecs.length hd13.cV)) hpx (.int .i64 m.main)) hpx (.slice hd13.aI m.init.length hd13.cI)) hpx (.slice hd13.aP m.ports.length hd13.cP)) hpx (.int .i64 m.stack)) hpx (.slice hd13.aA m.atoms.length hd13.cA))
      have I14 := Lib.hid (i13 _ (Up.set (Up.set (Up.set (Up.set (Up.set (Up.set (Up.set (Up.set (Up.refl w12.heap.size w13) hp12 0 (.slice hd13.aC m.code.length hd13.cC)) hp12 1 (.slice hd13.aF m.funcs.length hd13.cF)) hp12 2 (.slice hd13.aV m.vecs.length hd13.cV)) hp12 3 (.int .i64 m.main)) hp12 4 (.slice hd13.aI m.init.length hd13.cI)) hp12 5 (.slice hd13.aP m.ports.length hd13.cP)) hp12 6 (.int .i64 m.stack)) hp12 7 (.slice hd13.aA m.atoms.length hd13.cA)))
      have M14 := Lib.hid (Mine.put (Mine.put (Mine.put (Mine.put (Mine.put (Mine.put (Mine.put (Mine.put HM13.out 0 (by omega) (.slice hd13.aC m.code.length hd13.cC)) 1 (by omega) (.slice hd13.aF m.funcs.length hd13.cF)) 2 (by omega) (.slice hd13.aV m.vecs.length hd13.cV)) 3 (by omega) (.int .i64 m.main)) 4 (by omega) (.slice hd13.aI m.init.length hd13.cI)) 5 (by omega) (.slice hd13.aP m.ports.length hd13.cP)) 6 (by omega) (.int .i64 m.stack)) 7 (by omega) (.slice hd13.aA m.atoms.length hd13.cA))
      have KK14 := Lib.hid (kp_put (kp_put (kp_put (kp_put (kp_put (kp_put (kp_put (kp_put KK13.out hpk 0 (.slice hd13.aC m.code.length hd13.cC)) hpk 1 (.slice hd13.aF m.funcs.length hd13.cF)) hpk 2 (.slice hd13.aV m.vecs.length hd13.cV)) hpk 3 (.int .i64 m.main)) hpk 4 (.slice hd13.aI m.init.length hd13.cI)) hpk 5 (.slice hd13.aP m.ports.length hd13.cP)) hpk 6 (.int .i64 m.stack)) hpk 7 (.slice hd13.aA m.atoms.length hd13.cA))
      clear i13 k12 k13 KK13 HM13 O13 O11 HM11 KK11 hpk hp12 HR13
      unfold Hd.val
      go_upto_region 14 with (fail)
      clear d0 f0 d1 f1 d2 f2 d3 f3 d4 f4 d5 f5 d6 f6 d7 f7 dz
      revert O14 I14 M14 KK14
      generalize ((((((((w13.setCell _ _).setCell _ _).setCell _ _).setCell _ _).setCell _ _).setCell _ _).setCell _ _).setCell _ _) = w14
      intro O14 I14 M14 KK14
      have B14 := Lib.hid (B5.out.kp KK14.out)
      obtain ⟨ax, cx2, ex, b14, l14, m14, -⟩ := ow_in O14.out
      obtain ⟨rfl, rfl⟩ : some ⟨gx, 0, none⟩ = ax ∧ c11 = cx2 := by simp only [Value.slice.injEq] at ex; exact ⟨ex.1, ex.2.2⟩
      clear ex
      have hl : (X.take n).length = n := by rw [List.length_take, HN.out]; omega
      have hXL : rdM (X.take n) = im0 ∧ rdE (X.take n) = 4 := by have := XL.out; rw [HN.out] at this; exact this
      have HRT := Read_any B14.out.env (X.take n) (bin_take (n := n) b14) (by rw [hl]; rw [HN.out] at l14; omega) m14 im0 hXL.1 4 hXL.2
      rw [hl] at HRT
      have HT := Lib.hid HRT
      have HX14 := Lib.hid b14
      have XM1 := XM.out.1
      generalize im0 = Z at *
      have XM2 := Lib.hid XM1
      clear HRT hl hXL b14 m14 l14 XL XM1
      go_wp2_with fail
      refine HT.out.mono ?_
      rintro e w15 ⟨hd15, rfl, -, k15⟩
      unfold Hd.val
      go_upto_region 15 with (fail)
      have KT := Lib.hid ((k15).alloc #[.slice hd15.aC Z.code.length hd15.cC, .slice hd15.aF Z.funcs.length hd15.cF, .slice hd15.aV Z.vecs.length hd15.cV, .int .i64 Z.main, .slice hd15.aI Z.init.length hd15.cI, .slice hd15.aP Z.ports.length hd15.cP, .int .i64 Z.stack, .slice hd15.aA Z.atoms.length hd15.cA] 29)
      clear k15 HT
      revert KT
      generalize w15.alloc _ = w16
      intro KT
      have B16 := Lib.hid (B14.out.kp KT.out)
      have HX16 := Lib.hid (HX14.out.more KT.out KT.out.size)
      have HOW2 := Lib.hid (Own_any (l := X) (cap := c11) HX16.out (fun e => by cases e) (by rw [HN.out]; omega))
      rw [HN.out] at HOW2
      go_wp2_with fail
      refine HOW2.out.mono ?_
      rintro e w17 ⟨v17, rfl, o17, k17⟩
      obtain ⟨i0, hi, hz0, hz1, hz2⟩ := info_parts info_B
      have O17 : w17.ownsRow w16.heap.size 5 1 v17 (n + 1) (byc X) := by have := o17; unfold Ow at this; rw [HN.out] at this; exact this
      have ONE : Hid (∀ u ∈ ([.int .u8 0] : List Value), u.oneCell' = true) := Lib.hid (by intro u hu; simp at hu; subst hu; rfl)
      have NEW : Hid (∀ (j : Nat) (u : Value), ([.int .u8 0] : List Value)[j]? = some u → (w17.alloc (.cells #[.int .u8 0] 5)).cell? ((⟨w17.heap.size, 0, none⟩ : Addr).add j) = some u) := Lib.hid (World.news_of_block (cs := #[.int .u8 0]) (t := 5) (fr := (0, 0)) (heap_alloc_new w17 _))
      have HY : Hid (byc (X ++ [0]) = byc X ++ [.int .u8 0] ∧ (X ++ [0]).length = n + 2) := Lib.hid ⟨by unfold byc; rw [List.map_append]; rfl, by rw [List.length_append, HN.out]; rfl⟩
      have XM3 := Lib.hid XM.out.2
      clear XM HOW2 o17
      obtain ⟨Y, hY⟩ : ∃ Y, X ++ [0] = Y := ⟨_, rfl⟩
      rw [hY] at HY XM2 XM3
      clear hY
      have hk17 := k17.size
      go_wp2_with (at_builtin; refine wpList_append_own _ rfl _ _ 45 rfl w16.heap.size 5 i0 (.int .u8 0) 1 1 Tryd.underlying45 hi hz0 hz1 hz2 rfl (by decide) _ _ _ rfl (O17.alloc _) ⟨w17.heap.size, 0, none⟩ 1 1 [.int .u8 0] rfl rfl NEW.out ONE.out (by unfold maxLen; omega) (by omega) (by simp; omega) ?_)
      intro v18 w18 hown' hgrow _
      have o18 : Ow w18 w16.heap.size v18 Y := by unfold Ow; rw [HY.out.1, HY.out.2]; exact hown'
      have K18 := kp_grown (k17.alloc #[.int .u8 0] 5) hgrow (fun q hq => (O17.lt q hq).1)
      obtain ⟨a18, c18, rfl, b18, l18, m18, -⟩ := ow_in o18
      have HRX := Lib.hid (Read_any (B16.out.kp K18).env Y b18 l18 m18 Z XM2.out 4 XM3.out)
      have HK18 := Lib.hid K18
      clear o18 hown' hgrow b18 l18 m18 O17 NEW ONE K18 k17 hk17
      generalize Y.length = ny at *
      go_wp2_with fail
      refine HRX.out.mono ?_
      rintro e w19 ⟨hd19, rfl, -, k19⟩
      unfold Hd.val
      go_upto_region 16 with (fail)
      have KT2 := Lib.hid (KT.out.trans (HK18.out.trans ((k19).alloc #[.slice hd19.aC Z.code.length hd19.cC, .slice hd19.aF Z.funcs.length hd19.cF, .slice hd19.aV Z.vecs.length hd19.cV, .int .i64 Z.main, .slice hd19.aI Z.init.length hd19.cI, .slice hd19.aP Z.ports.length hd19.cP, .int .i64 Z.stack, .slice hd19.aA Z.atoms.length hd19.cA] 29)))
      clear k19 HRX
      revert KT2
      generalize w19.alloc _ = w20
      intro KT2
      have B20 := Lib.hid (B14.out.kp KT2.out)
      have M20 := Lib.hid (M14.out.kp KT2.out)
      have I20 := Lib.hid (I14.out.kp KT2.out)
      have d0 : _ = some (Value.slice hd13.aC m.code.length hd13.cC) := M20.out.at' 0 (by omega)
      have d1 : _ = some (Value.slice hd13.aF m.funcs.length hd13.cF) := M20.out.at' 1 (by omega)
      have d2 : _ = some (Value.slice hd13.aV m.vecs.length hd13.cV) := M20.out.at' 2 (by omega)
      have d3 : _ = some (Value.int .i64 m.main) := M20.out.at' 3 (by omega)
      have d4 : _ = some (Value.slice hd13.aI m.init.length hd13.cI) := M20.out.at' 4 (by omega)
      have d5 : _ = some (Value.slice hd13.aP m.ports.length hd13.cP) := M20.out.at' 5 (by omega)
      have d6 : _ = some (Value.int .i64 m.stack) := M20.out.at' 6 (by omega)
      have d7 : _ = some (Value.slice hd13.aA m.atoms.length hd13.cA) := M20.out.at' 7 (by omega)
      have dz := M20.out.size
      have c0 := B20.out.ptr.c0
      have c1 := B20.out.ptr.c1
      have c2 := B20.out.ptr.c2
      have c3 := B20.out.ptr.c3
      have c4 := B20.out.ptr.c4
      have c5 := B20.out.ptr.c5
      have c6 := B20.out.ptr.c6
      have c7 := B20.out.ptr.c7
      have cz := B20.out.ptr.size
      go_wp2_with fail
      refine (Image_any (h := hd13) (g := h) (m := m) (o := m) I20.out B20.out.ptr.in' HW.out true ⟨fun _ => rfl, fun _ => rfl⟩).mono ?_
      rintro e w21 ⟨rfl, k21⟩
      go_wp2
      go_ret
      exact ⟨rfl, B20.out.k.trans k21⟩
end Im
end Go.Proofs.YtaeblnlbelebkaaDoor
