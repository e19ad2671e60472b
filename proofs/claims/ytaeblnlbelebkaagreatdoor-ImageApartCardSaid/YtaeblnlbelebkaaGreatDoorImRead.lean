/-
  WALKS: package image, Read. Own work.
-/
import Derived.Test.YtaeblnlbelebkaaGreatDoorImImage
import Derived.Test.YtaeblnlbelebkaaGreatDoorImChk
namespace Go.Proofs.YtaeblnlbelebkaaGreatDoor
namespace Im
open Go.RowKit Go
open Co (Kp ret_int ret_bool ret2_int In in0 IIn Ics Wf)
open Ln (VIn Vcs)
set_option linter.unusedVariables false

theorem lsV_all {α : Type} {e : El α} {P : α → Prop} (h : ∀ s, P (e.v s)) : ∀ (k : Nat) (s : Rd), ∀ x ∈ lsV e k s, P x
  | 0, s, x, hx => by simp [lsV] at hx
  | k + 1, s, x, hx => by
    simp only [lsV, List.mem_cons] at hx
    rcases hx with rfl | hx
    · exact h s
    · exact lsV_all h k _ x hx
theorem getD_all {α : Type} {l : List α} {d : α} {P : α → Prop} (h : ∀ x ∈ l, P x) (hd : P d) (i : Nat) : P (l.getD i d) := by
  by_cases hi : i < l.length
  · exact h _ (getD_mem' hi)
  · rw [List.getD_eq_getElem?_getD, List.getElem?_eq_none (by omega)]; exact hd
theorem liV_len {α : Type} (most : Nat) (e : El α) (s : Rd) : (liV most e s).length ≤ most := by
  unfold liV
  rw [lsV_len]
  exact upV_bd most s
theorem wf_mk {C : List In} {F : List Fn} {V : List Ln.Vc} {mn : Int} {I : List Int} {P : List Pt} {st : Int} {A : List (List Int)} (hC : C.length ≤ 16384) (hF : F.length ≤ 64) (hV : V.length ≤ 32) (hI : I.length ≤ 4096) (hP : P.length ≤ 32) (hA : A.length ≤ 64)
    (hL : ∀ l ∈ A, l.length ≤ 4096) (hw : ∀ i ∈ C, Wf i) (hi : ∀ i, 0 ≤ I.getD i 0 ∧ I.getD i 0 ≤ 4294967295) : ImWf ⟨C, F, V, mn, I, P, st, A⟩ := by
  refine ⟨by simp only; omega, by simp only; omega, by simp only; omega, by simp only; omega, by simp only; omega, by simp only; omega, fun k => ?_, fun i => getD_all (P := Wf) hw (by constructor <;> decide) i, hi⟩
  have := getD_all (d := []) (P := fun (l : List Int) => l.length ≤ 4096) hL (by decide) k
  unfold Im.at'
  simp only at this ⊢
  omega
theorem at_bd (t : Rd) : (atE.v t).length ≤ 4096 := liV_len 4096 nmE t
theorem in_wf (t : Rd) : Wf (inE.v t) := by
  have a := nmV_bd t
  have b := nmV_bd (nmR t)
  have c := nmV_bd (nmR (nmR t))
  have d := nmV_bd (nmR (nmR (nmR t)))
  unfold inE
  constructor <;> (simp only; omega)
theorem imV_wf (s : Rd) : ImWf (imV s) :=
  wf_mk (liV_len _ _ _) (liV_len _ _ _) (liV_len _ _ _) (liV_len _ _ _) (liV_len _ _ _) (liV_len _ _ _) (lsV_all (P := fun (l : List Int) => l.length ≤ 4096) at_bd _ _) (lsV_all (P := Wf) in_wf _ _) (imV_init s)
/-- What Read answers. -/
def rdM (bs : List UInt8) : Im := (readI bs).getD im0
def rdE (bs : List UInt8) : Int := if (readI bs).isSome then 0 else 4
theorem rd_yes {bs : List UInt8} (h : imR (some bs) = some []) (hc : chkI (imV (some bs)) = 0) : rdM bs = imV (some bs) ∧ rdE bs = 0 := by
  unfold rdM rdE readI
  rw [if_pos ⟨h, hc⟩]
  exact ⟨rfl, rfl⟩
theorem rd_no {bs : List UInt8} (h : ¬ (imR (some bs) = some [] ∧ chkI (imV (some bs)) = 0)) : rdM bs = im0 ∧ rdE bs = 4 := by
  unfold rdM rdE readI
  rw [if_neg h]
  exact ⟨rfl, rfl⟩
def RdP (w : World) (m : Im) (q : Int) (e : Ending) (w' : World) : Prop := ∃ hd : Hd, e = .returned (.tuple #[hd.val m, .int .i64 q]) ∧ (∀ w2, Up w.heap.size w' w2 → ImIn w2 hd m) ∧ Kp w w'
def hd0 : Hd := ⟨none, 0, none, 0, none, 0, none, 0, none, 0, none, 0⟩
theorem imIn0 (w : World) : ImIn w hd0 im0 := ⟨.inl rfl, .inl rfl, .inl rfl, .inl rfl, .inl rfl, .inl rfl, Nat.le_refl _, Nat.zero_le _⟩
theorem rd_start {w : World} {ao : Option Addr} {cap : Nat} {bs : List UInt8} (hb : BIn w w.heap.size ao bs) (hc : bs.length ≤ cap) (hm : cap ≤ 9223372036854775807) {cs : Array Value} {T U : TypeId} : RdIn ((w.alloc (.cells cs T)).alloc (.cells #[.slice ao bs.length cap, .bool false] U)) (w.heap.size + 1) (some bs) := by
  have hk : Kp w ((w.alloc (.cells cs T)).alloc (.cells #[.slice ao bs.length cap, .bool false] U)) := ((Kp.refl w).alloc _ _).alloc _ _
  refine ⟨by simp, fun o => by simp, fun b e => ?_, fun e => by cases e⟩
  obtain rfl := Option.some.inj e
  refine ⟨by simp, ao, cap, by simp, ?_, hc, hm⟩
  rcases hb with hb | ⟨b, off, e, n, g⟩
  · exact .inl hb
  · exact .inr ⟨b, off, e, by omega, Nat.lt_of_lt_of_le g.size hk.size, fun i hi => (hk.cells _ _ g.size).trans (g.at' i hi)⟩
set_option maxHeartbeats 4000000 in
set_option maxRecDepth 100000 in
theorem Read_any {w : World} (hE : Co.Env w) {ao : Option Addr} {cap : Nat} (bs : List UInt8) (hb : BIn w w.heap.size ao bs) (hc : bs.length ≤ cap) (hm : cap ≤ 9223372036854775807) (m : Im) (hmm : rdM bs = m) (q : Int) (hq : rdE bs = q) :
    Calls Tryz.prog 9 #[.slice ao bs.length cap] w (RdP w m q) := by
  have hR0 : Hid (RdIn ((w.alloc (.cells #[.slice none 0 0, .slice none 0 0, .slice none 0 0, .int .i64 0, .slice none 0 0, .slice none 0 0, .int .i64 0, .slice none 0 0] 29)).alloc (.cells #[.slice ao bs.length cap, .bool false] 63)) (w.heap.size + 1) (some bs)) := Lib.hid (rd_start hb hc hm)
  have K0 : Kp w ((w.alloc (.cells #[.slice none 0 0, .slice none 0 0, .slice none 0 0, .int .i64 0, .slice none 0 0, .slice none 0 0, .int .i64 0, .slice none 0 0] 29)).alloc (.cells #[.slice ao bs.length cap, .bool false] 63)) := ((Kp.refl w).alloc _ _).alloc _ _
  have hzz : ((w.alloc (.cells #[.slice none 0 0, .slice none 0 0, .slice none 0 0, .int .i64 0, .slice none 0 0, .slice none 0 0, .int .i64 0, .slice none 0 0] 29)).alloc (.cells #[.slice ao bs.length cap, .bool false] 63)).heap.size = w.heap.size + 2 := by simp
  have M0 := (Mine.new w #[.slice none 0 0, .slice none 0 0, .slice none 0 0, .int .i64 0, .slice none 0 0, .slice none 0 0, .int .i64 0, .slice none 0 0] 29 8 _ zim_at).kp ((Kp.refl _).alloc #[.slice ao bs.length cap, .bool false] 63)
  have HMM := Lib.hid hmm
  have HQQ := Lib.hid hq
  have HE := Lib.hid hE
  clear hmm hq hb hE
  go_enter Tryz.func9, Tryz.ntmps9
  go_upto_region 2 with (fail)
  revert hR0 K0 M0 hzz
  generalize (w.alloc _).alloc _ = w0
  intro hR0 K0 hz0 M0
  have HC := Lib.hid (image_any hR0.out)
  have HWF := Lib.hid (imV_wf (some bs))
  have YES := Lib.hid (rd_yes (bs := bs))
  have NO := Lib.hid (rd_no (bs := bs))
  generalize imV (some bs) = M at *
  generalize imR (some bs) = t at *
  go_wp2_with fail
  refine HC.out.mono ?_
  rintro e w1 ⟨hd, rfl, hin, h1⟩
  have M1 := M0.gx h1.gx (by omega)
  have K1 : Hid (Kp w w1) := Lib.hid ⟨(K0.below).trans (h1.be.mono (by omega))⟩
  have HIN := Lib.hid hin
  have HI1 := Lib.hid (hin w1 (Up.refl _ _))
  have RD := Lib.hid h1.rd
  clear hR0 K0 M0 h1 hin HC
  have z1 : w.heap.size + 1 < w1.heap.size := RD.out.size
  unfold Hd.val
  go_upto_region 3 with (fail)
  have P2 := Ptr.new HI1.out
  have k2 := (Kp.refl w1).alloc #[.slice hd.aC M.code.length hd.cC, .slice hd.aF M.funcs.length hd.cF, .slice hd.aV M.vecs.length hd.cV, .int .i64 M.main, .slice hd.aI M.init.length hd.cI, .slice hd.aP M.ports.length hd.cP, .int .i64 M.stack, .slice hd.aA M.atoms.length hd.cA] 29
  have RD2 := Lib.hid (RD.out.kp k2)
  have M2 := M1.kp k2
  have K2 := Lib.hid (K1.out.trans k2)
  have HI2 : Hid (∀ w', Up w0.heap.size _ w' → ImIn w' hd M) := Lib.hid (fun w' u => HIN.out w' (Up.trans (Up.of_kp k2) u))
  clear k2 RD M1 K1 HIN HI1
  revert P2 RD2 M2 K2 HI2
  generalize w1.alloc _ = w2
  generalize w1.heap.size = p at *
  intro P2 RD2 M2 K2 HI2
  have e0 := P2.c0
  have e1 := P2.c1
  have e2 := P2.c2
  have e3 := P2.c3
  have e4 := P2.c4
  have e5 := P2.c5
  have e6 := P2.c6
  have e7 := P2.c7
  have zp := P2.size
  have HP2 := Lib.hid P2
  have HM2 := Lib.hid M2
  clear P2 M2
  cases t with
  | none =>
    have b1 := (RD2.out.none' rfl).1
    have b0 := (RD2.out.none' rfl).2
    have NO' := Lib.hid (NO.out (by rintro ⟨e, _⟩; cases e))
    go_upto_region 4 with (fail)
    have d0 := HM2.out.at' 0 (by omega)
    have f0 := HM2.out.fro 0
    have d1 := HM2.out.at' 1 (by omega)
    have f1 := HM2.out.fro 1
    have d2 := HM2.out.at' 2 (by omega)
    have f2 := HM2.out.fro 2
    have d3 := HM2.out.at' 3 (by omega)
    have f3 := HM2.out.fro 3
    have d4 := HM2.out.at' 4 (by omega)
    have f4 := HM2.out.fro 4
    have d5 := HM2.out.at' 5 (by omega)
    have f5 := HM2.out.fro 5
    have d6 := HM2.out.at' 6 (by omega)
    have f6 := HM2.out.fro 6
    have d7 := HM2.out.at' 7 (by omega)
    have f7 := HM2.out.fro 7
    have zw := HM2.out.size
    simp [zim] at d0 d1 d2 d3 d4 d5 d6 d7
    go_wp2
    refine bodyPost_ret (v := .tuple #[hd0.val im0, .int .i64 4]) ?_ rfl ⟨hd0, by rw [← HMM.out, ← HQQ.out, NO'.out.1, NO'.out.2], ?_, ?_⟩
    · simp [results, Tryz.results9, go_sem, *]
      rfl
    · rw [← HMM.out, NO'.out.1]; exact fun _ _ => imIn0 _
    · repeat (refine Kp.setCell ?_ (Nat.le_refl _) _)
      exact K2.out
  | some r =>
    obtain ⟨b1, ar, cr, b0, -⟩ := RD2.out.some' r rfl
    by_cases hz : r.length = 0
    case neg =>
      have NO' := Lib.hid (NO.out (by rintro ⟨e, _⟩; obtain rfl := Option.some.inj e; exact hz rfl))
      go_upto_region 4 with (fail)
      have d0 := HM2.out.at' 0 (by omega)
      have f0 := HM2.out.fro 0
      have d1 := HM2.out.at' 1 (by omega)
      have f1 := HM2.out.fro 1
      have d2 := HM2.out.at' 2 (by omega)
      have f2 := HM2.out.fro 2
      have d3 := HM2.out.at' 3 (by omega)
      have f3 := HM2.out.fro 3
      have d4 := HM2.out.at' 4 (by omega)
      have f4 := HM2.out.fro 4
      have d5 := HM2.out.at' 5 (by omega)
      have f5 := HM2.out.fro 5
      have d6 := HM2.out.at' 6 (by omega)
      have f6 := HM2.out.fro 6
      have d7 := HM2.out.at' 7 (by omega)
      have f7 := HM2.out.fro 7
      have zw := HM2.out.size
      simp [zim] at d0 d1 d2 d3 d4 d5 d6 d7
      go_wp2
      refine bodyPost_ret (v := .tuple #[hd0.val im0, .int .i64 4]) ?_ rfl ⟨hd0, by rw [← HMM.out, ← HQQ.out, NO'.out.1, NO'.out.2], ?_, ?_⟩
      · simp [results, Tryz.results9, go_sem, *]
        rfl
      · rw [← HMM.out, NO'.out.1]; exact fun _ _ => imIn0 _
      · repeat (refine Kp.setCell ?_ (Nat.le_refl _) _)
        exact K2.out
    case pos =>
    obtain rfl : r = [] := List.eq_nil_of_length_eq_zero hz
    clear hz
    have HCK := Lib.hid (Check_any (HE.out.kept K2.out) HP2.out.in' HWF.out)
    by_cases h0 : chkI M = 0
    case neg =>
      have NO' := Lib.hid (NO.out (fun e => h0 e.2))
      generalize chkI M = c at *
      have hne : (c != 0) = true := by simpa using h0
      go_upto_region 4 with (go_at_call 13; refine HCK.out.mono ?_; rintro e w3 ⟨rfl, k3⟩)
      have HM3 := Lib.hid (HM2.out.kp k3)
      have K3 := Lib.hid (K2.out.trans k3)
      clear k3 e0 e1 e2 e3 e4 e5 e6 e7
      have d0 := HM3.out.at' 0 (by omega)
      have f0 := HM3.out.fro 0
      have d1 := HM3.out.at' 1 (by omega)
      have f1 := HM3.out.fro 1
      have d2 := HM3.out.at' 2 (by omega)
      have f2 := HM3.out.fro 2
      have d3 := HM3.out.at' 3 (by omega)
      have f3 := HM3.out.fro 3
      have d4 := HM3.out.at' 4 (by omega)
      have f4 := HM3.out.fro 4
      have d5 := HM3.out.at' 5 (by omega)
      have f5 := HM3.out.fro 5
      have d6 := HM3.out.at' 6 (by omega)
      have f6 := HM3.out.fro 6
      have d7 := HM3.out.at' 7 (by omega)
      have f7 := HM3.out.fro 7
      have zw := HM3.out.size
      simp [zim] at d0 d1 d2 d3 d4 d5 d6 d7
      go_wp2
      refine bodyPost_ret (v := .tuple #[hd0.val im0, .int .i64 4]) ?_ rfl ⟨hd0, by rw [← HMM.out, ← HQQ.out, NO'.out.1, NO'.out.2], ?_, ?_⟩
      · simp [results, Tryz.results9, go_sem, *]
        rfl
      · rw [← HMM.out, NO'.out.1]; exact fun _ _ => imIn0 _
      · repeat (refine Kp.setCell ?_ (Nat.le_refl _) _)
        exact K3.out
    case pos =>
      have YES' := Lib.hid (YES.out rfl h0)
      rw [h0] at HCK
      go_upto_region 5 with (go_at_call 13; refine HCK.out.mono ?_; rintro e w3 ⟨rfl, k3⟩)
      have HM3 := Lib.hid (HM2.out.kp k3)
      have K3 := Lib.hid (K2.out.trans k3)
      have HP3 := Lib.hid (HP2.out.kp k3)
      have HI3 := Lib.hid (fun w' u => HI2.out w' (Up.trans (Up.of_kp k3) u))
      clear k3 e0 e1 e2 e3 e4 e5 e6 e7
      have e0 := HP3.out.c0
      have e1 := HP3.out.c1
      have e2 := HP3.out.c2
      have e3 := HP3.out.c3
      have e4 := HP3.out.c4
      have e5 := HP3.out.c5
      have e6 := HP3.out.c6
      have e7 := HP3.out.c7
      have zp3 := HP3.out.size
      have d0 := HM3.out.at' 0 (by omega)
      have f0 := HM3.out.fro 0
      have d1 := HM3.out.at' 1 (by omega)
      have f1 := HM3.out.fro 1
      have d2 := HM3.out.at' 2 (by omega)
      have f2 := HM3.out.fro 2
      have d3 := HM3.out.at' 3 (by omega)
      have f3 := HM3.out.fro 3
      have d4 := HM3.out.at' 4 (by omega)
      have f4 := HM3.out.fro 4
      have d5 := HM3.out.at' 5 (by omega)
      have f5 := HM3.out.fro 5
      have d6 := HM3.out.at' 6 (by omega)
      have f6 := HM3.out.fro 6
      have d7 := HM3.out.at' 7 (by omega)
      have f7 := HM3.out.fro 7
      have zw := HM3.out.size
      simp [zim] at d0 d1 d2 d3 d4 d5 d6 d7
      go_wp2
      refine bodyPost_ret (v := .tuple #[hd.val M, .int .i64 0]) ?_ rfl ⟨hd, by rw [← HMM.out, ← HQQ.out, YES'.out.1, YES'.out.2], ?_, ?_⟩
      · simp [results, Tryz.results9, go_sem, *]
        rfl
      · rw [← HMM.out, YES'.out.1]
        intro w' u
        refine HI3.out w' (Up.trans ?_ (u.mono (by omega)))
        repeat (refine Up.set ?_ (by omega) _ _)
        exact Up.refl _ _
      · repeat (refine Kp.setCell ?_ (Nat.le_refl _) _)
        exact K3.out
end Im
end Go.Proofs.YtaeblnlbelebkaaGreatDoor
