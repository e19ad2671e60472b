/-
  WALKS: the statement LexBack. Own work.
-/
import Derived.Test.YtlgkcjhoaecekaaDoorLxBackW
import Derived.Test.YtlgkcjhoaecekaaDoorLxPartsW
import Derived.Test.YtlgkcjhoaecekaaDoorLxBackF
import Derived.Test.YtlgkcjhoaecekaaDoorLxJoinW
namespace Go.Proofs.YtlgkcjhoaecekaaDoor
namespace Lx
open Go.RowKit Go
set_option linter.unusedVariables false

/-- As All_qc, and the row outlives three stores into an older block. -/
theorem All_qb {w : World} (hE : Env w) (s : List UInt8) (hl : s.length ≤ 65536) (ts : List Tk) (h0 : Lex s 1 1 = .ok ts) :
    Calls Tryd.prog 8 #[.string (bytesOf s)] w fun e w' => ∃ ao cap, e = .returned (.tuple #[.slice ao ts.length cap, .agg #[.int .i64 0, .int .i64 0, .int .i64 0]]) ∧ Kp w w' ∧ ∀ (W : World) (P : Nat) (v0 v1 v2 : Value), P < w.heap.size → ((w'.setCell ⟨P, 0, none⟩ v0).setCell ⟨P, 1, none⟩ v1).setCell ⟨P, 2, none⟩ v2 = W → TIn W ao ts :=
  (All_any hE s hl ts 0 0 0 (by rw [h0]; rfl) (by rw [h0]; rfl) (by rw [h0]; rfl) (by rw [h0]; rfl)).mono fun e w' ⟨tv, he, ho, k⟩ => by
    obtain ⟨ao, cap, rfl, hc, _, _⟩ := own_form ho
    exact ⟨ao, cap, he, k, fun W P v0 v1 v2 hP hW => row_K (own_far3 ho hP hW)⟩
set_option maxHeartbeats 4000000 in
set_option maxRecDepth 100000 in
theorem back_ok (s : List UInt8) (w : World) (hE : Env w) (la : List Tk) (hlex : Lex s 1 1 = .ok la) (hs : (bytesOf s).size ≤ 2000) :
    Calls Tryd.prog 5 #[.string (bytesOf s)] w fun e w' => e = .returned (.bool true) ∧ Kp w w' := by
  have q0 := flt_z
  have HE := Lib.hid hE
  have HL := Lib.hid hlex
  have SA := Lib.hid (show s.length ≤ 2000 by rw [← bytesOf_size]; omega)
  have SZ := Lib.hid (bytesOf_size s)
  have HLD := Lib.hid ((Lex_locd s.length (a := []) (Nat.le_refl _) rfl).1 la hlex)
  have HNL := Lib.hid (Lex_len hlex)
  obtain ⟨hjl, us, hus, hub⟩ := back_again hlex
  obtain ⟨J, hJ⟩ : ∃ J, joinL (la.map (·.t)) = J := ⟨_, rfl⟩
  rw [hJ] at hjl hus
  have HJ := Lib.hid hJ
  have HJL := Lib.hid hjl
  have HU := Lib.hid hus
  have HUB := Lib.hid hub
  have hul : us.length = la.length := by simpa using congrArg List.length hub
  have HUL := Lib.hid hul
  have ga' : ((bytesOf s).size : Int) ≤ 2000 := by omega
  clear hE hlex hs hjl hus hub hul hJ
  go_enter Tryd.func5, Tryd.ntmps5
  go_wp2_with fail
  refine (lives_any HE.out).mono ?_
  rintro e w1 ⟨rfl, k1⟩
  have K1 := Lib.hid k1
  clear k1
  go_wp2_with fail
  refine (All_q (HE.out.kp K1.out) s (by have := SA.out; omega) la 0 0 0 (by rw [HL.out]; rfl) (by rw [HL.out]; rfl) (by rw [HL.out]; rfl) (by rw [HL.out]; rfl)).mono ?_
  rintro e w3 ⟨aoa, capa, rfl, hT, k3⟩
  have K3 := Lib.hid (K1.out.trans k3)
  have HTA := Lib.hid hT
  clear k3 hT
  obtain ⟨n, hn⟩ : ∃ n, la.length = n := ⟨_, rfl⟩
  have HN := Lib.hid hn
  have hn2 : n ≤ 2000 := by have := HNL.out; have := SA.out; omega
  have hni : (n : Int) ≤ 2000 := by omega
  rw [hn]
  clear hn
  go_upto_region 6 with (fail)
  generalize hw4 : World.alloc w3 _ = w4
  have A4 := alloc_new_of hw4
  have N4 := A4.2.1
  have c40 := A4.1 0
  have c41 := A4.1 1
  have c42 := A4.1 2
  have z4 := A4.2.2.1
  have fz := A4.2.2.2
  simp only [List.getElem?_toArray, List.getElem?_cons_succ, List.getElem?_cons_zero] at c40 c41 c42
  obtain ⟨P4, hP4⟩ : ∃ P, w3.heap.size = P := ⟨_, rfl⟩
  rw [hP4] at c40 c41 c42 z4 fz ⊢
  have HP := Lib.hid hP4
  have K34 := Lib.hid N4
  clear A4 hw4 hP4 N4
  go_wp2_with fail
  refine (by
    have := Join_any (w := w4) (cap := capa) (HTA.out.kp K34.out) (by rw [HN.out]; omega) J HJ.out (by have := HJL.out; have := SA.out; omega)
    rw [HN.out] at this
    exact this : Calls Tryd.prog 12 #[.slice aoa n capa] w4 fun e w' => e = .returned (.string (bytesOf J)) ∧ Kp w4 w').mono ?_
  rintro e w5 ⟨rfl, k5⟩
  have c40 := (k5.cells P4 0 z4).trans c40
  have c41 := (k5.cells P4 1 z4).trans c41
  have c42 := (k5.cells P4 2 z4).trans c42
  have fz := fun o => (k5.fros P4 o z4).trans (fz o)
  have z4 := Nat.lt_of_lt_of_le z4 k5.size
  have K35 := Lib.hid (K34.out.trans k5)
  clear k5
  go_wp2_with fail
  refine (All_qb (HE.out.kp (K3.out.trans K35.out)) J (by have := HJL.out; have := SA.out; omega) us HU.out).mono ?_
  rintro e w6 ⟨aou, capu, rfl, k6, far⟩
  have c40 := (k6.cells P4 0 z4).trans c40
  have c41 := (k6.cells P4 1 z4).trans c41
  have c42 := (k6.cells P4 2 z4).trans c42
  have fz := fun o => (k6.fros P4 o z4).trans (fz o)
  have FAR := Lib.hid (fun W v0 v1 v2 => far W P4 v0 v1 v2 z4)
  have K36 := Lib.hid (K35.out.trans k6)
  clear k6 far
  rw [HUL.out, HN.out]
  go_upto_region 9 with (fail)
  generalize hw7 : World.setCell _ _ _ = w7
  obtain ⟨d0, d1, d2, bl⟩ := three_put c40 c41 c42 _ _ _ hw7
  have HTU := Lib.hid (FAR.out _ _ _ _ hw7)
  have K37 : Hid (Kp w3 w7) := Lib.hid ⟨K36.out.below.trans (HP.out ▸ bl)⟩
  have HTA := Lib.hid (HTA.out.kp K37.out)
  have K7 := Lib.hid (K3.out.trans K37.out)
  clear bl hw7 fz
  go_wp2
  clear c40 c41 c42
  go_loopw [6, 7] (fun a' i wr => ∃ k p : Nat, k ≤ n ∧ p ≤ s.length ∧ a' = .int .i64 p ∧ i = .int .i64 k ∧ Qt w7 wr ∧ Hid (Locd (s.take p) (s.drop p) (la.drop k))) (fun _ i _ => n - (intOf i).toNat)
  case atStart => exact ⟨0, 0, Nat.zero_le _, Nat.zero_le _, rfl, rfl, Qt.refl _, Lib.hid (by simpa using HLD.out)⟩
  case round =>
    obtain ⟨k, p, hk, hp, rfl, rfl, hq, hld⟩ := hrel
    by_cases hlt : k < n
    · have hk0 : (0 : Int) ≤ (k : Int) := Int.natCast_nonneg _
      have hk1 : (k : Int) < (n : Int) := by omega
      have hka : k < la.length := by rw [HN.out]; exact hlt
      have hku : k < us.length := by rw [HUL.out]; exact hka
      obtain ⟨bb, offb, hbo, hc7⟩ := TIn.at HTA.out (i := k) hka
      subst hbo
      have hc := hc7.kp hq.kp
      have v1 := hc7.t k hka
      have v2 := hc7.l' k hka
      have v3 := hc7.c k hka
      have zv := hc7.size
      obtain ⟨bt, offt, hto, hc2⟩ := TIn.at (HTU.out.kp hq.kp) (i := k) hku
      subst hto
      have y0 := hc.k k hka
      have y1 := hc.t k hka
      have y2 := hc.l' k hka
      have y3 := hc.c k hka
      have y4 := hc.n k hka
      have zb := hc.size
      have x0 := hc2.k k hku
      have x1 := hc2.t k hku
      have x4 := hc2.n k hku
      obtain ⟨e1, e2, e3⟩ := bare_at HUB.out hka
      rw [e1] at x0
      rw [e2] at x1
      rw [e3] at x4
      have hld2 := hld.out
      rw [drop_getD hka] at hld2
      clear hc hc2 hc7 e1 e2 e3 hld
      generalize la.getD k t0 = x at *
      obtain ⟨xk, xt, xl, xc, xn⟩ := x
      simp only at x0 x1 x4 y0 y1 y2 y3 y4 v1 v2 v3
      have HY := Lib.hid (fun W (kw : Kp w7 W) => And.intro ((kw.cells bb _ zv).trans v1) (And.intro ((kw.cells bb _ zv).trans v2) ((kw.cells bb _ zv).trans v3)))
      clear v1 v2 v3
      obtain ⟨g, r, hgr, hpos, hne, hrest⟩ := hld2
      simp only at hgr hpos hne hrest
      have SF := Lib.hid (step_facts hgr hp)
      have HPOS := Lib.hid hpos
      have HRE : Hid (Locd (s.take (p + g.length + xt.length)) (s.drop (p + g.length + xt.length)) (la.drop (k + 1))) := Lib.hid (by rw [SF.out.2.2.1, SF.out.2.2.2.1]; exact hrest)
      have hlen := SF.out.1
      have hxl : 0 < xt.length := List.length_pos_iff.2 hne
      obtain ⟨xb, xq, hxb⟩ : ∃ b q, xt = b :: q := by cases xt with
        | nil => exact absurd rfl hne
        | cons b q => exact ⟨b, q, rfl⟩
      have he : (bytesOf xt).toList.isEmpty = false := by rw [bytesOf_toList, hxb]; rfl
      clear hrest hpos hgr hne hxb
      go_wp2
      go_quiet (fail)
      go_wp2
      clear x0 x1 x4 y0 y1 y2 y3 y4
      go_loopw [6] (fun a' wr => ∃ j : Nat, j ≤ g.length ∧ a' = .int .i64 ((p + j : Nat) : Int) ∧ Qt w7 wr) (fun a' _ => s.length - (intOf a').toNat)
      case atStart => exact ⟨0, Nat.zero_le _, rfl, hq.drew _⟩
      case round =>
        obtain ⟨j, hj, rfl, hqz⟩ := hrel
        have hpj : ((p + j : Nat) : Int) < ((bytesOf s).size : Int) := by rw [SZ.out]; omega
        have hcl : clampN s.length ((p + j : Nat) : Int) = p + j := by
          unfold clampN
          split
          · omega
          · split <;> omega
        obtain ⟨y1, y2, y3⟩ := HY.out wr hqz.kp
        by_cases hjl : j < g.length
        · obtain ⟨ql, qc, hpl⟩ : ∃ l c, posL (s.take (clampN s.length ((p + j : Nat) : Int))) = (l, c) := ⟨_, _, rfl⟩
          have hne2 : ¬ (ql = xl ∧ qc = xc) := fun ⟨f1, f2⟩ => by
            rw [hcl, SF.out.2.1 j hj] at hpl
            exact place_not HPOS.out hjl (by rw [hpl, f1, f2])
          have HPLL := Lib.hid hpl
          clear hpl hcl
          obtain ⟨m, hm⟩ : ∃ m, p + j = m := ⟨_, rfl⟩
          have HM := Lib.hid hm
          rw [hm] at hpj HPLL ⊢
          have hms : m < s.length := by omega
          have hm0 : (0 : Int) ≤ (m : Int) := Int.natCast_nonneg _
          clear hm
          go_wp2_with fail
          refine (Line_any s (by have := SA.out; omega) (m : Int) (by omega) (by omega) _ ql qc HPLL.out).mono ?_
          rintro e wl ⟨rfl, rfl⟩
          by_cases hql : ql = xl
          · have hqc : ¬ qc = xc := fun e => hne2 ⟨hql, e⟩
            subst hql
            go_wp2
            exact ⟨⟨j + 1, by omega, by rw [← HM.out]; go_num, hqz⟩, by simp [intOf]; omega⟩
          · go_wp2
            exact ⟨⟨j + 1, by omega, by rw [← HM.out]; go_num, hqz⟩, by simp [intOf]; omega⟩
        · obtain rfl : j = g.length := by omega
          have HPLL : Hid (posL (s.take (clampN s.length ((p + g.length : Nat) : Int))) = (xl, xc)) := Lib.hid (by rw [hcl, SF.out.2.1 g.length (Nat.le_refl _), List.take_length, HPOS.out])
          have HX : (bytesOf s).extract (p + g.length) (p + g.length + (bytesOf xt).size) = bytesOf xt := by
            rw [ext_ab, Nat.add_sub_cancel_left, bytesOf_size, SF.out.2.2.2.2]
          have hend : ((p + g.length : Nat) : Int) + ((bytesOf xt).size : Int) ≤ ((bytesOf s).size : Int) := by rw [SZ.out, bytesOf_size]; omega
          have HRE2 : Hid (Locd (s.take (p + g.length + (bytesOf xt).size)) (s.drop (p + g.length + (bytesOf xt).size)) (la.drop (k + 1)) ∧ p + g.length + (bytesOf xt).size ≤ s.length) := Lib.hid (by rw [bytesOf_size]; exact ⟨HRE.out, by omega⟩)
          clear HRE hcl SF HPOS hjl hj
          generalize p + g.length = q at *
          have hq0 : (0 : Int) ≤ (q : Int) := Int.natCast_nonneg _
          clear hlen
          go_wp2_with fail
          refine (Line_any s (by have := SA.out; omega) (q : Int) (by omega) (by omega) _ xl xc HPLL.out).mono ?_
          rintro e wl ⟨rfl, rfl⟩
          have hd2 : ¬ ((bytesOf s).size : Int) < (q : Int) + ((bytesOf xt).size : Int) := by omega
          have hd1 : decide (((bytesOf s).size : Int) < (q : Int) + ((bytesOf xt).size : Int)) = false := decide_eq_false hd2
          go_wp2
          go_quiet (fail)
          go_wp2
          exact ⟨⟨k + 1, q + (bytesOf xt).size, by omega, HRE2.out.2, by go_num, by go_num, hqz.drew _, Lib.hid HRE2.out.1⟩, by simp [intOf]; omega⟩
    · obtain rfl : k = n := by omega
      go_wp2
      go_ret
      exact ⟨rfl, K7.out.trans hq.kp⟩
theorem back_walk (s : List UInt8) (w : World) (hE : Env w) (hm : (bytesOf s).size ≤ 9223372036854775807) :
    Calls Tryd.prog 5 #[.string (bytesOf s)] w fun e w' => e = .returned (.bool true) ∧ Kp w w' := by
  by_cases h : 2000 < (bytesOf s).size
  · exact back_short s w hE (.inl h) hm
  · cases hl : Lex s 1 1 with
    | ok la => exact back_ok s w hE la hl (by omega)
    | error xy => exact back_short s w hE (.inr ⟨xy.1, xy.2, hl⟩) hm
end Lx
end Go.Proofs.YtlgkcjhoaecekaaDoor
