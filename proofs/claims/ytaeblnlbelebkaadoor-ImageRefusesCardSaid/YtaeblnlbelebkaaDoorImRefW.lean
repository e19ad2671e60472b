/-
  WALKS: the statement ImageRefuses. Own work.
-/
import Derived.Test.YtaeblnlbelebkaaDoorImLives
import Derived.Test.YtaeblnlbelebkaaDoorImLight
import Derived.Test.YtaeblnlbelebkaaDoorImRefSem
import Derived.Test.YtaeblnlbelebkaaDoorImRows
import Derived.Deep.RegionHeld3
import Derived.Deep.AppendLies
namespace Go.Proofs.YtaeblnlbelebkaaDoor
namespace Im
open Go.RowKit Go
open Co (Kp ret_int ret_bool ret2_int In in0 IIn Ics Wf bytesOf)
open Ln (VIn Vcs)
set_option linter.unusedVariables false

/-- The call under way: the image's box, the variables. -/
structure Bi (w wi : World) (p : Nat) (h : Hd) (m : Im) : Prop where
  ptr : Ptr wi p h m
  env : Co.Env wi
  k : Kp w wi
theorem Bi.kp {w wi wj : World} {p : Nat} {h : Hd} {m : Im} (s : Bi w wi p h m) (k : Kp wi wj) : Bi w wj p h m :=
  ⟨s.ptr.kp k, s.env.kept k, s.k.trans k⟩
theorem kp_grown' {w w1 w2 : World} (k : Kp w w1) {M : Nat} (h : w1.grownBy w2 (some M)) (hM : w.heap.size ≤ M) : Kp w w2 :=
  ⟨k.below.trans ⟨h.os, h.tape, h.output, h.size, fun i hi => h.block i (Nat.lt_of_lt_of_le hi k.size) (fun e => by injection e with e; omega)⟩⟩
theorem alloc_new_of {w w5 : World} {cs : Array Value} {t : TypeId} (h : w.alloc (.cells cs t) = w5) : (∀ o, w5.cell? ⟨w.heap.size, o, none⟩ = cs[o]?) ∧ Kp w w5 ∧ w.heap.size < w5.heap.size ∧ ∀ o, w5.frozen? ⟨w.heap.size, o, none⟩ = false := by
  subst h
  exact ⟨fun o => new_alloc (Kp.refl _) o, (Kp.refl w).alloc _ _, by simp, fun o => by simp⟩
set_option maxHeartbeats 400000 in
theorem pick_8 (n : Int) (w : World) (h1 : -9223372036854775808 ≤ n) (h2 : n ≤ 9223372036854775807) (k : Nat) (hk8 : (n % 8).toNat = k) :
    Calls Tryd.prog 22 #[.int .i64 n, .int .i64 8] w fun e w' => e = .returned (.int .i64 (k : Int)) ∧ w = w' := by
  have hkk : n % 8 = (k : Int) := by omega
  by_cases hn : 0 ≤ n
  · have hp : 0 ≤ n % 8 := by omega
    have HK := Lib.hid hkk
    clear hkk hk8
    go_enter Tryd.func22, Tryd.ntmps22
    go_wp2
    go_ret
    exact ⟨ret_int HK.out, rfl⟩
  · have hb1 : -8 < n.tmod 8 := Int.lt_tmod_of_pos n (by omega)
    have e1 : (-n).tmod 8 = -(n.tmod 8) := Int.neg_tmod ..
    have e2 : (-n).tmod 8 = (-n) % 8 := Int.tmod_eq_emod_of_nonneg (by omega)
    have hb2 : n.tmod 8 ≤ 0 := by omega
    have F : Hid ((n.tmod 8 < 0 → n.tmod 8 + 8 = (k : Int)) ∧ (n.tmod 8 = 0 → 0 = (k : Int))) := Lib.hid ⟨fun _ => by omega, fun _ => by omega⟩
    clear e1 e2 hkk hk8
    by_cases hz : n.tmod 8 < 0
    · go_enter Tryd.func22, Tryd.ntmps22
      go_wp2
      go_ret
      exact ⟨ret_int (F.out.1 hz), rfl⟩
    · have hz0 : n.tmod 8 = 0 := by omega
      go_enter Tryd.func22, Tryd.ntmps22
      go_wp2
      go_ret
      exact ⟨ret_int (F.out.2 hz0), rfl⟩
/-- append onto a row of the call's own, at a step of a region that draws; also of nothing. -/
theorem step_append_at {P : Program} (w : World) {ops : Array Oper} {o : Oper} {a : Act} {K : Act → World → Prop} {Q : Exit → Act → World → Prop} {E : Prop} (hgd : o.guard = none) (s x : Operand) (t : TypeId)
    (ho : o.op = .call { callee := .builtin .append, args := #[s, x], argTypes := #[t, t] })
    (base : Nat) (e : TypeId) (i : TypeInfo) (z : Value) (size bytes : Nat) (ht : P.underlying t = some (.slice e)) (hi : P.info? e = some i) (hz : i.zero = some z)
    (hsize : i.size = size) (hby : i.bytes = bytes) (hzs : z.cells.size = size) (hsz : 0 < size)
    (v : Value) (n : Nat) (xs : List Value) (hs : a.eval s = v) (hown : w.ownsRow base e size v n xs)
    (ad : Addr) (m c : Nat) (news : List Value) (hx : a.eval x = .slice (some ad) m c) (hl : news.length = m * size) (hnews : ∀ j u, news[j]? = some u → w.cell? (ad.add j) = some u) (h1 : ∀ u ∈ news, u.oneCell' = true)
    (h63 : n + m ≤ maxLen) (hbytes : (n + m) * bytes ≤ 140737488355328) (hbase : base ≤ w.heap.size)
    (h : ∀ v' w', w'.ownsRow base e size v' (n + m) (xs ++ news) → w.grownBy w' v.ownBlock → K (a.put o.dst v') w') :
    if Region.wanted o (yielded ops a.tmps) = true then Oper.wp P o a w K Q else E := by
  have hw : Region.wanted o (yielded ops a.tmps) = true := by simp [Region.wanted, hgd]
  rw [if_pos hw]
  obtain ⟨v', w', hr, h2, h3, _, _⟩ := run_append_own_at (P := P) w base t o.type e i z size bytes ht hi hz hsize hby hzs hsz v n xs hown ad m c news hl hnews h1 h63 hbytes hbase
  unfold Oper.wp execOp
  simp only [ho, resolve, invoke, builtin, Sem.run_bind, Sem.run_pure, Result.andThen_ok, List.map_toArray, List.map_cons, List.map_nil, hs, hx, hr]
  exact h v' w' h2 h3
theorem kp_own {w w1 w2 : World} (k : Kp w w1) {e : TypeId} {size n : Nat} {v : Value} {xs : List Value} (ho : w1.ownsRow w.heap.size e size v n xs) (h : w1.grownBy w2 v.ownBlock) : Kp w w2 :=
  ⟨k.below.trans ⟨h.os, h.tape, h.output, h.size, fun i hi => h.block i (Nat.lt_of_lt_of_le hi k.size) (fun e => by have := (ho.lt i e.symm).1; omega)⟩⟩
/-- The empty row. -/
theorem own_first (w : World) (e : TypeId) (size : Nat) : (w.alloc (.cells #[] e)).drew.ownsRow w.heap.size e size (.slice (some ⟨w.heap.size, 0, none⟩) 0 0) 0 [] :=
  World.ownsRow_made (base := w.heap.size) (e := e) (size := size) w #[] 0 (Nat.le_refl _) (by decide) (by simp)
theorem own_zero (w : World) (e : TypeId) (size : Nat) : (w.alloc (.cells #[] e)).ownsRow w.heap.size e size (.slice (some ⟨w.heap.size, 0, none⟩) 0 0) 0 [] :=
  World.ownsRow_made (base := w.heap.size) (e := e) (size := size) w #[] 0 (Nat.le_refl _) (by decide) (by simp)
/-- The pair's block. -/
theorem pair_now (w : World) (cs : Array Value) (t : TypeId) : ∀ j u, cs.toList[j]? = some u → (w.alloc (.cells cs t)).cell? ((⟨w.heap.size, 0, none⟩ : Addr).add j) = some u :=
  World.news_of_block (heap_alloc_new w _)
/-- An image's box whose code is put anew. -/
theorem ptr_put {w5 w6 w2 : World} {h : Hd} {m : Im} (hin : ImIn w5 h m) (hP : Ptr w6 w5.heap.size h m) (K5 : Kp w5 w6) (K : Kp w6 w2) {e : TypeId} {g n cap : Nat} {l : List In} (ho : w2.ownsRow w6.heap.size e 4 (.slice (some ⟨g, 0, none⟩) n cap) n (l.flatMap celC)) (hl : l.length = n) :
    Ptr (w2.setCell ⟨w5.heap.size, 0, none⟩ (.slice (some ⟨g, 0, none⟩) n cap)) w5.heap.size ⟨some ⟨g, 0, none⟩, cap, h.aF, h.cF, h.aV, h.cV, h.aI, h.cI, h.aP, h.cP, h.aA, h.cA⟩ (m.wc l) ∧ Kp w5 (w2.setCell ⟨w5.heap.size, 0, none⟩ (.slice (some ⟨g, 0, none⟩) n cap)) := by
  have z6 := hP.size
  have hg := (ho.lt g rfl).1
  have hf := own_form ho
  obtain ⟨ao, cp, e1, hn1, hn2, _⟩ := hf
  simp only [Value.slice.injEq] at e1
  obtain ⟨rfl, _, rfl⟩ := e1
  have KP : Kp w5 (w2.setCell ⟨w5.heap.size, 0, none⟩ (.slice (some ⟨g, 0, none⟩) n cap)) := (K5.trans K).setCell (Nat.le_refl _) _
  have cf : ∀ o, w2.cell? ⟨w5.heap.size, o, none⟩ = w6.cell? ⟨w5.heap.size, o, none⟩ := fun o => K.cells _ _ z6
  have off : ∀ o, o ≠ 0 → (w2.setCell ⟨w5.heap.size, 0, none⟩ (.slice (some ⟨g, 0, none⟩) n cap)).cell? ⟨w5.heap.size, o, none⟩ = w6.cell? ⟨w5.heap.size, o, none⟩ := fun o h0 => by
    rw [World.cell?_setCell_other _ _ _ _ (by intro q; simp only [Addr.mk.injEq] at q; omega), cf]
  have far : ∀ b o, b ≠ w5.heap.size → (w2.setCell ⟨w5.heap.size, 0, none⟩ (.slice (some ⟨g, 0, none⟩) n cap)).cell? ⟨b, o, none⟩ = w2.cell? ⟨b, o, none⟩ := fun b o h0 =>
    World.cell?_setCell_other _ _ _ _ (by intro q; simp only [Addr.mk.injEq] at q; omega)
  have hc : CIn w2 (some ⟨g, 0, none⟩) l := by
    have := row_C (l := l) (n := n) (cap := cap) (ao := some ⟨g, 0, none⟩) ho
    exact this
  have hc' : CIn (w2.setCell ⟨w5.heap.size, 0, none⟩ (.slice (some ⟨g, 0, none⟩) n cap)) (some ⟨g, 0, none⟩) l := by
    rcases hc with h0 | ⟨b, o, eb, hh⟩
    · exact .inl h0
    · simp only [Option.some.injEq, Addr.mk.injEq] at eb
      obtain ⟨rfl, rfl, _⟩ := eb
      have hne : g ≠ w5.heap.size := by omega
      exact .inr ⟨g, 0, rfl, by simpa using hh.size, fun i hi => (far _ _ hne).trans (hh.o i hi), fun i hi => (far _ _ hne).trans (hh.a i hi), fun i hi => (far _ _ hne).trans (hh.b' i hi), fun i hi => (far _ _ hne).trans (hh.c i hi)⟩
  have I := hin.kp KP
  refine ⟨⟨by simpa using Nat.lt_of_lt_of_le z6 K.size, ?_, (off 1 (by decide)).trans hP.c1, (off 2 (by decide)).trans hP.c2, (off 3 (by decide)).trans hP.c3, (off 4 (by decide)).trans hP.c4, (off 5 (by decide)).trans hP.c5, (off 6 (by decide)).trans hP.c6, (off 7 (by decide)).trans hP.c7, ⟨hc', I.funcs, I.vecs, I.init, I.ports, I.atoms, by show l.length ≤ cap; omega, hn2⟩⟩, KP⟩
  have : (w2.setCell ⟨w5.heap.size, 0, none⟩ (.slice (some ⟨g, 0, none⟩) n cap)).cell? ⟨w5.heap.size, 0, none⟩ = some (.slice (some ⟨g, 0, none⟩) n cap) := World.cell?_setCell_same _ _ _ ((cf 0).trans hP.c0)
  rw [this, ← hl]
  rfl
theorem wf_wc {m : Im} (hW : ImWf m) {l : List In} (hl : l.length ≤ 9223372036854775807) (h : ∀ i, Wf (l.getD i in0)) : ImWf (m.wc l) :=
  ⟨hl, hW.nF, hW.nV, hW.nI, hW.nP, hW.nA, hW.nL, h, hW.init⟩
theorem len_C : ∀ l : List In, (l.flatMap celC).length = l.length * 4
  | [] => rfl
  | x :: l => by
    rw [List.flatMap_cons, List.length_append, len_C l, List.length_cons]
    simp [celC]
    omega
theorem wf_mem {m : Im} (hW : ImWf m) {x : In} (hx : x ∈ m.code) : Wf x := by
  obtain ⟨i, hi, rfl⟩ := List.getElem_of_mem hx
  have := hW.code i
  unfold Im.ins at this
  rwa [List.getD_eq_getElem?_getD, List.getElem?_eq_getElem hi] at this
theorem wf_moreB {m : Im} (hW : ImWf m) {y : In} (hy : Wf y) (hn : m.code.length ≤ 300) (h0 : 0 < m.code.length) : ImWf (m.wc (moreB m y)) := by
  refine wf_wc hW (by rw [moreB_len _ h0]; omega) (fun i => getD_all (P := Wf) (fun x hx => ?_) wf0 i)
  unfold moreB at hx
  simp only [List.mem_append, List.mem_singleton] at hx
  rcases hx with (hx | rfl) | rfl
  · exact wf_mem hW (List.mem_of_mem_take hx)
  · exact hy
  · exact hW.code _
theorem wf_moreE {m : Im} (hW : ImWf m) {y : In} (hy : Wf y) (hn : m.code.length ≤ 300) : ImWf (m.wc (moreE m y)) := by
  refine wf_wc hW (by rw [moreE_len]; omega) (fun i => getD_all (P := Wf) (fun x hx => ?_) wf0 i)
  unfold moreE at hx
  simp only [List.mem_append, List.mem_singleton] at hx
  rcases hx with hx | rfl
  · exact wf_mem hW hx
  · exact hy
theorem cells_C {w : World} {b off : Nat} {l : List In} (h : Ccs w b off l) {n : Nat} (hn : n ≤ l.length) {W : World} (k : Kp w W) : ∀ j u, ((l.take n).flatMap celC)[j]? = some u → W.cell? ((⟨b, off, none⟩ : Addr).add j) = some u := by
  intro j u hj
  have hlen : ((l.take n).flatMap celC).length = n * 4 := by
    rw [len_C, List.length_take, Nat.min_eq_left hn]
  have hjl : j < n * 4 := by
    rcases Nat.lt_or_ge j (n * 4) with q | q
    · exact q
    · rw [List.getElem?_eq_none (by omega)] at hj; cases hj
  have hi : j / 4 < l.length := by omega
  have hg := flat_get celC 4 (fun _ => rfl) (l.take n) (j / 4) (j % 4) (l.getD (j / 4) in0) (by omega) (by rw [List.getElem?_take_of_lt (by omega)]; exact getD_some hi)
  rw [show j / 4 * 4 + j % 4 = j by omega] at hg
  rw [hg] at hj
  have ha : (⟨b, off, none⟩ : Addr).add j = ⟨b, off + j, none⟩ := by unfold Addr.add; simp
  rw [ha, k.cells _ _ h.size]
  have q := Nat.mod_lt j (show 0 < 4 by decide)
  have ho := h.o (j / 4) hi
  have hA := h.a (j / 4) hi
  have hB := h.b' (j / 4) hi
  have hC := h.c (j / 4) hi
  have e4 : off + j = off + j / 4 * 4 + j % 4 := by omega
  rw [e4]
  generalize j % 4 = r at *
  match r, q with
  | 0, _ => simp only [celC, List.getElem?_cons_zero, Option.some.injEq] at hj; rw [← hj]; exact ho
  | 1, _ => simp only [celC, List.getElem?_cons_succ, List.getElem?_cons_zero, Option.some.injEq] at hj; rw [← hj]; exact hA
  | 2, _ => simp only [celC, List.getElem?_cons_succ, List.getElem?_cons_zero, Option.some.injEq] at hj; rw [← hj]; exact hB
  | 3, _ => simp only [celC, List.getElem?_cons_succ, List.getElem?_cons_zero, Option.some.injEq] at hj; rw [← hj]; exact hC
theorem one_C (l : List In) : ∀ u ∈ l.flatMap celC, u.oneCell' = true := by
  intro u hu
  obtain ⟨x, _, hx⟩ := List.mem_flatMap.1 hu
  simp only [celC, List.mem_cons, List.not_mem_nil, or_false] at hx
  rcases hx with rfl | rfl | rfl | rfl <;> rfl
theorem bad_wf {m : Im} (hc : chkI m = 0) (k : Nat) (hk : k < 8) : Wf ((badI m).getD k in0) := by
  obtain ⟨hl, _, _⟩ := chkI_zero.1 hc
  unfold Long Large at hl
  match k, hk with
  | 0, _ => constructor <;> simp [badI] <;> omega
  | 1, _ => constructor <;> simp [badI] <;> omega
  | 2, _ => constructor <;> simp [badI] <;> omega
  | 3, _ => constructor <;> simp [badI] <;> omega
  | 4, _ => constructor <;> simp [badI] <;> omega
  | 5, _ => constructor <;> simp [badI]
  | 6, _ => constructor <;> simp [badI]
  | 7, _ => constructor <;> simp [badI] <;> omega
set_option maxHeartbeats 8000000 in
set_option maxRecDepth 100000 in
theorem refuses_walk {w : World} (hE : Co.Env w) {h : Hd} {m : Im} (hin : ImIn w h m) (hW : ImWf m) (which : Int) (hw1 : -9223372036854775808 ≤ which) (hw2 : which ≤ 9223372036854775807) :
    Calls Tryd.prog 6 #[h.val m, .int .i64 which] w fun e w' => e = .returned (.bool true) ∧ Kp w w' := by
  have K1 := (Kp.refl w).alloc #[.slice h.aC m.code.length h.cC, .slice h.aF m.funcs.length h.cF, .slice h.aV m.vecs.length h.cV, .int .i64 m.main, .slice h.aI m.init.length h.cI, .slice h.aP m.ports.length h.cP, .int .i64 m.stack, .slice h.aA m.atoms.length h.cA] 29
  have B1 := Lib.hid (Bi.mk (Ptr.new hin) (hE.kept K1) K1)
  have HW := Lib.hid hW
  clear hE hin hW K1
  unfold Hd.val
  go_enter Tryd.func6, Tryd.ntmps6
  go_upto_region 1 with (fail)
  revert B1
  generalize w.alloc _ = w1
  generalize w.heap.size = p
  intro B1
  go_wp2_with fail
  refine (lives_any B1.out.env).mono ?_
  rintro e w2 ⟨rfl, k2⟩
  have B2 := Lib.hid (B1.out.kp k2)
  clear B1 k2
  have c0 := B2.out.ptr.c0
  have c1 := B2.out.ptr.c1
  have c2 := B2.out.ptr.c2
  have c3 := B2.out.ptr.c3
  have c4 := B2.out.ptr.c4
  have c5 := B2.out.ptr.c5
  have c6 := B2.out.ptr.c6
  have c7 := B2.out.ptr.c7
  go_wp2_with fail
  refine (Light_any (h := h) (m := m) B2.out.ptr.in' HW.out).mono ?_
  rintro e w3 ⟨b, rfl, hlt, k3⟩
  have HLT := Lib.hid hlt
  clear hlt
  have B3 := Lib.hid (B2.out.kp k3)
  clear c0 c1 c2 c3 c4 c5 c6 c7 B2 k3
  cases b with
  | false =>
    go_wp2
    go_ret
    exact ⟨rfl, B3.out.k⟩
  | true =>
  have c0 := B3.out.ptr.c0
  have c1 := B3.out.ptr.c1
  have c2 := B3.out.ptr.c2
  have c3 := B3.out.ptr.c3
  have c4 := B3.out.ptr.c4
  have c5 := B3.out.ptr.c5
  have c6 := B3.out.ptr.c6
  have c7 := B3.out.ptr.c7
  by_cases hq : chkI m = 0
  case neg =>
    have hne : (chkI m != 0) = true := by simpa using hq
    generalize hqq : chkI m = q at *
    have HQ := Lib.hid hqq
    clear hq hqq
    go_wp2_with fail
    refine (Check_any (h := h) (m := m) B3.out.env B3.out.ptr.in' HW.out).mono ?_
    rw [HQ.out]
    rintro e w4 ⟨rfl, k4⟩
    go_wp2
    go_ret
    exact ⟨rfl, B3.out.k.trans k4⟩
  case pos =>
  have HQ := Lib.hid hq
  clear hq
  go_wp2_with fail
  refine (Check_any (h := h) (m := m) B3.out.env B3.out.ptr.in' HW.out).mono ?_
  rw [HQ.out]
  rintro e w4 ⟨rfl, k4⟩
  have B4 := Lib.hid (B3.out.kp k4)
  clear c0 c1 c2 c3 c4 c5 c6 c7 B3 k4
  have c0 := B4.out.ptr.c0
  have c1 := B4.out.ptr.c1
  have c2 := B4.out.ptr.c2
  have c3 := B4.out.ptr.c3
  have c4 := B4.out.ptr.c4
  have c5 := B4.out.ptr.c5
  have c6 := B4.out.ptr.c6
  have c7 := B4.out.ptr.c7
  have hp := (chkI_zero.1 HQ.out).2.1.fns.code_pos
  have hle : m.code.length ≤ 300 := by have := HLT.out (by first | rfl | trivial); unfold Heavy at this; omega
  obtain ⟨n, hn⟩ : ∃ n, m.code.length = n + 1 := ⟨m.code.length - 1, by omega⟩
  obtain ⟨bC, oC, hao, hcc⟩ := CIn.at B4.out.ptr.in'.code (i := n) (by omega)
  have HN := Lib.hid hn
  rw [hn] at c0 hle
  rw [hao] at c0
  rw [hao, hn]
  have hn0 : (0 : Int) ≤ (n : Int) := Int.natCast_nonneg _
  have hn1 : (n : Int) ≤ 299 := by omega
  clear hn hp
  have hI : (m.init.length : Int) ≤ 4096 := by have := (chkI_zero.1 HQ.out).1; unfold Long Large at this; omega
  go_upto_region 7 with (fail)
  generalize hw5 : w4.alloc _ = w5
  have ND := alloc_new_of hw5
  have HBK : Hid (∀ k, k < 8 → w5.cell? ⟨w4.heap.size, k * 4, none⟩ = some (.int .i64 ((badI m).getD k in0).op) ∧ w5.cell? ⟨w4.heap.size, k * 4 + 1, none⟩ = some (.int .i64 ((badI m).getD k in0).a) ∧ w5.cell? ⟨w4.heap.size, k * 4 + 2, none⟩ = some (.int .i64 ((badI m).getD k in0).b) ∧ w5.cell? ⟨w4.heap.size, k * 4 + 3, none⟩ = some (.int .i64 ((badI m).getD k in0).c)) := Lib.hid (by
    intro k hk
    have hN := HN.out
    match k, hk with
    | 0, _ => simp [ND.1, badI, hN]
    | 1, _ => simp [ND.1, badI]
    | 2, _ => simp [ND.1, badI]
    | 3, _ => simp [ND.1, badI]
    | 4, _ => simp [ND.1, badI]
    | 5, _ => simp [ND.1, badI]
    | 6, _ => simp [ND.1, badI]
    | 7, _ => simp [ND.1, badI])
  have B5 := Lib.hid (B4.out.kp ND.2.1)
  have BZ := ND.2.2.1
  obtain ⟨BD, hBD⟩ : ∃ BD, w4.heap.size = BD := ⟨_, rfl⟩
  rw [hBD] at HBK BZ ⊢
  clear ND hw5 hBD c0 c1 c2 c3 c4 c5 c6 c7 B4 hcc
  have c0 := B5.out.ptr.c0
  have c1 := B5.out.ptr.c1
  have c2 := B5.out.ptr.c2
  have c3 := B5.out.ptr.c3
  have c4 := B5.out.ptr.c4
  have c5 := B5.out.ptr.c5
  have c6 := B5.out.ptr.c6
  have c7 := B5.out.ptr.c7
  rw [HN.out] at c0
  rw [hao] at c0
  obtain ⟨i0, hi, hz0, hz1, hz2⟩ := info_parts info_C
  have P6 := Ptr.new B5.out.ptr.in'
  rw [HN.out, hao] at P6
  go_upto_region 8 with (fail)
  generalize hw6 : w5.alloc _ = w6 at P6 ⊢
  have A6 := alloc_new_of hw6
  have K56 := A6.2.1
  have F6 := A6.2.2.2 0
  have Z6 := A6.2.2.1
  have HI5 := Lib.hid B5.out.ptr.in'
  obtain ⟨k, hk⟩ : ∃ k, (which % 8).toNat = k := ⟨_, rfl⟩
  have hk8 : k < 8 := by omega
  have HK := Lib.hid hk
  obtain ⟨bC2, oC2, hao2, hcc⟩ := CIn.at B5.out.ptr.in'.code (i := n) (by have := HN.out; omega)
  rw [hao] at hao2
  simp only [Option.some.injEq, Addr.mk.injEq, and_true] at hao2
  obtain ⟨rfl, rfl⟩ := hao2
  have hnl : n < m.code.length := by have := HN.out; omega
  have hxw : Wf (m.code.getD n in0) := HW.out.code n
  have hbk := HBK.out k hk8
  have l0 := hcc.o n hnl
  have l1 := hcc.a n hnl
  have l2 := hcc.b' n hnl
  have l3 := hcc.c n hnl
  have NEWS : Hid (∀ W, Kp w5 W → ∀ j u, ((m.code.take n).flatMap celC)[j]? = some u → W.cell? ((⟨bC, oC, none⟩ : Addr).add j) = some u) := Lib.hid (fun W kW => cells_C hcc (by omega) kW)
  have NEWS2 : Hid (∀ W, Kp w5 W → ∀ j u, ((m.code.take (n + 1)).flatMap celC)[j]? = some u → W.cell? ((⟨bC, oC, none⟩ : Addr).add j) = some u) := Lib.hid (fun W kW => cells_C hcc (by omega) kW)
  have HLN2 : Hid (((m.code.take (n + 1)).flatMap celC).length = (n + 1) * 4) := Lib.hid (by rw [len_C, List.length_take, Nat.min_eq_left (by omega)])
  have ONE2 := Lib.hid (one_C (m.code.take (n + 1)))
  have HME : Hid (∀ y, (moreE m y).flatMap celC = (m.code.take (n + 1)).flatMap celC ++ [.int .i64 y.op, .int .i64 y.a, .int .i64 y.b, .int .i64 y.c]) := Lib.hid (fun y => by
    unfold moreE
    rw [List.take_of_length_le (by have := HN.out; omega)]
    simp [celC])
  have HRP := Lib.hid (ref_p HQ.out (by have := HN.out; omega))
  have HLN : Hid (((m.code.take n).flatMap celC).length = n * 4) := Lib.hid (by rw [len_C, List.length_take, Nat.min_eq_left (by omega)])
  have ONE := Lib.hid (one_C (m.code.take n))
  have HRO := Lib.hid (ref_o HQ.out (by have := HN.out; omega) k hk8)
  have HYW : Hid (Wf ((badI m).getD k in0)) := Lib.hid (bad_wf HQ.out k hk8)
  have HMB : Hid (∀ y, (moreB m y).flatMap celC = (m.code.take n).flatMap celC ++ [.int .i64 y.op, .int .i64 y.a, .int .i64 y.b, .int .i64 y.c, .int .i64 (m.code.getD n in0).op, .int .i64 (m.code.getD n in0).a, .int .i64 (m.code.getD n in0).b, .int .i64 (m.code.getD n in0).c]) := Lib.hid (fun y => by
    unfold moreB Im.ins
    rw [HN.out, Nat.add_sub_cancel]
    simp [celC])
  have HXW := Lib.hid hxw
  have HCAP : Hid (n + 1 ≤ h.cC ∧ h.cC ≤ 9223372036854775807) := Lib.hid ⟨by have := B5.out.ptr.in'.cap; have := HN.out; omega, B5.out.ptr.in'.capm⟩
  have hc1 : (n : Int) + 1 ≤ (h.cC : Int) := by have := HCAP.out.1; omega
  have hc2 : (h.cC : Int) ≤ 9223372036854775807 := by have := HCAP.out.2; omega
  have zC := hcc.size
  clear hcc hnl hxw hk A6 hw6
  generalize (m.code.take n).flatMap celC = NW at *
  generalize (m.code.take (n + 1)).flatMap celC = NW2 at *
  generalize (badI m).getD k in0 = y at *
  generalize m.code.getD n in0 = x at *
  obtain ⟨yo, ya, yb, yc⟩ := y
  obtain ⟨xo, xa, xb, xc⟩ := x
  simp only at l0 l1 l2 l3 hbk
  have zp := B5.out.ptr.size
  have C0 : ∀ w', Kp w5 w' → w'.cell? ⟨p, 0, none⟩ = some (.slice (some ⟨bC, oC, none⟩) (n + 1) h.cC) := fun w' q => (q.cells _ _ zp).trans c0
  have D0 : ∀ w', Kp w5 w' → w'.cell? ⟨BD, k * 4, none⟩ = some (.int .i64 yo) := fun w' q => (q.cells _ _ BZ).trans hbk.1
  have D1 : ∀ w', Kp w5 w' → w'.cell? ⟨BD, k * 4 + 1, none⟩ = some (.int .i64 ya) := fun w' q => (q.cells _ _ BZ).trans hbk.2.1
  have D2 : ∀ w', Kp w5 w' → w'.cell? ⟨BD, k * 4 + 2, none⟩ = some (.int .i64 yb) := fun w' q => (q.cells _ _ BZ).trans hbk.2.2.1
  have D3 : ∀ w', Kp w5 w' → w'.cell? ⟨BD, k * 4 + 3, none⟩ = some (.int .i64 yc) := fun w' q => (q.cells _ _ BZ).trans hbk.2.2.2
  have L0 : ∀ w', Kp w5 w' → w'.cell? ⟨bC, oC + n * 4, none⟩ = some (.int .i64 xo) := fun w' q => (q.cells _ _ zC).trans l0
  have L1 : ∀ w', Kp w5 w' → w'.cell? ⟨bC, oC + n * 4 + 1, none⟩ = some (.int .i64 xa) := fun w' q => (q.cells _ _ zC).trans l1
  have L2 : ∀ w', Kp w5 w' → w'.cell? ⟨bC, oC + n * 4 + 2, none⟩ = some (.int .i64 xb) := fun w' q => (q.cells _ _ zC).trans l2
  have L3 : ∀ w', Kp w5 w' → w'.cell? ⟨bC, oC + n * 4 + 3, none⟩ = some (.int .i64 xc) := fun w' q => (q.cells _ _ zC).trans l3
  have G0 : ∀ w', Kp w6 w' → w'.cell? ⟨w5.heap.size, 0, none⟩ = some (.slice (some ⟨bC, oC, none⟩) (n + 1) h.cC) := fun w' q => (q.cells _ _ Z6).trans (by have := P6.c0; rw [HN.out, hao] at this; exact this)
  have G1 : ∀ w', Kp w6 w' → w'.frozen? ⟨w5.heap.size, 0, none⟩ = false := fun w' q => (q.fros _ _ Z6).trans F6
  have HP6 := Lib.hid P6
  have HK56 := Lib.hid K56
  obtain ⟨P, hP⟩ : ∃ P, w5.heap.size = P := ⟨_, rfl⟩
  rw [hP] at G0 G1 ⊢
  have HPP := Lib.hid hP
  have hPle : w5.heap.size ≤ P := Nat.le_of_eq hP
  have hk0 : (0 : Int) ≤ (k : Int) := Int.natCast_nonneg _
  have hk1 : (k : Int) < 8 := by omega
  have hwn : IntKind.i64.wrap ((n : Int) + 1 - 1) = (n : Int) := by rw [show (n : Int) + 1 - 1 = (n : Int) by omega]; exact IntWalk.i64_in _ (by omega)
  have hwn2 : IntKind.i64.wrap (n : Int) = (n : Int) := IntWalk.i64_in _ (by omega)
  have hnl1 : (n : Int) < (n : Int) + 1 := by omega
  have hnl2 : (n : Int) ≤ (n : Int) + 1 := by omega
  have hc0 : (n : Int) ≤ (h.cC : Int) := by omega
  clear c0 c1 c2 c3 c4 c5 c6 c7 l0 l1 l2 l3 hbk P6 K56 F6 HBK hP zp BZ zC Z6
  go_wp2_with fail
  go_region_held3 (fun w' => Kp w5 w') (first | assumption | exact Kp.drew (by assumption) | exact Kp.alloc (by assumption) _ _ | exact HK56.out.drew | exact Kp.setCell (by assumption) hPle _)
    (first
      | (go_at_call 22; refine (pick_8 which _ hw1 hw2 k HK.out).mono ?_; rintro e w9 ⟨rfl, rfl⟩)
      | (refine step_append_at _ (by rfl) _ _ _ (by rfl) w6.heap.size 32 i0 (.agg #[.int .i64 0, .int .i64 0, .int .i64 0, .int .i64 0]) 4 32 Tryd.underlying22 hi hz0 hz1 hz2 rfl (by decide) (.slice (some ⟨w6.heap.size, 0, none⟩) 0 0) 0 [] (by rfl) (own_first w6 _ _) ⟨bC, oC, none⟩ n _ NW (by rfl) HLN.out (NEWS.out _ (HK56.out.trans (((Kp.refl w6).alloc _ _).drew))) ONE.out (by unfold maxLen; omega) (by omega) (by simp) ?_; intro v1 w7 hown1 hgrow1; have KA : Kp w6 w7 := kp_own (((Kp.refl w6).alloc _ _).drew) (own_first w6 _ 4) hgrow1; have SA : Kp w5 w7 := HK56.out.trans KA)
      | (refine step_append_at _ (by rfl) _ _ _ (by rfl) w6.heap.size 32 i0 (.agg #[.int .i64 0, .int .i64 0, .int .i64 0, .int .i64 0]) 4 32 Tryd.underlying22 hi hz0 hz1 hz2 rfl (by decide) v1 _ _ (by rfl) (hown1.alloc _) _ 2 2 [.int .i64 yo, .int .i64 ya, .int .i64 yb, .int .i64 yc, .int .i64 xo, .int .i64 xa, .int .i64 xb, .int .i64 xc] (by rfl) (by rfl) (pair_now _ _ _) (by intro u hu; simp only [List.mem_cons, List.not_mem_nil, or_false] at hu; rcases hu with rfl | rfl | rfl | rfl | rfl | rfl | rfl | rfl <;> rfl) (by unfold maxLen; omega) (by omega) (by have := KA.size; simp; omega) ?_; intro v2 w8 hown2 hgrow2; have KB : Kp w6 w8 := kp_own (KA.alloc _ _) (hown1.alloc _) hgrow2; have SB : Kp w5 w8 := HK56.out.trans KB; have g0 := G0 w8 KB; have g1 := G1 w8 KB; obtain ⟨g, cap, rfl, -, -⟩ := hown2.form (by omega)))
  rw [Nat.zero_add, List.nil_append] at hown2
  have hmb := HMB.out ⟨yo, ya, yb, yc⟩
  simp only at hmb
  rw [← hmb] at hown2
  have hpos : 0 < m.code.length := by have := HN.out; omega
  have PP := ptr_put HI5.out HP6.out HK56.out KB (l := moreB m ⟨yo, ya, yb, yc⟩) hown2 (by rw [moreB_len _ hpos, HN.out])
  rw [HPP.out] at PP
  generalize hW9 : w8.setCell _ _ = w9 at PP ⊢
  have HPO := Lib.hid PP.1
  have B9 := Lib.hid (B5.out.kp PP.2)
  have K59 := Lib.hid PP.2
  have zP := PP.1.size
  clear hmb hown2 hgrow2 hown1 hgrow1 PP hW9 G0 G1 C0 D0 D1 D2 D3 L0 L1 L2 L3 g0 g1 SA SB KA KB hpos hwn hwn2
  have c0 := B9.out.ptr.c0
  have c1 := B9.out.ptr.c1
  have c2 := B9.out.ptr.c2
  have c3 := B9.out.ptr.c3
  have c4 := B9.out.ptr.c4
  have c5 := B9.out.ptr.c5
  have c6 := B9.out.ptr.c6
  have c7 := B9.out.ptr.c7
  rw [HN.out, hao] at c0
  have P10 := Ptr.new B9.out.ptr.in'
  rw [HN.out, hao] at P10
  go_upto_region 10 with (fail)
  generalize hw10 : w9.alloc _ = w10 at P10 ⊢
  have A10 := alloc_new_of hw10
  have K910 := Lib.hid A10.2.1
  have F10 := A10.2.2.2 0
  have Z10 := A10.2.2.1
  have HP10 := Lib.hid P10
  have G0 := P10.c0
  rw [HN.out, hao] at G0
  have B10 := Lib.hid (B9.out.kp K910.out)
  have HQ10 := Lib.hid (HPO.out.kp K910.out)
  clear c0 c1 c2 c3 c4 c5 c6 c7 P10 A10 hw10
  have c0 := B10.out.ptr.c0
  have c1 := B10.out.ptr.c1
  have c2 := B10.out.ptr.c2
  have c3 := B10.out.ptr.c3
  have c4 := B10.out.ptr.c4
  have c5 := B10.out.ptr.c5
  have c6 := B10.out.ptr.c6
  have c7 := B10.out.ptr.c7
  rw [HN.out, hao] at c0
  have cz := B10.out.ptr.size
  obtain ⟨P8, hP8⟩ : ∃ P8, w9.heap.size = P8 := ⟨_, rfl⟩
  have HP8 := Lib.hid hP8
  rw [hP8] at G0 F10 Z10 ⊢
  clear hP8
  go_wp2_with (at_builtin; refine wpList_append_own _ rfl _ _ 22 rfl w10.heap.size 32 i0 (.agg #[.int .i64 0, .int .i64 0, .int .i64 0, .int .i64 0]) 4 32 Tryd.underlying22 hi hz0 hz1 hz2 rfl (by decide) (.slice (some ⟨w10.heap.size, 0, none⟩) 0 0) 0 [] (by rfl) (own_zero w10 _ _) ⟨bC, oC, none⟩ (n + 1) _ NW2 (by rfl) HLN2.out (NEWS2.out _ ((K59.out.trans K910.out).alloc _ _)) ONE2.out (by unfold maxLen; omega) (by omega) (by simp) ?_)
  intro v3 w11 hown3 hgrow3 _
  have KC : Kp w10 w11 := kp_own ((Kp.refl w10).alloc _ _) (own_zero w10 _ 4) hgrow3
  go_wp2_with (at_builtin; refine wpList_append_own _ rfl _ _ 22 rfl w10.heap.size 32 i0 (.agg #[.int .i64 0, .int .i64 0, .int .i64 0, .int .i64 0]) 4 32 Tryd.underlying22 hi hz0 hz1 hz2 rfl (by decide) v3 _ _ (by rfl) (hown3.alloc _) _ 1 1 [.int .i64 22, .int .i64 0, .int .i64 0, .int .i64 0] (by rfl) (by rfl) (pair_now _ _ _) (by intro u hu; simp only [List.mem_cons, List.not_mem_nil, or_false] at hu; rcases hu with rfl | rfl | rfl | rfl <;> rfl) (by unfold maxLen; omega) (by omega) (by have := KC.size; simp; omega) ?_)
  intro v4 w12 hown4 hgrow4 _
  have KD : Kp w10 w12 := kp_own (KC.alloc _ _) (hown3.alloc _) hgrow4
  obtain ⟨g4, cap4, rfl, -, -⟩ := hown4.form (by omega)
  have g0 := (KD.cells _ _ Z10).trans G0
  have g1 := (KD.fros _ _ Z10).trans F10
  have hme := HME.out ⟨22, 0, 0, 0⟩
  simp only at hme
  rw [← hme] at hown4
  have PP := ptr_put B9.out.ptr.in' HP10.out K910.out KD (l := moreE m ⟨22, 0, 0, 0⟩) hown4 (by rw [moreE_len, HN.out])
  rw [HP8.out] at PP
  clear c0 c1 c2 c3 c4 c5 c6 c7 hme hown4 hgrow4 hown3 hgrow3
  go_upto_region 11 with (fail)
  generalize hW13 : w12.setCell _ _ = w13 at PP ⊢
  have HPE := Lib.hid PP.1
  have K913 := Lib.hid PP.2
  have HQ13 := Lib.hid (HPO.out.kp K913.out)
  have B13 := Lib.hid (B9.out.kp K913.out)
  clear PP hW13 g0 g1 G0 F10 Z10 KC KD
  have WB := Lib.hid (wf_moreB HW.out HYW.out (by have := HN.out; omega) (by have := HN.out; omega))
  have WE := Lib.hid (wf_moreE HW.out (y := ⟨22, 0, 0, 0⟩) (by constructor <;> decide) (by have := HN.out; omega))
  have c0 := HQ13.out.c0
  have c1 := HQ13.out.c1
  have c2 := HQ13.out.c2
  have c3 := HQ13.out.c3
  have c4 := HQ13.out.c4
  have c5 := HQ13.out.c5
  have c6 := HQ13.out.c6
  have c7 := HQ13.out.c7
  go_wp2_with fail
  refine (Check_any (h := ⟨some ⟨g, 0, none⟩, cap, h.aF, h.cF, h.aV, h.cV, h.aI, h.cI, h.aP, h.cP, h.aA, h.cA⟩) (m := m.wc (moreB m ⟨yo, ya, yb, yc⟩)) B13.out.env HQ13.out.in' WB.out).mono ?_
  rw [HRO.out]
  rintro e w14 ⟨rfl, k14⟩
  have HE14 := Lib.hid (HPE.out.kp k14)
  have K14 := Lib.hid (B13.out.k.trans k14)
  have E14 := Lib.hid (B13.out.env.kept k14)
  clear c0 c1 c2 c3 c4 c5 c6 c7 k14
  have c0 := HE14.out.c0
  have c1 := HE14.out.c1
  have c2 := HE14.out.c2
  have c3 := HE14.out.c3
  have c4 := HE14.out.c4
  have c5 := HE14.out.c5
  have c6 := HE14.out.c6
  have c7 := HE14.out.c7
  go_wp2_with fail
  refine (Check_any (h := ⟨some ⟨g4, 0, none⟩, cap4, h.aF, h.cF, h.aV, h.cV, h.aI, h.cI, h.aP, h.cP, h.aA, h.cA⟩) (m := m.wc (moreE m ⟨22, 0, 0, 0⟩)) E14.out HE14.out.in' WE.out).mono ?_
  rw [HRP.out]
  rintro e w15 ⟨rfl, k15⟩
  go_wp2
  go_ret
  exact ⟨rfl, K14.out.trans k15⟩
end Im
end Go.Proofs.YtaeblnlbelebkaaDoor
