/-
  WALKS: package image, order and Order. Own work.
-/
import Derived.Test.YtaeblnlbelebkaaDoorImOrd
namespace Go.Proofs.YtaeblnlbelebkaaDoor
namespace Im
open Go.RowKit Go
open Co (Kp ret_int ret_bool ret2_int In in0 IIn Ics Wf)
open Ln (VIn Vcs)
set_option linter.unusedVariables false

theorem info_ints : (Tryd.prog.info? 43).map (fun i => (i.zero, i.size, i.bytes)) = some (some (.slice none 0 0), 1, 24) := by kernel_rfl
/-- A row of lists that is being filled: the first k of n. -/
structure RowsK (w : World) (CB n k : Nat) (f : Nat → List Nat) : Prop where
  size : CB < w.heap.size
  ex : ∀ j, j < n → ∃ v, w.cell? ⟨CB, j, none⟩ = some v
  fro : ∀ j, w.frozen? ⟨CB, j, none⟩ = false
  row : ∀ j, j < k → ∃ ao cap, w.cell? ⟨CB, j, none⟩ = some (.slice ao (f j).length cap) ∧ IIn w ao (fun q => (((f j).getD q 0 : Nat) : Int)) (f j).length ∧ ((f j).length : Int) ≤ 9223372036854775807 ∧ ∀ a, ao = some a → a.block ≠ CB
theorem RowsK.kp {w w' : World} {CB n k : Nat} {f : Nat → List Nat} (h : RowsK w CB n k f) (q : Kp w w') : RowsK w' CB n k f :=
  ⟨Nat.lt_of_lt_of_le h.size q.size, fun j hj => by
    obtain ⟨v, hv⟩ := h.ex j hj
    exact ⟨v, (q.cells _ _ h.size).trans hv⟩, fun j => (q.fros _ _ h.size).trans (h.fro j), fun j hj => by
    obtain ⟨ao, cap, h1, h2, h3, h4⟩ := h.row j hj
    exact ⟨ao, cap, (q.cells _ _ h.size).trans h1, h2.kp q, h3, h4⟩⟩
theorem iin_far {w : World} {ao : Option Addr} {xs : Nat → Int} {n : Nat} (h : IIn w ao xs n) {B : Nat} (hB : ∀ a, ao = some a → a.block ≠ B) (o : Nat) (v : Value) : IIn (w.setCell ⟨B, o, none⟩ v) ao xs n := by
  rcases h with h | ⟨b, off, rfl, g⟩
  · exact .inl h
  · exact .inr ⟨b, off, rfl, by simpa using g.size, fun i hi => (World.cell?_setCell_other _ _ _ _ (fun e => hB _ rfl (congrArg Addr.block e).symm)).trans (g.at' i hi)⟩
theorem RowsK.set {w : World} {CB n k : Nat} {f : Nat → List Nat} (h : RowsK w CB n k f) (hk : k < n) {ao : Option Addr} {cap : Nat} (hi : IIn w ao (fun q => (((f k).getD q 0 : Nat) : Int)) (f k).length) (hl : ((f k).length : Int) ≤ 9223372036854775807) (ha : ∀ a, ao = some a → a.block ≠ CB) : RowsK (w.setCell ⟨CB, k, none⟩ (.slice ao (f k).length cap)) CB n (k + 1) f where
  size := by simpa using h.size
  ex := fun j hj => by
    by_cases e : j = k
    · subst e
      obtain ⟨v, hv⟩ := h.ex j hj
      exact ⟨_, World.cell?_setCell_same _ _ _ hv⟩
    · obtain ⟨v, hv⟩ := h.ex j hj
      exact ⟨v, (World.cell?_setCell_other _ _ _ _ (fun e' => e (by have := congrArg Addr.off e'; simpa using this.symm))).trans hv⟩
  fro := fun j => by rw [World.frozen?_setCell]; exact h.fro j
  row := fun j hj => by
    by_cases e : j = k
    · subst e
      obtain ⟨v, hv⟩ := h.ex j hk
      exact ⟨ao, cap, World.cell?_setCell_same _ _ _ hv, iin_far hi ha _ _, hl, ha⟩
    · obtain ⟨ao', cap', h1, h2, h3, h4⟩ := h.row j (by omega)
      exact ⟨ao', cap', (World.cell?_setCell_other _ _ _ _ (fun e' => e (by have := congrArg Addr.off e'; simpa using this.symm))).trans h1, iin_far h2 h4 _ _, h3, h4⟩
theorem rowsk_new (w : World) (C : Array Value) (T : TypeId) (n : Nat) (hC : C.size = n) (f : Nat → List Nat) : RowsK (w.alloc (.cells C T)) w.heap.size n 0 f where
  size := by simp
  ex := fun j hj => ⟨C[j]'(by omega), by rw [new_alloc (Kp.refl _) j, Array.getElem?_eq_getElem (by omega)]⟩
  fro := fun j => by simp
  row := fun j hj => absurd hj (Nat.not_lt_zero _)
theorem RowsK.full {w : World} {CB n : Nat} {f : Nat → List Nat} (h : RowsK w CB n n f) : RowsB w CB w.heap.size n f :=
  ⟨h.size, h.size, fun j hj => by
    obtain ⟨ao, cap, h1, h2, h3, h4⟩ := h.row j hj
    rcases h2 with h2 | ⟨b, off, rfl, g⟩
    · exact ⟨ao, cap, h1, .inl h2, h3, fun a _ hz => by omega⟩
    · exact ⟨_, cap, h1, .inr ⟨b, off, rfl, g⟩, h3, fun a e _ => by cases e; exact g.size⟩⟩
/-- The set of those that are in a list. -/
def inL (l : List Nat) : Nat → Bool := fun x => l.contains x
theorem inL_snoc (l : List Nat) (f : Nat) : ∀ x, (if x = f then true else inL l x) = inL (l ++ [f]) x := fun x => by
  unfold inL
  by_cases e : x = f
  · subst e; simp
  · simp [e]
theorem next_kahn {m : Im} {l : List Nat} {f : Nat} (h : nextK m l = some f) : nextT (inL l) (callsOf m) m.funcs.length = f := by
  unfold nextT
  have e : nextK m l = (List.range m.funcs.length).find? (rdyT (inL l) (callsOf m)) := rfl
  rw [← e, h]; rfl
set_option maxHeartbeats 4000000 in
set_option maxRecDepth 100000 in
theorem order_any {w : World} {p : Nat} {h : Hd} {m : Im} (hP : Ptr w p h m) (hW : ImWf m) (hF : FnsB m) (hI : InsB m) (hn : m.funcs.length ≤ 64) (hA : Acyc m) :
    Calls Tryd.prog 26 #[.pointer (some ⟨p, 0, none⟩)] w (GvN w (orderL m)) := by
  obtain ⟨i0, hi, hz0, hz1, hz2⟩ := info_parts info_ints
  obtain ⟨i1, gi, gz0, gz1, gz2⟩ := info_parts info_int
  have hsz := hP.size
  have c1 := hP.c1
  have HP := Lib.hid hP
  have HW := Lib.hid hW
  have HF := Lib.hid hF
  have HI := Lib.hid hI
  have HA := Lib.hid hA
  obtain ⟨C, hC, hmk⟩ : ∃ C : Array Value, C.size = m.funcs.length ∧ ∀ W : World, (Instr.makeSlice 27 (.int .i64 (m.funcs.length : Int)) (.int .i64 (m.funcs.length : Int))).run Tryd.prog W = .ok (.slice (some ⟨W.heap.size, 0, none⟩) m.funcs.length m.funcs.length) (W.alloc (.cells C 43)) :=
    ⟨madeCells (Value.slice none 0 0).cells (m.funcs.length * i0.size), by rw [size_madeCells, hz1, Nat.mul_one], fun W => by
      have := run_makeSlice W 27 43 i0 _ Tryd.underlying27 hi hz0 .i64 .i64 (m.funcs.length : Int) (m.funcs.length : Int) (by omega) (by omega) (by rw [hz1]; omega) (by rw [hz2]; omega) (by omega)
      simpa using this⟩
  have hn' : (m.funcs.length : Int) ≤ 64 := by omega
  have R0 := rowsk_new w C 43 m.funcs.length hC (callsOf m)
  have K0 : Kp w (w.alloc (.cells C 43)) := (Kp.refl w).alloc _ _
  have HC := Lib.hid hC
  clear hP hW hF hI hA hC
  go_enter Tryd.func26, Tryd.ntmps26
  go_wp2
  clear hmk
  revert R0 K0
  generalize w.alloc (.cells C 43) = w1
  intro R0 K0
  go_loopw [16] (fun i wr => ∃ k : Nat, k ≤ m.funcs.length ∧ i = .int .i64 k ∧ RowsK wr w.heap.size m.funcs.length k (callsOf m) ∧ Kp w wr) (fun i _ => m.funcs.length - (intOf i).toNat)
  case atStart => exact ⟨0, Nat.zero_le _, rfl, R0, K0⟩
  case round =>
    obtain ⟨k, hk, rfl, hR, kr⟩ := hrel
    by_cases hlt : k < m.funcs.length
    · have HR := Lib.hid hR
      have hrs := hR.size
      clear hR
      go_wp2_with fail
      refine (calls_any (HP.out.kp kr) HW.out HF.out HI.out hn k hlt).mono ?_
      rintro e w2 ⟨v, rfl, ⟨ao, cap, rfl, hin, hlen⟩, k2, hnew⟩
      have hR2 := HR.out.kp k2
      have hs2 := hR2.size
      obtain ⟨v0, x0⟩ := hR2.ex k hlt
      have hfr := hR2.fro k
      have ha : ∀ a, ao = some a → a.block ≠ w.heap.size := fun a e => by
        have := hnew a.block (by rw [e]; rfl)
        omega
      have NS := Lib.hid (hR2.set hlt hin hlen ha (cap := cap))
      have KS := Lib.hid ((kr.trans k2).setCell (p := ⟨w.heap.size, k, none⟩) (Nat.le_refl _) (.slice ao (callsOf m k).length cap))
      have g0 : (0 : Int) ≤ (k : Int) := by omega
      have g1 : (k : Int) < m.funcs.length := by omega
      generalize (callsOf m k).length = nl at *
      clear hR2 hin hlen hnew ha k2
      go_wp2
      go_roundw
      case rel => exact ⟨k + 1, by omega, by go_num, NS.out, KS.out⟩
      case measure => simp [intOf]; omega
    · obtain rfl : k = m.funcs.length := by omega
      have RB := hR.full
      have hsw : w.heap.size ≤ wr.heap.size := kr.size
      have S1 : SetIn (wr.alloc (.cells #[.bool false, .bool false, .bool false, .bool false, .bool false, .bool false, .bool false, .bool false, .bool false, .bool false, .bool false, .bool false, .bool false, .bool false, .bool false, .bool false, .bool false, .bool false, .bool false, .bool false, .bool false, .bool false, .bool false, .bool false, .bool false, .bool false, .bool false, .bool false, .bool false, .bool false, .bool false, .bool false, .bool false, .bool false, .bool false, .bool false, .bool false, .bool false, .bool false, .bool false, .bool false, .bool false, .bool false, .bool false, .bool false, .bool false, .bool false, .bool false, .bool false, .bool false, .bool false, .bool false, .bool false, .bool false, .bool false, .bool false, .bool false, .bool false, .bool false, .bool false, .bool false, .bool false, .bool false, .bool false] 93)) wr.heap.size (fun _ => false) := set_new wr
      have K1 : Kp w (wr.alloc (.cells #[.bool false, .bool false, .bool false, .bool false, .bool false, .bool false, .bool false, .bool false, .bool false, .bool false, .bool false, .bool false, .bool false, .bool false, .bool false, .bool false, .bool false, .bool false, .bool false, .bool false, .bool false, .bool false, .bool false, .bool false, .bool false, .bool false, .bool false, .bool false, .bool false, .bool false, .bool false, .bool false, .bool false, .bool false, .bool false, .bool false, .bool false, .bool false, .bool false, .bool false, .bool false, .bool false, .bool false, .bool false, .bool false, .bool false, .bool false, .bool false, .bool false, .bool false, .bool false, .bool false, .bool false, .bool false, .bool false, .bool false, .bool false, .bool false, .bool false, .bool false, .bool false, .bool false, .bool false, .bool false] 93)) := kr.alloc _ _
      have RB1 : RowsB (wr.alloc (.cells #[.bool false, .bool false, .bool false, .bool false, .bool false, .bool false, .bool false, .bool false, .bool false, .bool false, .bool false, .bool false, .bool false, .bool false, .bool false, .bool false, .bool false, .bool false, .bool false, .bool false, .bool false, .bool false, .bool false, .bool false, .bool false, .bool false, .bool false, .bool false, .bool false, .bool false, .bool false, .bool false, .bool false, .bool false, .bool false, .bool false, .bool false, .bool false, .bool false, .bool false, .bool false, .bool false, .bool false, .bool false, .bool false, .bool false, .bool false, .bool false, .bool false, .bool false, .bool false, .bool false, .bool false, .bool false, .bool false, .bool false, .bool false, .bool false, .bool false, .bool false, .bool false, .bool false, .bool false, .bool false] 93)) w.heap.size wr.heap.size m.funcs.length (callsOf m) := RB.below ((Below.refl _ wr).alloc (Nat.le_refl _) _)
      clear hR kr RB
      obtain ⟨U, hU⟩ : ∃ U, wr.heap.size = U := ⟨_, rfl⟩
      go_wp2
      revert S1 K1 RB1
      generalize wr.alloc (.cells #[.bool false, .bool false, .bool false, .bool false, .bool false, .bool false, .bool false, .bool false, .bool false, .bool false, .bool false, .bool false, .bool false, .bool false, .bool false, .bool false, .bool false, .bool false, .bool false, .bool false, .bool false, .bool false, .bool false, .bool false, .bool false, .bool false, .bool false, .bool false, .bool false, .bool false, .bool false, .bool false, .bool false, .bool false, .bool false, .bool false, .bool false, .bool false, .bool false, .bool false, .bool false, .bool false, .bool false, .bool false, .bool false, .bool false, .bool false, .bool false, .bool false, .bool false, .bool false, .bool false, .bool false, .bool false, .bool false, .bool false, .bool false, .bool false, .bool false, .bool false, .bool false, .bool false, .bool false, .bool false] 93) = w5
      rw [hU]
      rw [hU] at hsw
      intro S1 K1 RB1
      clear hU
      have h5 : U < w5.heap.size := S1.size
      go_loopw [6, 28] (fun v i wr => ∃ k : Nat, k ≤ m.funcs.length ∧ i = .int .i64 k ∧ wr.ownsRow (U + 1) 3 1 v (kahn m k).length (ints (kahn m k)) ∧ SetIn wr U (inL (kahn m k)) ∧ RowsB wr w.heap.size U m.funcs.length (callsOf m) ∧ Kp w wr) (fun _ i _ => m.funcs.length - (intOf i).toNat)
      case atStart => exact ⟨0, Nat.zero_le _, rfl, World.ownsRow_nil _ _ _ _, S1.ext (fun g => rfl), RB1, K1⟩
      case round =>
        obtain ⟨k, hk, rfl, hown, hS, hRB, kr⟩ := hrel
        by_cases hlt : k < m.funcs.length
        · obtain ⟨f, hf⟩ := HA.out.next hlt
          obtain ⟨hfn, _, _, _⟩ := nextK_some hf
          have hstep := kahn_step hf
          have hnk := next_kahn hf
          have h64 : Hid (∀ j, j < m.funcs.length → ∀ x ∈ callsOf m j, x < 64) := Lib.hid (fun j hj x hx => by have := callsOf_lt HI.out hj hx; omega)
          have hlenk := HA.out.len (k := k) (by omega)
          have HST := Lib.hid hstep
          have HNK := Lib.hid hnk
          have HLEN := Lib.hid hlenk
          have f0 : (0 : Int) ≤ (f : Int) := by omega
          have f1 : (f : Int) < 64 := by omega
          have hcell := hS.at' f (by omega)
          have hfro := hS.fro f
          have hsu := hS.size
          have S2 := hS.set (g := f) (by omega) true
          have hUU : (⟨U, f, none⟩ : Addr).block < U + 1 := Nat.lt_succ_self U
          have O2 : (wr.setCell ⟨U, f, none⟩ (.bool true)).ownsRow (U + 1) 3 1 _ (kahn m k).length (ints (kahn m k)) := ownsRow_setCell_below hown hUU (.bool true)
          have B2 := hRB.below ((Below.refl U wr).setCell (p := ⟨U, f, none⟩) (Nat.le_refl U) (.bool true))
          have K2 := kr.setCell (p := ⟨U, f, none⟩) hsw (.bool true)
          have z2 : U < (wr.setCell ⟨U, f, none⟩ (.bool true)).heap.size := S2.size
          have HS := Lib.hid hS
          have HRB := Lib.hid hRB
          clear hf hstep hnk hlenk hS hRB hown kr
          go_wp2_with fail
          refine (next_any HS.out HRB.out hn h64.out f HNK.out).mono ?_
          rintro e w6 ⟨rfl, rfl⟩
          go_upto_region 13 with (fail)
          revert S2 O2 B2 K2 z2
          generalize wr.setCell ⟨U, f, none⟩ (.bool true) = w7
          intro S2 O2 B2 K2 z2
          have HS2 := Lib.hid S2
          have HB2 := Lib.hid B2
          have HK2 := Lib.hid K2
          clear S2 B2 K2 hcell hfro
          have hll : (kahn m k).length ≤ 64 := by have := HLEN.out; omega
          generalize hL : kahn m k = L at *
          generalize hL' : kahn m (k + 1) = L' at *
          have HL' := Lib.hid hL'
          clear hL hL'
          go_wp2_with (at_builtin; refine wpList_append_own _ rfl _ _ 43 rfl (U + 1) 3 i1 (.int .i64 0) 1 8 Tryd.underlying43 gi gz0 gz1 gz2 rfl (by decide) _ _ _ rfl (O2.alloc _) ⟨w7.heap.size, 0, none⟩ 1 1 [.int .i64 (f : Int)] rfl rfl ?c1 ?c2 ?c3 ?c4 ?c5 ?_)
          case c1 =>
            intro q u hq
            match q, hq with
            | 0, hq => simp at hq; subst hq; simp [Addr.add]
          case c2 => intro u hu; simp at hu; subst hu; rfl
          case c3 => unfold maxLen; omega
          case c4 => omega
          case c5 => simp; omega
          intro v' w8 hown' hgrow _
          have hb8 : Below (U + 1) w7 w8 := ((Below.refl (U + 1) w7).alloc (by omega) _).grown hgrow (by simp; omega) (fun q hq => (O2.lt q hq).1)
          have hk8 : Kp w w8 := ⟨(HK2.out.alloc _ _).below.grown hgrow (by have := HK2.out.size; simp; omega) (fun q hq => by have := (O2.lt q hq).1; omega)⟩
          rw [← ints_snoc] at hown'
          have HOW := Lib.hid hown'
          have S8 := HS2.out.below hb8 (Nat.lt_succ_self U)
          have B8 := HB2.out.below (hb8.mono (Nat.le_succ U))
          clear hgrow hown' hb8 O2
          go_wp2
          go_roundw
          case rel => exact ⟨k + 1, by omega, by go_num, by rw [HL'.out, HST.out]; simpa using HOW.out, by rw [HL'.out, HST.out]; exact S8.ext (inL_snoc _ _), B8, hk8⟩
          case measure => simp [intOf]; omega
        · obtain rfl : k = m.funcs.length := by omega
          go_wp2
          go_ret
          exact ⟨_, rfl, nin_own hown (by have := kahn_len_le m m.funcs.length; unfold orderL; omega), kr⟩
/-- What Order answers. -/
def orA (m : Im) : List Nat := if chkI m = 0 then orderL m else []
set_option maxHeartbeats 4000000 in
set_option maxRecDepth 100000 in
theorem Order_any {w : World} (hE : Co.Env w) {h : Hd} {m : Im} (hin : ImIn w h m) (hW : ImWf m) (l : List Nat) (hl : orA m = l) :
    Calls Tryd.prog 14 #[.agg #[.slice h.aC m.code.length h.cC, .slice h.aF m.funcs.length h.cF, .slice h.aV m.vecs.length h.cV, .int .i64 m.main, .slice h.aI m.init.length h.cI, .slice h.aP m.ports.length h.cP, .int .i64 m.stack, .slice h.aA m.atoms.length h.cA]] w (GvN w l) := by
  have PN := Ptr.new hin
  have EN := hE.kept ((Kp.refl w).alloc #[.slice h.aC m.code.length h.cC, .slice h.aF m.funcs.length h.cF, .slice h.aV m.vecs.length h.cV, .int .i64 m.main, .slice h.aI m.init.length h.cI, .slice h.aP m.ports.length h.cP, .int .i64 m.stack, .slice h.aA m.atoms.length h.cA] 29)
  have K1 := (Kp.refl w).alloc #[.slice h.aC m.code.length h.cC, .slice h.aF m.funcs.length h.cF, .slice h.aV m.vecs.length h.cV, .int .i64 m.main, .slice h.aI m.init.length h.cI, .slice h.aP m.ports.length h.cP, .int .i64 m.stack, .slice h.aA m.atoms.length h.cA] 29
  have Z1 : w.heap.size < (w.alloc (.cells #[.slice h.aC m.code.length h.cC, .slice h.aF m.funcs.length h.cF, .slice h.aV m.vecs.length h.cV, .int .i64 m.main, .slice h.aI m.init.length h.cI, .slice h.aP m.ports.length h.cP, .int .i64 m.stack, .slice h.aA m.atoms.length h.cA] 29)).heap.size := by simp
  have HW := Lib.hid hW
  clear hin hW hE
  go_enter Tryd.func14, Tryd.ntmps14
  go_upto_region 1 with (fail)
  revert PN EN K1 Z1
  generalize w.heap.size = p
  generalize w.alloc _ = w1
  intro PN EN K1 Z1
  have e0 := PN.c0
  have e1 := PN.c1
  have e2 := PN.c2
  have e3 := PN.c3
  have e4 := PN.c4
  have e5 := PN.c5
  have e6 := PN.c6
  have e7 := PN.c7
  have HPN := Lib.hid PN
  have HEN := Lib.hid EN
  clear PN EN
  by_cases h0 : chkI m = 0
  case neg =>
    have er : l = [] := by rw [← hl]; unfold orA; rw [if_neg h0]
    subst er
    generalize hq : chkI m = q at *
    have HQ := Lib.hid hq
    have hne : (q != 0) = true := by simpa using h0
    clear hl h0 hq
    go_wp2_with fail
    refine (Check_any HEN.out HPN.out.in' HW.out).mono ?_
    rw [HQ.out]
    rintro e w2 ⟨rfl, k2⟩
    go_wp2
    go_ret
    exact ⟨_, rfl, nin_nil _, K1.trans k2⟩
  case pos =>
  have HQ := Lib.hid h0
  have er : orderL m = l := by rw [← hl]; unfold orA; rw [if_pos h0]
  obtain ⟨hlo, hmay, hac⟩ := chkI_zero.1 h0
  have HF := Lib.hid hmay.fns
  have HI := Lib.hid hmay.ins
  have HA := Lib.hid hac
  have hn64 : m.funcs.length ≤ 64 := by unfold Long Large at hlo; omega
  have HR := Lib.hid er
  clear hl er h0 hlo hmay hac
  go_wp2_with fail
  refine (Check_any HEN.out HPN.out.in' HW.out).mono ?_
  rw [HQ.out]
  rintro e w2 ⟨rfl, k2⟩
  have z2 : p < w2.heap.size := Nat.lt_of_lt_of_le Z1 k2.size
  have HP2 := Lib.hid (HPN.out.kp k2)
  have HE2 := Lib.hid (HEN.out.kept k2)
  have K2 := Lib.hid (K1.trans k2)
  have d0 := HP2.out.c0
  have d1 := HP2.out.c1
  clear k2 e0 e1 e2 e3 e4 e5 e6 e7 K1
  go_wp2_with (go_at_call 26; refine (order_any HP2.out HW.out HF.out HI.out hn64 HA.out).mono ?_; rintro e w4 ⟨v, rfl, hv, k4⟩)
  go_ret
  rw [HR.out] at hv
  exact ⟨_, rfl, hv, K2.out.trans k4⟩
end Im
end Go.Proofs.YtaeblnlbelebkaaDoor
