/-
  WALKS: package image, the list of sections that a reader takes. Own work.
-/
import Derived.Test.YtaeblnlbelebkaaGreatDoorImLists
import Derived.Maps.AppendAt
namespace Go.Proofs.YtaeblnlbelebkaaGreatDoor
namespace Im
open Go.RowKit Go
open Co (Kp ret_int ret_bool ret2_int In in0 IIn Ics Wf)
open Ln (VIn Vcs)
set_option linter.unusedVariables false

theorem info_lst : (Tryz.prog.info? 50).map (fun i => (i.zero, i.size, i.bytes)) = some (some (.slice none 0 0), 1, 24) := by kernel_rfl
theorem flat_one (L : List Int) : L.flatMap celI = L.map fun x => Value.int .i64 x := by
  unfold celI
  rw [List.map_eq_flatMap]
/-- A slice of numbers that a call has made: from block lo on, and not in block ov. -/
def InA (w : World) (lo : Nat) (v : Value) (L : List Int) (ov : Option Nat) : Prop := ∃ ao cap, v = .slice ao L.length cap ∧ IIn w ao (fun j => L.getD j 0) L.length ∧ ∀ a, ao = some a → 0 < L.length → lo ≤ a.block ∧ ov ≠ some a.block
theorem ina_own {w : World} {B : Nat} {T : TypeId} {v : Value} {n : Nat} {L : List Int} (h : w.ownsRow B T 1 v n (L.flatMap celI)) (lo : Nat) (hlo : lo ≤ B) (ov : Option Nat) (hov : ∀ b, ov = some b → b < B) : InA w lo v L ov := by
  have hn : n = L.length := by
    have := h.1
    rw [flat_one] at this
    simpa using this.symm
  subst hn
  have h0 := h
  obtain ⟨hlen, ⟨rfl, hn⟩ | ⟨g, cap, cur, rfl, hb, hg, hc⟩⟩ := h
  · exact ⟨none, 0, by rw [hn], .inl hn, fun a e => by cases e⟩
  · refine ⟨some ⟨g, 0, none⟩, cap, rfl, .inr ⟨g, 0, rfl, ?_, ?_⟩, fun a e _ => ?_⟩
    · by_cases hs : g < w.heap.size
      · exact hs
      · rw [Array.getElem?_eq_none (by omega)] at hg; cases hg
    · intro i hi
      have := h0.cells (g := g) rfl i (.int .i64 (L.getD i 0)) (by
        rw [flat_one, List.getElem?_map, List.getElem?_eq_getElem hi, List.getD_eq_getElem?_getD, List.getElem?_eq_getElem hi]
        rfl)
      rw [← this]
      congr 1
      unfold Addr.add
      split <;> simp_all
    · cases e
      exact ⟨by show lo ≤ g; omega, fun e => by have := hov g e; omega⟩
theorem InA.gx {w w' : World} {lo R : Nat} {v : Value} {L : List Int} {ov : Option Nat} (h : InA w lo v L ov) (k : Gx R w w') (hR : R < lo) : InA w' lo v L ov := by
  obtain ⟨ao, cap, e, hi, hb⟩ := h
  refine ⟨ao, cap, e, ?_, hb⟩
  by_cases hz : L.length = 0
  · exact .inl hz
  · rcases hi with hi | ⟨b, off, e1, g⟩
    · exact .inl hi
    · have := (hb _ e1 (by omega)).1
      exact .inr ⟨b, off, e1, Nat.lt_of_lt_of_le g.size k.size, fun i hi => (k.cell g.size (by have : lo ≤ b := this; omega)).trans (g.at' i hi)⟩
/-- The outer row has grown. -/
theorem InA.grown {w w' : World} {lo : Nat} {v u u' : Value} {L : List Int} (h : InA w lo v L u.ownBlock) {x : Value} {T : TypeId} (hg : (w.alloc (.cells #[x] T)).grownBy w' u.ownBlock) (hat : u'.ownBlock = u.ownBlock ∨ u'.ownBlock = some (w.heap.size + 1)) : InA w' lo v L u'.ownBlock := by
  obtain ⟨ao, cap, e, hi, hb⟩ := h
  by_cases hz : L.length = 0
  · exact ⟨ao, cap, e, .inl hz, fun a _ h0 => by omega⟩
  · rcases hi with hi | ⟨b, off, e1, g⟩
    · exact absurd hi hz
    · have hbb := hb _ e1 (by omega)
      have hgs : b < w.heap.size := g.size
      refine ⟨ao, cap, e, .inr ⟨b, off, e1, ?_, fun i hi => ?_⟩, fun a ea _ => ?_⟩
      · have := hg.size; simp at this; omega
      · rw [World.cell?_of_block (w := w.alloc (.cells #[x] T)) (a := ⟨b, off + i, none⟩) (hg.block b (by simp; omega) (fun q => hbb.2 q.symm)), World.cell?_of_block (w := w) (a := ⟨b, off + i, none⟩) (Below.heap_alloc w _ b hgs)]
        exact g.at' i hi
      · rw [e1] at ea
        obtain rfl := Option.some.inj ea
        refine ⟨hbb.1, ?_⟩
        rcases hat with hat | hat
        · rw [hat]; exact hbb.2
        · rw [hat]; simp only [ne_eq, Option.some.injEq]; omega
theorem section_any {w : World} {R : Nat} {s : Rd} (h : RdIn w R s) :
    Calls Tryz.prog 74 #[.pointer (some ⟨R, 0, none⟩)] w (LsP w R 3 1 (liV 4096 nmE s).length ((liV 4096 nmE s).flatMap celI) (liR 4096 nmE s)) := by
  have HL := Lib.hid (listI_any h 4096 (by decide))
  generalize liV 4096 nmE s = L at *
  generalize liR 4096 nmE s = t at *
  clear h
  go_enter Tryz.func74, Tryz.ntmps74
  go_wp2_with fail
  refine HL.out.mono ?_
  rintro e w1 ⟨v, rfl, h1, h2⟩
  go_wp2
  go_ret
  exact ⟨_, rfl, h1, h2⟩
/-- What the list of sections is. -/
structure LaR (w w' : World) (R : Nat) (v : Value) (vs : List Value) (ls : List (List Int)) : Prop where
  own : w'.ownsRow w.heap.size 50 1 v ls.length vs
  each : ∀ i, i < ls.length → InA w' w.heap.size (vs.getD i (.slice none 0 0)) (ls.getD i []) v.ownBlock
def LaP (w : World) (R : Nat) (ls : List (List Int)) (t : Rd) (e : Ending) (w' : World) : Prop := ∃ v vs, e = .returned v ∧ LaR w w' R v vs ls ∧ Rdd w R t w'
theorem LaR.start (w w' : World) (R : Nat) : LaR w w' R (.slice none 0 0) [] [] := ⟨World.ownsRow_nil _ _ _ _, fun i hi => absurd hi (Nat.not_lt_zero _)⟩
theorem LaR.step {w w2 w3 : World} {R : Nat} {u u' x : Value} {vs : List Value} {ls : List (List Int)} {L : List Int} (h : LaR w w2 R u vs ls) (hx : InA w2 w.heap.size x L u.ownBlock)
    (hown : w3.ownsRow w.heap.size 50 1 u' (ls.length + 1) (vs ++ [x])) (hg : (w2.alloc (.cells #[x] 50)).grownBy w3 u.ownBlock) (hat : u'.ownBlock = u.ownBlock ∨ u'.ownBlock = some (w2.heap.size + 1)) : LaR w w3 R u' (vs ++ [x]) (ls ++ [L]) := by
  have hl : vs.length = ls.length := by have := h.own.1; simpa using this
  refine ⟨by rw [List.length_append]; exact hown, fun i hi => ?_⟩
  by_cases e : i < ls.length
  · have := (h.each i e).grown hg hat
    rw [List.getD_eq_getElem?_getD, List.getElem?_append_left (by omega), ← List.getD_eq_getElem?_getD, List.getD_eq_getElem?_getD (l := ls ++ [L]), List.getElem?_append_left e, ← List.getD_eq_getElem?_getD]
    exact this
  · have e' : i = ls.length := by rw [List.length_append] at hi; simp at hi; omega
    subst e'
    have := hx.grown hg hat
    rw [List.getD_eq_getElem?_getD, List.getElem?_append_right (by omega), List.getD_eq_getElem?_getD, List.getElem?_append_right (by omega)]
    simpa [hl] using this
set_option maxHeartbeats 2000000 in
set_option maxRecDepth 100000 in
theorem listA_any {w : World} {R : Nat} {s : Rd} (h : RdIn w R s) (most : Nat) (hm : most ≤ 65536) :
    Calls Tryz.prog 73 #[.pointer (some ⟨R, 0, none⟩), .int .i64 most, .func (.func 74) #[] #[]] w (LaP w R (liV most atE s) (liR most atE s)) := by
  obtain ⟨i0, hi, hz0, hz1, hz2⟩ := info_parts info_lst
  have hsz := h.size
  have HU := Lib.hid (upTo_any h most)
  have hub := upV_bd most s
  have HV : Hid (liV most atE s = lsV atE (upV most s) (upR most s)) := rfl
  have HRR : Hid (liR most atE s = lsR atE (upV most s) (upR most s)) := rfl
  clear h
  go_enter Tryz.func73, Tryz.ntmps73
  go_wp2_with fail
  refine HU.out.mono ?_
  rintro e w1 ⟨rfl, h1⟩
  generalize upV most s = n at *
  generalize upR most s = t at *
  have hn : (n : Int) ≤ 65536 := by omega
  go_wp2
  go_loopw [7, 11] (fun v i wr => ∃ (k : Nat) (vs : List Value), k ≤ n ∧ i = .int .i64 k ∧ Hid (LaR w wr R v vs (lsV atE k t)) ∧ Hid (Rdd w R (lsR atE k t) wr)) (fun _ i _ => n - (intOf i).toNat)
  case atStart => exact ⟨0, [], Nat.zero_le _, rfl, LaR.start _ _ _, h1⟩
  case round =>
    obtain ⟨k, vs, hk, rfl, hla, hrd⟩ := hrel
    by_cases hlt : k < n
    · have hwz : w.heap.size ≤ wr.heap.size := hrd.out.gx.size
      have HSV := Lib.hid (lsV_snoc atE k t)
      have HSR := Lib.hid (lsR_snoc atE k t)
      have hlen : (lsV atE k t).length = k := lsV_len atE k t
      have HCL := Lib.hid (section_any hrd.out.rd)
      have HXE : Hid (atE.v (lsR atE k t) = liV 4096 nmE (lsR atE k t)) := rfl
      have HRE : Hid (atE.r (lsR atE k t) = liR 4096 nmE (lsR atE k t)) := rfl
      go_wp2_with fail
      refine HCL.out.mono ?_
      rintro e w2 ⟨x, rfl, hox, h2⟩
      have hla2 : LaR w w2 R _ vs (lsV atE k t) := ⟨own_gx hla.out.own h2.gx hsz, fun i hi => (hla.out.each i hi).gx h2.gx hsz⟩
      have hin := ina_own hox w.heap.size hwz _ (fun b hb => (hla.out.own.lt b hb).2)
      have R2 := Lib.hid (hrd.out.trans h2)
      have hw2 : w.heap.size ≤ w2.heap.size := R2.out.gx.size
      have HIN := Lib.hid hin
      obtain ⟨aox, capx, rfl, _, _⟩ := hin
      generalize (liV 4096 nmE (lsR atE k t)).length = lx at *
      have ONE : Hid (∀ u ∈ ([.slice aox lx capx] : List Value), u.oneCell' = true) := Lib.hid (by intro u hu; simp at hu; subst hu; rfl)
      have NEW : Hid (∀ (j : Nat) (u : Value), ([.slice aox lx capx] : List Value)[j]? = some u → (w2.alloc (.cells #[.slice aox lx capx] 50)).cell? ((⟨w2.heap.size, 0, none⟩ : Addr).add j) = some u) := Lib.hid (World.news_of_block (cs := #[.slice aox lx capx]) (t := 50) (fr := (0, 0)) (heap_alloc_new w2 _))
      have own2 := hla2.own
      rw [hlen] at own2
      have HLA := Lib.hid hla2
      clear hox h2 hla2
      go_wp2_with (at_builtin; refine wpList_append_own_at _ rfl _ _ 27 rfl w.heap.size 50 i0 (.slice none 0 0) 1 24 Tryz.underlying27 hi hz0 hz1 hz2 rfl (by decide) _ _ _ rfl (own2.alloc _) ⟨w2.heap.size, 0, none⟩ 1 1 [.slice aox lx capx] rfl rfl NEW.out ONE.out (by unfold maxLen; omega) (by omega) (by simp; omega) ?_)
      intro v' w3 hown' hgrow _ hat
      have R3 := (R2.out.kp ((Kp.refl w2).alloc _ _)).grown hgrow (fun q hq => (own2.lt q hq).1) hsz
      have HL3 := Lib.hid (HLA.out.step HIN.out (by rw [hlen]; exact hown') hgrow (by simpa using hat))
      have HR3 : Hid (Rdd w R (lsR atE (k + 1) t) w3) := Lib.hid (by rw [HSR.out, HRE.out]; exact R3)
      clear hown' hgrow own2 R3 hat
      go_wp2
      go_roundw
      case rel => exact ⟨k + 1, vs ++ [.slice aox lx capx], by omega, by go_num, by rw [HSV.out, HXE.out]; exact HL3.out, HR3.out⟩
      case measure => simp [intOf]; omega
    · obtain rfl : k = n := by omega
      go_wp2
      go_ret
      rw [HV.out, HRR.out]
      exact ⟨_, vs, rfl, hla.out, hrd.out⟩
end Im
end Go.Proofs.YtaeblnlbelebkaaGreatDoor
