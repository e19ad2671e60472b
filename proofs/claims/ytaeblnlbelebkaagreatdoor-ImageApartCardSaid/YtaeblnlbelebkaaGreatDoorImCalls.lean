/-
  WALKS: package image, which functions a function calls. Own work.
-/
import Derived.Test.YtaeblnlbelebkaaGreatDoorImIns
import Derived.Test.YtaeblnlbelebkaaGreatDoorImGraph
import Derived.Deep.MidRow
import Derived.Laws.AppendOwn
import Derived.Outline
namespace Go.Proofs.YtaeblnlbelebkaaGreatDoor
namespace Im
open Go.RowKit Go
open Co (Kp ret_int ret_bool ret2_int In in0 IIn Ics Wf)
open Ln (VIn Vcs)
set_option linter.unusedVariables false

theorem info_int : (Tryz.prog.info? 3).map (fun i => (i.zero, i.size, i.bytes)) = some (some (.int .i64 0), 1, 8) := by kernel_rfl
theorem info_set : (Tryz.prog.info? 135).map (·.size) = some 64 := by kernel_rfl
/-- A list of numbers that a call has made. -/
def ints (l : List Nat) : List Value := l.map fun (x : Nat) => Value.int .i64 (x : Int)
theorem ints_len (l : List Nat) : (ints l).length = l.length := by simp [ints]
theorem ints_snoc (l : List Nat) (x : Nat) : ints (l ++ [x]) = ints l ++ [.int .i64 (x : Int)] := by simp [ints]
theorem own_kp {w w' : World} {base : Nat} {e : TypeId} {size : Nat} {v : Value} {n : Nat} {xs : List Value} (h : w.ownsRow base e size v n xs) (k : Kp w w') : w'.ownsRow base e size v n xs := by
  obtain ⟨h1, h2⟩ := h
  refine ⟨h1, ?_⟩
  rcases h2 with h2 | ⟨g, cap, cur, a, b, c, d⟩
  · exact .inl h2
  · refine .inr ⟨g, cap, cur, a, b, ?_, d⟩
    have hg : g < w.heap.size := by
      by_cases hs : g < w.heap.size
      · exact hs
      · rw [Array.getElem?_eq_none (by omega)] at c; cases c
    rw [k.below.block g hg]; exact c
/-- What a call has made, as a slice of ints. -/
def NIn (w : World) (v : Value) (l : List Nat) : Prop := ∃ ao cap, v = .slice ao l.length cap ∧ IIn w ao (fun j => ((l.getD j 0 : Nat) : Int)) l.length ∧ (l.length : Int) ≤ 9223372036854775807
theorem nin_own {w : World} {B : Nat} {T : TypeId} {v : Value} {l : List Nat} (h : w.ownsRow B T 1 v l.length (ints l)) (hl : l.length ≤ 4611686018427387904) : NIn w v l := by
  have h0 := h
  obtain ⟨hlen, ⟨rfl, hn⟩ | ⟨g, cap, cur, rfl, hb, hg, hc⟩⟩ := h
  · refine ⟨none, 0, by rw [hn], .inl hn, by omega⟩
  · refine ⟨some ⟨g, 0, none⟩, cap, rfl, .inr ⟨g, 0, rfl, ?_, ?_⟩, by omega⟩
    · by_cases hs : g < w.heap.size
      · exact hs
      · rw [Array.getElem?_eq_none (by omega)] at hg; cases hg
    · intro i hi
      have := h0.cells (g := g) rfl i (.int .i64 ((l.getD i 0 : Nat) : Int)) (by
        unfold ints
        rw [List.getElem?_map, List.getElem?_eq_getElem hi, List.getD_eq_getElem?_getD, List.getElem?_eq_getElem hi]
        rfl)
      rw [← this]
      congr 1
      unfold Addr.add
      split <;> simp_all
theorem NIn.kp {w w' : World} {v : Value} {l : List Nat} (h : NIn w v l) (k : Kp w w') : NIn w' v l := by
  obtain ⟨ao, cap, e, hi, hb⟩ := h
  exact ⟨ao, cap, e, hi.kp k, hb⟩

/-- An array of 64 bools, as a value. -/
def row64 (c : Nat → Bool) : List Value := (List.range 64).map fun g => Value.bool (c g)
theorem row64_at (c : Nat → Bool) {k : Nat} (h : k < 64) : (row64 c)[k]? = some (.bool (c k)) := by
  unfold row64
  rw [List.getElem?_map, List.getElem?_range h]
  rfl
theorem ix_set (c : Nat → Bool) (k : Nat) (h : k < 64) (W : World) : (Instr.index 135 (.agg (row64 c).toArray) (.int .i64 (k : Int))).run Tryz.prog W = .ok (.bool (c k)) W := by
  have hu := Tryz.underlying135
  have ha := row64_at c h
  have hs : (sizeOf 4).run Tryz.prog W = .ok 1 W := by kernel_rfl
  have hg : (isAgg 4).run Tryz.prog W = .ok false W := by kernel_rfl
  have h0 : (0 : Int) ≤ k ∧ (k : Int) < 64 := by omega
  have hp : ∀ cs : Array Value, cs[k]? = some (.bool (c k)) → (part 4 cs (k * 1)).run Tryz.prog W = .ok (.bool (c k)) W := by
    intro cs hc
    unfold part
    simp [Sem.run_bind, hg, hc, go_sem]
  simp [Instr.index, asIntOf, run_underlying hu, Sem.run_bind, hs, h0, go_sem]
  rw [if_pos h, ha]
  rfl
/-- What a call answers that makes a list of numbers. -/
def MkN (w : World) (l : List Nat) (e : Ending) (w' : World) : Prop := ∃ v, e = .returned v ∧ NIn w' v l ∧ Kp w w' ∧ ∀ b, v.ownBlock = some b → w.heap.size ≤ b
/-- A set of functions in memory. -/
structure SetIn (w : World) (S : Nat) (c : Nat → Bool) : Prop where
  size : S < w.heap.size
  at' : ∀ g, g < 64 → w.cell? ⟨S, g, none⟩ = some (.bool (c g))
  fro : ∀ g, w.frozen? ⟨S, g, none⟩ = false
theorem SetIn.kp {w w' : World} {S : Nat} {c : Nat → Bool} (h : SetIn w S c) (k : Kp w w') : SetIn w' S c :=
  ⟨Nat.lt_of_lt_of_le h.size k.size, fun g hg => (k.cells _ _ h.size).trans (h.at' g hg), fun g => (k.fros _ _ h.size).trans (h.fro g)⟩
theorem SetIn.ext {w : World} {S : Nat} {c d : Nat → Bool} (h : SetIn w S c) (e : ∀ g, c g = d g) : SetIn w S d := ⟨h.size, fun g hg => by rw [h.at' g hg, e g], h.fro⟩
theorem SetIn.set {w : World} {S : Nat} {c : Nat → Bool} (h : SetIn w S c) {g : Nat} (hg : g < 64) (b : Bool) : SetIn (w.setCell ⟨S, g, none⟩ (.bool b)) S (fun x => if x = g then b else c x) where
  size := by simpa using h.size
  at' := fun x hx => by
    by_cases e : x = g
    · subst e; rw [if_pos rfl]; exact World.cell?_setCell_same _ _ _ (h.at' x hx)
    · rw [if_neg e]
      exact (World.cell?_setCell_other _ _ _ _ (fun e' => e (by have := congrArg Addr.off e'; simpa using this.symm))).trans (h.at' x hx)
  fro := fun x => by rw [World.frozen?_setCell]; exact h.fro x
def z64 : Array Value := (List.replicate 64 (Value.bool false)).toArray
theorem set_new (w : World) : SetIn (w.alloc (.cells z64 135)) w.heap.size (fun _ => false) where
  size := by simp
  at' := fun g hg => by
    rw [new_alloc (Kp.refl _) g]
    unfold z64
    rw [List.getElem?_toArray, List.getElem?_replicate, if_pos hg]
  fro := fun g => by simp
theorem filter_next (c : Nat → Bool) (k : Nat) : (List.range (k + 1)).filter c = (List.range k).filter c ++ (if c k then [k] else []) := by
  rw [List.range_succ, List.filter_append]
  congr 1
  cases h : c k <;> simp [h]
set_option maxHeartbeats 4000000 in
set_option maxRecDepth 100000 in
theorem calls_any {w : World} {p : Nat} {h : Hd} {m : Im} (hP : Ptr w p h m) (hW : ImWf m) (hF : FnsB m) (hI : InsB m) (hn : m.funcs.length ≤ 64) (f : Nat) (hf : f < m.funcs.length) :
    Calls Tryz.prog 54 #[.pointer (some ⟨p, 0, none⟩), .int .i64 f] w (MkN w (callsOf m f)) := by
  have nC := hW.nC
  have hsz := hP.size
  have c0 := hP.c0
  obtain ⟨bC, oC, hao, hC⟩ := hP.in'.code.at hF.code_pos
  rw [hao] at c0
  have hcap := hP.in'.cap
  have hcapm := hP.in'.capm
  obtain ⟨A, B, hA, hB, hAB, hBn⟩ := hF.nat hf
  have HOK : Hid (∀ j, j < B - A → InsOk m f (m.ins (A + j))) := Lib.hid (fun j hj => by
    have := hI f hf j (by rw [hA, hB]; omega)
    rwa [hA, Int.toNat_natCast] at this)
  have HCA : Hid (∀ j g, callsAt m f j g = (decide ((m.ins (A + j)).op = 17) && decide ((m.ins (A + j)).a = (g : Int)))) := Lib.hid (fun j g => by unfold callsAt; rw [hA, Int.toNat_natCast])
  have HEND : Hid (marked m f (B - A) = callsB m f) := Lib.hid (by
    funext g
    unfold callsB
    rw [hA, hB, show ((B : Int) - (A : Int)).toNat = B - A by omega])
  have HA := Lib.hid hA
  have HB := Lib.hid hB
  have HP := Lib.hid hP
  have HW := Lib.hid hW
  have HC := Lib.hid hC
  have a3 : (A : Int) ≤ B := by omega
  have a4 : (B : Int) ≤ h.cC := by omega
  have a5 : (A : Int) < h.cC := by omega
  have a6 : ((B - A : Nat) : Int) ≤ 9223372036854775807 := by omega
  have K1 : Kp w (w.alloc (.cells #[.bool false, .bool false, .bool false, .bool false, .bool false, .bool false, .bool false, .bool false, .bool false, .bool false, .bool false, .bool false, .bool false, .bool false, .bool false, .bool false, .bool false, .bool false, .bool false, .bool false, .bool false, .bool false, .bool false, .bool false, .bool false, .bool false, .bool false, .bool false, .bool false, .bool false, .bool false, .bool false, .bool false, .bool false, .bool false, .bool false, .bool false, .bool false, .bool false, .bool false, .bool false, .bool false, .bool false, .bool false, .bool false, .bool false, .bool false, .bool false, .bool false, .bool false, .bool false, .bool false, .bool false, .bool false, .bool false, .bool false, .bool false, .bool false, .bool false, .bool false, .bool false, .bool false, .bool false, .bool false] 135)) := (Kp.refl w).alloc _ _
  have S1 : SetIn (w.alloc (.cells #[.bool false, .bool false, .bool false, .bool false, .bool false, .bool false, .bool false, .bool false, .bool false, .bool false, .bool false, .bool false, .bool false, .bool false, .bool false, .bool false, .bool false, .bool false, .bool false, .bool false, .bool false, .bool false, .bool false, .bool false, .bool false, .bool false, .bool false, .bool false, .bool false, .bool false, .bool false, .bool false, .bool false, .bool false, .bool false, .bool false, .bool false, .bool false, .bool false, .bool false, .bool false, .bool false, .bool false, .bool false, .bool false, .bool false, .bool false, .bool false, .bool false, .bool false, .bool false, .bool false, .bool false, .bool false, .bool false, .bool false, .bool false, .bool false, .bool false, .bool false, .bool false, .bool false, .bool false, .bool false] 135)) w.heap.size (fun _ => false) := set_new w
  clear hA hB hP hW hF hI hao hC
  go_enter Tryz.func54, Tryz.ntmps54
  go_wp2_with fail
  revert K1 S1
  generalize w.alloc (.cells #[.bool false, .bool false, .bool false, .bool false, .bool false, .bool false, .bool false, .bool false, .bool false, .bool false, .bool false, .bool false, .bool false, .bool false, .bool false, .bool false, .bool false, .bool false, .bool false, .bool false, .bool false, .bool false, .bool false, .bool false, .bool false, .bool false, .bool false, .bool false, .bool false, .bool false, .bool false, .bool false, .bool false, .bool false, .bool false, .bool false, .bool false, .bool false, .bool false, .bool false, .bool false, .bool false, .bool false, .bool false, .bool false, .bool false, .bool false, .bool false, .bool false, .bool false, .bool false, .bool false, .bool false, .bool false, .bool false, .bool false, .bool false, .bool false, .bool false, .bool false, .bool false, .bool false, .bool false, .bool false] 135) = w1
  intro K1 S1
  refine (bounds_any (HP.out.kp K1) HW.out f hf (A : Int) (B : Int) HA.out HB.out).mono ?_
  rintro e w2 ⟨rfl, rfl⟩
  have p0 : w1.cell? ⟨p, 0, none⟩ = some (.slice (some ⟨bC, oC, none⟩) m.code.length h.cC) := (K1.cells _ _ hsz).trans c0
  have hp1 : p < w1.heap.size := Nat.lt_of_lt_of_le hsz K1.size
  go_wp2
  clear c0 p0 a3 a4 a5
  go_loopw [27] (fun i wr => ∃ j : Nat, j ≤ B - A ∧ i = .int .i64 j ∧ SetIn wr w.heap.size (marked m f j) ∧ Kp w wr) (fun i _ => B - A - (intOf i).toNat)
  case atStart => exact ⟨0, Nat.zero_le _, rfl, S1.ext (fun g => rfl), K1⟩
  case round =>
    obtain ⟨j, hj, rfl, hS, kr⟩ := hrel
    by_cases hjt : j < B - A
    · have hlen : A + j < m.code.length := by omega
      have hCr := HC.out.kp kr
      have ad : oC + (A + j) * 4 = oC + A * 4 + j * 4 := by omega
      have x0 := hCr.o (A + j) hlen
      have x1 := hCr.a (A + j) hlen
      have x2 := hCr.b' (A + j) hlen
      have x3 := hCr.c (A + j) hlen
      rw [ad] at x0 x1 x2 x3
      have hbr := hCr.size
      have hok := HOK.out j hjt
      have hca := HCA.out j
      have hins : m.ins (A + j) = m.code.getD (A + j) in0 := rfl
      rw [hins] at hok hca
      generalize m.code.getD (A + j) in0 = I at *
      obtain ⟨op, x, y, z⟩ := I
      simp only at x0 x1 x2 x3 hca
      by_cases ho : op = 17
      · subst ho
        have hfi := hok.finds
        unfold Finds at hfi
        simp at hfi
        obtain ⟨f0, f1⟩ := hfi
        obtain ⟨g, rfl⟩ := Int.eq_ofNat_of_zero_le f0
        have hg : g < 64 := by omega
        have g0 : (0 : Int) ≤ (g : Int) := by omega
        have g1 : (g : Int) < 64 := by omega
        have hcell := hS.at' g hg
        have hfro := hS.fro g
        have hss := hS.size
        have NS : Hid (∀ W, W = (wr.setCell ⟨w.heap.size, g, none⟩ (.bool true)).alloc (.cells #[.int .i64 17, .int .i64 (g : Int), .int .i64 y, .int .i64 z] 55) → SetIn W w.heap.size (marked m f (j + 1)) ∧ Kp w W) := Lib.hid (by
          rintro W rfl
          refine ⟨((hS.set hg true).kp ((Kp.refl _).alloc _ _)).ext fun x => ?_, (kr.setCell (Nat.le_refl _) _).alloc _ _⟩
          have hx := hca x
          simp only [marked]
          rw [hx]
          by_cases e : x = g
          · subst e; simp
          · rw [if_neg e]; simp; omega)
        clear hCr hok hca hins ad hS kr f0 f1
        generalize marked m f j g = bb at *
        go_wp2
        go_roundw
        case rel => exact ⟨j + 1, by omega, by go_num, (NS.out _ rfl).1, (NS.out _ rfl).2⟩
        case measure => simp [intOf]; omega
      · have b17 : (op == 17) = false := by rw [beq_eq_false_iff_ne]; exact ho
        have NS : Hid (SetIn (wr.alloc (.cells #[.int .i64 op, .int .i64 x, .int .i64 y, .int .i64 z] 55)) w.heap.size (marked m f (j + 1)) ∧ Kp w (wr.alloc (.cells #[.int .i64 op, .int .i64 x, .int .i64 y, .int .i64 z] 55))) := Lib.hid (by
          refine ⟨(hS.kp ((Kp.refl wr).alloc _ _)).ext fun g => ?_, kr.alloc _ _⟩
          have hx := hca g
          simp only [marked]
          rw [hx]
          simp [ho])
        clear hCr hok hca hins ad hS kr ho
        go_wp2
        go_roundw
        case rel => exact ⟨j + 1, by omega, by go_num, NS.out.1, NS.out.2⟩
        case measure => simp [intOf]; omega
    · obtain rfl : j = B - A := by omega
      obtain ⟨i0, hi, hz0, hz1, hz2⟩ := info_parts info_int
      rw [HEND.out] at hS
      have HRA : Hid (wr.rangeAt w.heap.size 0 (row64 (callsB m f))) := Lib.hid (fun q v hv => by
        rw [Nat.zero_add]
        by_cases hq : q < 64
        · rw [row64_at _ hq] at hv
          rw [hS.at' q hq]; exact hv
        · rw [List.getElem?_eq_none (by unfold row64; simp; omega)] at hv; cases hv)
      obtain ⟨CS, hCS⟩ : ∃ CS, (row64 (callsB m f)).toArray = CS := ⟨_, rfl⟩
      have HIX : Hid (∀ k : Nat, k < 64 → ∀ W, (Instr.index 135 (.agg CS) (.int .i64 (k : Int))).run Tryz.prog W = .ok (.bool (callsB m f k)) W) := Lib.hid (fun k hk W => by rw [← hCS]; exact ix_set _ k hk W)
      have HO : Hid (callsOf m f = (List.range 64).filter (callsB m f)) := rfl
      have HCS := Lib.hid hCS
      clear hS hjt hCS
      go_wp2_with (refine wpList_load_mid rfl 135 (.tmp 5) rfl w.heap.size 0 rfl (row64 (callsB m f)) _ HRA.out Tryz.underlying135 rfl info_set ?_; rw [HCS.out])
      go_loopw [10, 39] (fun v i ws => ∃ k : Nat, k ≤ 64 ∧ i = .int .i64 k ∧ ws.ownsRow w.heap.size 3 1 v ((List.range k).filter (callsB m f)).length (ints ((List.range k).filter (callsB m f))) ∧ Kp w ws) (fun _ i _ => 64 - (intOf i).toNat)
      case atStart => exact ⟨0, by omega, rfl, World.ownsRow_nil _ _ _ _, kr⟩
      case round =>
        obtain ⟨k, hk, rfl, hown, ks⟩ := hrel
        have hle : ((List.range k).filter (callsB m f)).length ≤ k := by
          have := List.length_filter_le (callsB m f) (List.range k)
          rwa [List.length_range] at this
        by_cases hkt : k < 64
        · have hix := HIX.out k hkt
          have hfn := filter_next (callsB m f) k
          generalize hL' : (List.range (k + 1)).filter (callsB m f) = L' at *
          generalize hL : (List.range k).filter (callsB m f) = L at *
          cases hcb : callsB m f k with
          | false =>
            rw [hcb] at hix hfn
            have HF' := Lib.hid hfn
            have HL' := Lib.hid hL'
            clear hfn hL' hL
            go_wp2
            go_roundw
            case rel => exact ⟨k + 1, by omega, by go_num, by rw [HL'.out, HF'.out]; simpa using hown, ks⟩
            case measure => simp [intOf]; omega
          | true =>
            rw [hcb] at hix hfn
            have HF' := Lib.hid hfn
            have HL' := Lib.hid hL'
            clear hfn hL' hL
            go_wp2_with (at_builtin; refine wpList_append_own _ rfl _ _ 50 rfl w.heap.size 3 i0 (.int .i64 0) 1 8 Tryz.underlying50 hi hz0 hz1 hz2 rfl (by decide) _ _ _ rfl (hown.alloc _) ⟨wr.heap.size, 0, none⟩ 1 1 [.int .i64 (k : Int)] rfl rfl ?c1 ?c2 ?c3 ?c4 ?c5 ?_)
            case c2 => rfl
            case c3 => unfold maxLen; omega
            case c4 => omega
            case c5 => have := ks.size; omega
            intro v' w3 hown' hgrow _
            have hk3 : Kp w w3 := ⟨(ks.alloc _ _).below.grown hgrow (by have := ks.size; simp; omega) (fun q hq => (hown.lt q hq).1)⟩
            rw [← ints_snoc] at hown'
            have HOW := Lib.hid hown'
            clear hgrow hown hown'
            go_wp2
            go_roundw
            case rel => exact ⟨k + 1, by omega, by go_num, by rw [HL'.out, HF'.out]; simpa using HOW.out, hk3⟩
            case measure => simp [intOf]; omega
        · obtain rfl : k = 64 := by omega
          rw [← HO.out] at hown
          go_wp2
          go_ret
          exact ⟨_, rfl, nin_own hown (by have := callsOf_len m f; omega), ks, fun b hb => (hown.lt b hb).1⟩
end Im
end Go.Proofs.YtaeblnlbelebkaaGreatDoor
