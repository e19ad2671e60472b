/-
  WALKS: List of package lines; first and lives of the statements. Own work.
-/
import Derived.Test.YtlhbpklilfabnaaDoorLinRow
import Derived.Test.YtlhbpklilfabnaaDoorLinTaken
import Derived.Laws.OwnMore
import Derived.OwnWalk
namespace Go.Proofs.YtlhbpklilfabnaaDoor
namespace Ln
open Go.RowKit Go
set_option linter.unusedVariables false

theorem info_int : (Tryd.prog.info? 3).map (fun i => (i.zero, i.size, i.bytes)) = some (some (.int .i64 0), 1, 8) := by kernel_rfl
/-- What is made of a row of lines: the numbers of a list. -/
def vls (l : List Nat) : List Value := l.map fun (i : Nat) => Value.int .i64 (i : Int)
theorem vls_snoc (l : List Nat) (i : Nat) : vls (l ++ [i]) = vls l ++ [.int .i64 (i : Int)] := by unfold vls; simp
theorem vls_length (l : List Nat) : (vls l).length = l.length := by unfold vls; simp
/-- The call has returned the lines of a set, in memory of their own. -/
def Lst (w : World) (s : Int) (e : Ending) (w' : World) : Prop := ∃ (ao : Option Addr) (cap : Nat), e = .returned (.slice ao (linesOf s).length cap) ∧ IIn w' ao (lnF s) (linesOf s).length ∧ Kp w w'
theorem lst_of {w w' : World} {s : Int} {B : Nat} {v : Value} (hown : w'.ownsRow B 3 1 v (linesOf s).length (vls (linesOf s))) (hk : Kp w w') : Lst w s (.returned v) w' := by
  rcases hown.2 with ⟨rfl, h0⟩ | ⟨g, cap, cur, rfl, hg, hh, h1, h2, h3, h4⟩
  · exact ⟨none, 0, by rw [h0], .inl h0, hk⟩
  · refine ⟨some ⟨g, 0, none⟩, cap, rfl, .inr ⟨g, 0, rfl, (Array.getElem?_eq_some_iff.1 hh).1, fun i hi => ?_⟩, hk⟩
    rw [Nat.zero_add, hown.cellAt i (by omega)]
    unfold vls lnF
    rw [List.getElem?_map, List.getD, List.getElem?_eq_getElem hi]; rfl

set_option maxHeartbeats 800000 in
theorem list_any (s0 : Int) (w : World) (h0 : 0 ≤ s0) (h1 : s0 < 4294967296) (hT : TabIn w) :
    Calls Tryd.prog 21 #[.int .u32 s0] w (Lst w s0) := by
  obtain ⟨i0, hi, hz0, hz1, hz2⟩ := info_parts info_int
  have HT := Lib.hid hT
  clear hT
  go_enter Tryd.func21, Tryd.ntmps21
  go_wp2
  go_loopw [0, 3] (fun s v wr => ∃ (S : Int) (acc : List Nat), s = .int .u32 S ∧ 0 ≤ S ∧ S < 4294967296 ∧ wr.ownsRow w.heap.size 3 1 v acc.length (vls acc) ∧ acc ++ linesOf S = linesOf s0 ∧ Kp w wr) (fun s _ _ => (intOf s).toNat)
  case atStart => exact ⟨s0, [], rfl, h0, h1, World.ownsRow_nil _ _ _ _, rfl, Kp.refl _⟩
  case round =>
    obtain ⟨S, acc, rfl, hS0, hS1, hown, hacc, hkp⟩ := hrel
    have HC := Lib.hid hacc
    clear hacc
    have hal : acc.length ≤ 32 := by have := congrArg List.length HC.out; rw [List.length_append] at this; have := linesOf_le s0; omega
    by_cases hS : 0 < S
    · have hne : (S != 0) = true := by simp; omega
      have hlb := low_bd hS hS1
      obtain ⟨hl0, hl1⟩ := hlb
      have hrb := rest_bd hS hS1
      obtain ⟨hr0, hr1⟩ := hrb
      have HT2 := Lib.hid (HT.out.kp hkp)
      go_wp2_with (first | (go_at_call 31; refine (lowest_any S _ hS hS1 HT2.out).mono ?_; rintro e w' ⟨rfl, rfl⟩) | (go_at_call 30; refine (rest_any S _ hS hS1).mono ?_; rintro e w' ⟨rfl, rfl⟩) | (at_builtin; refine wpList_append_own _ rfl _ _ 36 rfl w.heap.size 3 i0 (.int .i64 0) 1 8 Tryd.underlying36 hi hz0 hz1 hz2 rfl (by decide) _ _ _ rfl (hown.alloc _) ⟨wr.heap.size, 0, none⟩ 1 1 [.int .i64 (low S)] rfl rfl ?c1 ?c2 ?c3 ?c4 ?c5 ?_))
      case c1 =>
        intro j u hj
        match j, hj with
        | 0, hj => simp at hj; subst hj; simp [Addr.add]
      case c2 => intro u hu; simp at hu; subst hu; rfl
      case c3 => unfold maxLen; omega
      case c4 => omega
      case c5 => have := hkp.size; simp; omega
      intro v' w1 hown' hgrow _
      have hk1 : Kp w w1 := ⟨(hkp.alloc _ _).below.grown hgrow (by have := hkp.size; simp; omega) (fun k hk => (hown.lt k hk).1)⟩
      have hown2 : w1.ownsRow w.heap.size 3 1 v' (acc ++ [(low S).toNat]).length (vls (acc ++ [(low S).toNat])) := by
        rw [vls_snoc, List.length_append, show (((low S).toNat : Nat) : Int) = low S by omega]; exact hown'
      clear hown' hgrow hown
      go_wp2_with (go_at_call 30; refine (rest_any S _ hS hS1).mono ?_; rintro e w' ⟨rfl, rfl⟩)
      go_roundw
      case rel => exact ⟨rest S, acc ++ [(low S).toNat], rfl, hr0, by omega, hown2, by rw [List.append_assoc]; show acc ++ ((low S).toNat :: linesOf (rest S)) = _; rw [← linesOf_low hS hS1]; exact HC.out, hk1⟩
      case measure => simp [intOf]; omega
    · obtain rfl : S = 0 := by omega
      go_wp2
      go_ret
      have e := HC.out
      rw [linesOf_zero, List.append_nil] at e
      exact lst_of (B := w.heap.size) (by rw [← e]; exact hown) hkp

/-- The chapter's vectors. -/
def fst3 : Nat → Vc
  | 0 => ⟨3, 2, 0⟩
  | 1 => ⟨5, 4, 0⟩
  | _ => ⟨1, 4, 0⟩
theorem first_any (w : World) : Calls Tryd.prog 10 #[] w fun e w' => e = .returned (.slice (some ⟨w.heap.size, 0, none⟩) 3 3) ∧ w' = w.alloc (.cells #[.int .i64 3, .int .i64 2, .int .i64 0, .int .i64 5, .int .i64 4, .int .i64 0, .int .i64 1, .int .i64 4, .int .i64 0] 35) := by
  go_enter Tryd.func10, Tryd.ntmps10
  go_wp2
  go_ret
  exact ⟨rfl, rfl⟩
theorem fst_in (w : World) : VIn (w.alloc (.cells #[.int .i64 3, .int .i64 2, .int .i64 0, .int .i64 5, .int .i64 4, .int .i64 0, .int .i64 1, .int .i64 4, .int .i64 0] 35)) (some ⟨w.heap.size, 0, none⟩) fst3 3 := by
  refine .inr ⟨_, _, rfl, by simp, ?_, ?_, ?_⟩
  all_goals
    intro i hi
    match i, hi with
    | 0, _ => simp [fst3]
    | 1, _ => simp [fst3]
    | 2, _ => simp [fst3]
/-- .. in whatever later world. -/
theorem first_in {w0 w : World} (hk : Kp w0 w) : Calls Tryd.prog 10 #[] w fun e w' => e = .returned (.slice (some ⟨w.heap.size, 0, none⟩) 3 3) ∧ VIn w' (some ⟨w.heap.size, 0, none⟩) fst3 3 ∧ Kp w0 w' :=
  (first_any w).mono fun e w' ⟨he, hw⟩ => ⟨he, by rw [hw]; exact fst_in w, by rw [hw]; exact hk.alloc _ _⟩
theorem take_c {w0 w : World} (hk : Kp w0 w) (p e lv ac : Int) (ao : Option Addr) (n cap : Nat) (vs : Nat → Vc) (hv : VIn w ao vs n) (hn : n ≤ maxLen) (hp : 0 ≤ p) (hp' : p < 4294967296) (he : 0 ≤ e) (he' : e < 4294967296) (i : Int) (b : Bool)
    (hi : oi (tk p e lv ac vs n) = i) (hb : ob (tk p e lv ac vs n) = b) :
    Calls Tryd.prog 15 #[.int .u32 p, .int .u32 e, .int .i64 lv, .int .i64 ac, .slice ao n cap] w fun e' w' => e' = .returned (.tuple #[.int .i64 i, .bool b]) ∧ Kp w0 w' :=
  (take_any p e lv ac ao n cap vs w hv hn hp hp' he he').mono fun _ _ ⟨h, k⟩ => ⟨by rw [h, hi, hb], hk.trans k⟩
def three : Nat → Int
  | 0 => 1
  | 1 => 3
  | _ => 5
theorem lines42 : linesOf 42 = [1, 3, 5] := by decide
theorem three_in (w : World) : IIn (w.alloc (.cells #[.int .i64 1, .int .i64 3, .int .i64 5] 3)) (some ⟨w.heap.size, 0, none⟩) three 3 := by
  refine .inr ⟨_, _, rfl, by simp, ?_⟩
  intro i hi
  match i, hi with
  | 0, _ => simp [three]
  | 1, _ => simp [three]
  | 2, _ => simp [three]

set_option maxHeartbeats 400000 in
theorem lives_yes {w0 w : World} (hk : Kp w0 w) (hT : TabIn w0) : Calls Tryd.prog 11 #[] w fun e w' => e = .returned (.bool true) ∧ Kp w0 w' := by
  have HT := Lib.hid hT
  clear hT
  go_enter Tryd.func11, Tryd.ntmps11
  go_wp2_with fail
  refine (first_in hk).mono ?_
  rintro e w1 ⟨rfl, v1, h1⟩
  have V1 := Lib.hid v1
  clear v1
  go_wp2_with fail
  refine (take_c h1 42 42 0 0 _ 3 3 fst3 V1.out (by decide) (by decide) (by decide) (by decide) (by decide) 2 true (by decide +kernel) (by decide +kernel)).mono ?_
  rintro e w2 ⟨rfl, h2⟩
  go_wp2_with fail
  refine (first_in h2).mono ?_
  rintro e w3 ⟨rfl, v3, h3⟩
  have V3 := Lib.hid v3
  clear v3
  go_wp2_with fail
  refine (take_c h3 42 42 0 4 _ 3 3 fst3 V3.out (by decide) (by decide) (by decide) (by decide) (by decide) 0 false (by decide +kernel) (by decide +kernel)).mono ?_
  rintro e w4 ⟨rfl, h4⟩
  go_wp2_with fail
  refine (first_in h4).mono ?_
  rintro e w5 ⟨rfl, v5, h5⟩
  have V5 := Lib.hid v5
  clear v5
  go_wp2_with fail
  refine (take_c h5 42 42 3 2 _ 3 3 fst3 V5.out (by decide) (by decide) (by decide) (by decide) (by decide) 2 true (by decide +kernel) (by decide +kernel)).mono ?_
  rintro e w6 ⟨rfl, h6⟩
  go_wp2_with fail
  refine (list_any 42 _ (by decide) (by decide) (HT.out.kp h6)).mono ?_
  rintro e w7 ⟨ao, cap, rfl, hl, h7⟩
  rw [lines42] at hl
  have HL := Lib.hid hl
  clear hl
  have el : (linesOf 42).length = 3 := by rw [lines42]; rfl
  rw [el]
  clear el
  go_wp2_with fail
  refine (ints_any ao (some ⟨w7.heap.size, 0, none⟩) 3 3 cap 3 (lnF 42) three _ (HL.out.kp ((Kp.refl w7).alloc _ _)) (three_in w7) (by decide) (by decide)).mono ?_
  rintro e w8 ⟨rfl, h8⟩
  have ee : eqI (lnF 42) 3 three 3 = true := eqI_yes (by
    intro i hi
    match i, hi with
    | 0, _ => unfold lnF; rw [lines42]; rfl
    | 1, _ => unfold lnF; rw [lines42]; rfl
    | 2, _ => unfold lnF; rw [lines42]; rfl)
  rw [ee]
  clear ee
  go_wp2
  go_ret
  exact ⟨rfl, ((h6.trans h7).alloc _ _).trans h8⟩
end Ln
end Go.Proofs.YtlhbpklilfabnaaDoor
