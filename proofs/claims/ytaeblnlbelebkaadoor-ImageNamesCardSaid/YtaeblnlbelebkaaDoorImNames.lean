/-
  WALKS: the statement ImageNames. Own work.
-/
import Derived.Test.YtaeblnlbelebkaaDoorImLives
import Derived.Test.YtaeblnlbelebkaaDoorImTexts
import Derived.Test.YtaeblnlbelebkaaDoorImOrder
namespace Go.Proofs.YtaeblnlbelebkaaDoor
namespace Im
open Go.RowKit Go
open Co (Kp ret_int ret_bool ret2_int In in0 IIn Ics Wf bytesOf)
open Ln (VIn Vcs)
set_option linter.unusedVariables false

def imA : Im := ⟨[⟨22, 0, 0, 0⟩, ⟨3, 0, 0, 0⟩], [⟨0, 0, 0⟩], [], 0, [], [], 10, []⟩
def imB : Im := ⟨[⟨22, 0, 0, 0⟩, ⟨17, 0, 0, 0⟩, ⟨1, 0, 0, 0⟩], [⟨0, 0, 0⟩], [], 0, [], [], 10, []⟩
theorem imA_no : chkI imA = 2 := by decide +kernel
theorem imB_no : chkI imB = 13 := by decide +kernel
theorem first_of1 : ofR (ofA firstI 1) = 0 ∧ (ofA firstI 1).isSome = true := by decide +kernel
theorem first_of2 : ofR (ofA firstI 2) = 0 ∧ (ofA firstI 2).isSome = false := by decide +kernel
theorem first_tx : txA firstI = [[112, 116], [104, 97, 108, 116]] := by decide +kernel
theorem first_or : orA firstI = [0] := by decide +kernel
/-- What first answers, written out. -/
def fstV (B : Nat) : Value := .agg #[.slice (some ⟨B, 0, none⟩) 2 2, .slice (some ⟨B + 1, 0, none⟩) 1 1, .slice none 0 0, .int .i64 0, .slice none 0 0, .slice none 0 0, .int .i64 10, .slice none 0 0]
theorem fst_val (B : Nat) : (hdF B).val firstI = .agg #[.slice (some ⟨B, 0, none⟩) 2 2, .slice (some ⟨B + 1, 0, none⟩) 1 1, .slice none 0 0, .int .i64 0, .slice none 0 0, .slice none 0 0, .int .i64 10, .slice none 0 0] := rfl
def cellsF : Nat → Value := fun i => if i = 0 then .int .i64 22 else if i = 4 then .int .i64 1 else .int .i64 0
theorem first_mine {w : World} {B : Nat} (i : ImIn w (hdF B) firstI) (f : ∀ o, w.frozen? ⟨B, o, none⟩ = false) : Mine w B 8 cellsF := by
  rcases i.code with h | ⟨b, off, e, h⟩
  · exact absurd h (by decide)
  · have e' := Option.some.inj e
    obtain ⟨rfl, rfl⟩ : B = b ∧ 0 = off := ⟨congrArg Addr.block e', congrArg Addr.off e'⟩
    refine ⟨h.size, fun j hj => ?_, f⟩
    match j, hj with
    | 0, _ => exact h.o 0 (by decide)
    | 1, _ => exact h.a 0 (by decide)
    | 2, _ => exact h.b' 0 (by decide)
    | 3, _ => exact h.c 0 (by decide)
    | 4, _ => exact h.o 1 (by decide)
    | 5, _ => exact h.a 1 (by decide)
    | 6, _ => exact h.b' 1 (by decide)
    | 7, _ => exact h.c 1 (by decide)
theorem first_funcs {w : World} {B : Nat} (i : ImIn w (hdF B) firstI) : Fcs w (B + 1) 0 [⟨0, 0, 0⟩] := by
  rcases i.funcs with h | ⟨b, off, e, h⟩
  · exact absurd h (by decide)
  · have e' := Option.some.inj e
    obtain ⟨rfl, rfl⟩ : B + 1 = b ∧ 0 = off := ⟨congrArg Addr.block e', congrArg Addr.off e'⟩
    exact h
theorem Fcs.gx {w w' : World} {b off R : Nat} {l : List Fn} (h : Fcs w b off l) (k : Gx R w w') (hR : b ≠ R) : Fcs w' b off l :=
  ⟨Nat.lt_of_lt_of_le h.size k.size, fun i hi => (k.cell h.size hR).trans (h.e i hi), fun i hi => (k.cell h.size hR).trans (h.p i hi), fun i hi => (k.cell h.size hR).trans (h.l' i hi)⟩
theorem one_of {n : Nat} (h : n < 2) : n = 0 ∨ n = 1 := by omega
theorem imA_in {w : World} {B : Nat} {v : Nat → Value} (m : Mine w B 8 v) (h0 : v 0 = .int .i64 22) (h1 : v 1 = .int .i64 0) (h2 : v 2 = .int .i64 0) (h3 : v 3 = .int .i64 0) (h4 : v 4 = .int .i64 3) (h5 : v 5 = .int .i64 0) (h6 : v 6 = .int .i64 0) (h7 : v 7 = .int .i64 0) (f : Fcs w (B + 1) 0 [⟨0, 0, 0⟩]) : ImIn w (hdF B) imA := by
  have c := fun j hj => m.at' j hj
  refine ⟨.inr ⟨B, 0, rfl, m.size, ?_, ?_, ?_, ?_⟩, .inr ⟨B + 1, 0, rfl, f⟩, .inl rfl, .inl rfl, .inl rfl, .inl rfl, Nat.le_refl 2, (by decide : (2 : Nat) ≤ 9223372036854775807)⟩
  · intro i hi
    rcases one_of hi with rfl | rfl
    · have := c 0 (by omega); rw [h0] at this; exact this
    · have := c 4 (by omega); rw [h4] at this; exact this
  · intro i hi
    rcases one_of hi with rfl | rfl
    · have := c 1 (by omega); rw [h1] at this; exact this
    · have := c 5 (by omega); rw [h5] at this; exact this
  · intro i hi
    rcases one_of hi with rfl | rfl
    · have := c 2 (by omega); rw [h2] at this; exact this
    · have := c 6 (by omega); rw [h6] at this; exact this
  · intro i hi
    rcases one_of hi with rfl | rfl
    · have := c 3 (by omega); rw [h3] at this; exact this
    · have := c 7 (by omega); rw [h7] at this; exact this
def hdB (C F : Nat) : Hd := ⟨some ⟨C, 0, none⟩, 3, some ⟨F + 1, 0, none⟩, 1, none, 0, none, 0, none, 0, none, 0⟩
theorem imB_in {w : World} {C F : Nat} (hC : C < w.heap.size) (c : ∀ j, w.cell? ⟨C, j, none⟩ = (#[.int .i64 22, .int .i64 0, .int .i64 0, .int .i64 0, .int .i64 17, .int .i64 0, .int .i64 0, .int .i64 0, .int .i64 1, .int .i64 0, .int .i64 0, .int .i64 0] : Array Value)[j]?) (f : Fcs w (F + 1) 0 [⟨0, 0, 0⟩]) : ImIn w (hdB C F) imB := by
  have three : ∀ {n : Nat}, n < 3 → n = 0 ∨ n = 1 ∨ n = 2 := fun h => by omega
  refine ⟨.inr ⟨C, 0, rfl, hC, ?_, ?_, ?_, ?_⟩, .inr ⟨F + 1, 0, rfl, f⟩, .inl rfl, .inl rfl, .inl rfl, .inl rfl, Nat.le_refl 3, (by decide : (3 : Nat) ≤ 9223372036854775807)⟩
  all_goals
    intro i hi
    rcases three hi with rfl | rfl | rfl <;> exact c _
def vF (B : Nat) : Nat → Value := fun i => if i = 0 then .slice (some ⟨B, 0, none⟩) 2 2 else if i = 1 then .slice (some ⟨B + 1, 0, none⟩) 1 1 else if i = 3 then .int .i64 0 else if i = 6 then .int .i64 10 else .slice none 0 0
theorem vF_at (B : Nat) : ∀ i, i < 8 → (#[.slice (some ⟨B, 0, none⟩) 2 2, .slice (some ⟨B + 1, 0, none⟩) 1 1, .slice none 0 0, .int .i64 0, .slice none 0 0, .slice none 0 0, .int .i64 10, .slice none 0 0] : Array Value)[i]? = some (vF B i) := fun i hi => by
  match i, hi with
  | 0, _ => rfl
  | 1, _ => rfl
  | 2, _ => rfl
  | 3, _ => rfl
  | 4, _ => rfl
  | 5, _ => rfl
  | 6, _ => rfl
  | 7, _ => rfl
theorem two_boxes {w : World} (A B : Nat) : let W := (w.alloc (.cells #[.slice (some ⟨A, 0, none⟩) 2 2, .slice (some ⟨A + 1, 0, none⟩) 1 1, .slice none 0 0, .int .i64 0, .slice none 0 0, .slice none 0 0, .int .i64 10, .slice none 0 0] 29)).alloc (.cells #[.slice (some ⟨B, 0, none⟩) 2 2, .slice (some ⟨B + 1, 0, none⟩) 1 1, .slice none 0 0, .int .i64 0, .slice none 0 0, .slice none 0 0, .int .i64 10, .slice none 0 0] 29)
    Mine W w.heap.size 8 (vF A) ∧ Mine W (w.heap.size + 1) 8 (vF B) ∧ Kp w W := by
  intro W
  refine ⟨(Mine.new w _ _ 8 _ (vF_at A)).kp ((Kp.refl _).alloc _ _), ?_, ((Kp.refl w).alloc _ _).alloc _ _⟩
  have := Mine.new (w.alloc (.cells #[.slice (some ⟨A, 0, none⟩) 2 2, .slice (some ⟨A + 1, 0, none⟩) 1 1, .slice none 0 0, .int .i64 0, .slice none 0 0, .slice none 0 0, .int .i64 10, .slice none 0 0] 29)) _ 29 8 _ (vF_at B)
  simpa using this
/-- The two images that are changed, under way. -/
structure NmS (w w5 : World) (p B1 B2 C : Nat) : Prop where
  pa : Mine w5 p 8 (vF B1)
  pb : Mine w5 (p + 1) 8 (upd (vF B2) 0 (.slice (some ⟨C, 0, none⟩) 3 3))
  ia : ImIn w5 (hdF B1) imA
  ib : ImIn w5 (hdB C B2) imB
  k : Kp w w5
theorem NmS.kp {w w5 w6 : World} {p B1 B2 C : Nat} (h : NmS w w5 p B1 B2 C) (k : Kp w5 w6) : NmS w w6 p B1 B2 C := ⟨h.pa.kp k, h.pb.kp k, h.ia.kp k, h.ib.kp k, h.k.trans k⟩
theorem kp_set {w w' : World} (k : Kp w w') {B : Nat} (hB : w.heap.size ≤ B) (o : Nat) (v : Value) : Kp w (w'.setCell ⟨B, o, none⟩ v) := k.setCell hB v
theorem small_wf {C : List In} {F : List Fn} {st : Int} (hC : C.length ≤ 16384) (hF : F.length ≤ 64) (hw : ∀ i ∈ C, Wf i) : ImWf ⟨C, F, [], 0, [], [], st, []⟩ :=
  wf_mk hC hF (by decide) (by decide) (by decide) (by decide) (fun l hl => by cases hl) hw (fun i => by simp)
theorem imA_wf : ImWf imA := small_wf (by decide) (by decide) (fun i hi => by
  simp only [List.mem_cons, List.not_mem_nil, or_false] at hi
  rcases hi with rfl | rfl <;> (constructor <;> decide))
theorem imB_wf : ImWf imB := small_wf (by decide) (by decide) (fun i hi => by
  simp only [List.mem_cons, List.not_mem_nil, or_false] at hi
  rcases hi with rfl | rfl | rfl <;> (constructor <;> decide))
theorem lit_T (w : World) : SIn (w.alloc (.cells #[.string ⟨#[112, 116]⟩, .string ⟨#[104, 97, 108, 116]⟩] 9)) (some ⟨w.heap.size, 0, none⟩) [[112, 116], [104, 97, 108, 116]] := by
  refine .inr ⟨w.heap.size, 0, rfl, by simp, fun i hi => ?_⟩
  rw [Nat.zero_add, new_alloc (Kp.refl _)]
  rcases one_of hi with rfl | rfl <;> rfl
theorem lit_I (w : World) : IIn (w.alloc (.cells #[.int .i64 0] 3)) (some ⟨w.heap.size, 0, none⟩) (fun j => ([0] : List Int).getD j 0) ([0] : List Int).length := by
  refine .inr ⟨w.heap.size, 0, rfl, ⟨by simp, fun i hi => ?_⟩⟩
  rw [Nat.zero_add, new_alloc (Kp.refl _)]
  obtain rfl : i = 0 := by simp at hi; omega
  rfl
theorem iin_ext {w : World} {ao : Option Addr} (h : IIn w ao (fun j => ((([0] : List Nat).getD j 0 : Nat) : Int)) ([0] : List Nat).length) : IIn w ao (fun j => ([0] : List Int).getD j 0) ([0] : List Int).length := by
  rcases h with h | ⟨b, off, e, g⟩
  · exact .inl h
  · refine .inr ⟨b, off, e, g.size, fun i hi => ?_⟩
    have := g.at' i hi
    obtain rfl : i = 0 := by simp at hi; omega
    exact this
set_option maxHeartbeats 8000000 in
set_option maxRecDepth 100000 in
theorem names_walk (w : World) (hE : Co.Env w) : Calls Tryd.prog 3 #[] w fun e w' => e = .returned (.bool true) ∧ Kp w w' := by
  have HE := Lib.hid hE
  clear hE
  go_enter Tryd.func3, Tryd.ntmps3
  go_wp2_with fail
  refine (first_any _).mono ?_
  rintro e w1 ⟨B1, hB1, rfl, i1, f1, k1⟩
  rw [fst_val]
  go_wp2_with fail
  refine (first_any _).mono ?_
  rintro e w2 ⟨B2, hB2, rfl, i2, f2, k2⟩
  rw [fst_val]
  go_upto_region 2 with (fail)
  have MA := (first_mine i1 f1).kp k2
  have FA := (first_funcs i1).kp k2
  have FB := first_funcs i2
  have hb12 : B1 + 1 < w1.heap.size := (first_funcs i1).size
  have hb2 : B2 + 1 < w2.heap.size := FB.size
  have K2 := Lib.hid (k1.trans k2)
  obtain ⟨PA, PB, K23⟩ := two_boxes (w := w2) B1 B2
  have hz3 : w2.heap.size < ((w2.alloc (.cells #[.slice (some ⟨B1, 0, none⟩) 2 2, .slice (some ⟨B1 + 1, 0, none⟩) 1 1, .slice none 0 0, .int .i64 0, .slice none 0 0, .slice none 0 0, .int .i64 10, .slice none 0 0] 29)).alloc (.cells #[.slice (some ⟨B2, 0, none⟩) 2 2, .slice (some ⟨B2 + 1, 0, none⟩) 1 1, .slice none 0 0, .int .i64 0, .slice none 0 0, .slice none 0 0, .int .i64 10, .slice none 0 0] 29)).heap.size := PA.size
  revert PA PB K23 hz3
  generalize (w2.alloc _).alloc _ = w3
  intro PA PB K23 hz3
  have MA3 := MA.kp K23
  have FA3 := FA.kp K23
  have FB3 := FB.kp K23
  clear MA FA FB i1 i2 f1 f2
  have hw12 := k2.size
  generalize hp : w2.heap.size = p at *
  have x4 := MA3.at' 4 (by omega)
  have x5 := MA3.at' 5 (by omega)
  have x6 := MA3.at' 6 (by omega)
  have x7 := MA3.at' 7 (by omega)
  have y4 := MA3.fro 4
  have y5 := MA3.fro 5
  have y6 := MA3.fro 6
  have y7 := MA3.fro 7
  have xs := MA3.size
  have a0 : w3.cell? ⟨p, 0, none⟩ = some (.slice (some ⟨B1, 0, none⟩) 2 2) := PA.at' 0 (by omega)
  have G4 := Lib.hid ((((Gx.set B1 4 w3 (.int .i64 3)).trans (Gx.set B1 5 _ (.int .i64 0))).trans (Gx.set B1 6 _ (.int .i64 0))).trans (Gx.set B1 7 _ (.int .i64 0)))
  have M4 := Lib.hid ((((MA3.put 4 (by omega) (.int .i64 3)).put 5 (by omega) (.int .i64 0)).put 6 (by omega) (.int .i64 0)).put 7 (by omega) (.int .i64 0))
  have KS4 := Lib.hid (kp_set (kp_set (kp_set (kp_set (K2.out.trans K23) hB1 4 (.int .i64 3)) hB1 5 (.int .i64 0)) hB1 6 (.int .i64 0)) hB1 7 (.int .i64 0))
  clear MA3 K23
  go_upto_region 3 with (fail)
  clear x4 x5 x6 x7 y4 y5 y6 y7 a0
  revert G4 M4 KS4
  generalize (((w3.setCell _ _).setCell _ _).setCell _ _).setCell _ _ = w4
  intro G4 M4 KS4
  have PA4 := PA.gx G4.out (by omega)
  have PB4 := PB.gx G4.out (by omega)
  have FA4 := Fcs.gx FA3 G4.out (by omega)
  have FB4 := Fcs.gx FB3 G4.out (by omega)
  have q0 : w4.cell? ⟨p + 1, 0, none⟩ = some (.slice (some ⟨B2, 0, none⟩) 2 2) := PB4.at' 0 (by omega)
  have q1 := PB4.fro 0
  have q2 := PB4.size
  clear PA PB FA3 FB3
  go_upto_region 4 with (fail)
  have hne1 : B1 ≠ p + 1 := by omega
  have KB := (Kp.refl (w4.setCell ⟨p + 1, 0, none⟩ (.slice (some ⟨w4.heap.size, 0, none⟩) 3 3))).alloc #[.int .i64 22, .int .i64 0, .int .i64 0, .int .i64 0, .int .i64 17, .int .i64 0, .int .i64 0, .int .i64 0, .int .i64 1, .int .i64 0, .int .i64 0, .int .i64 0] 32
  have GP := Gx.set (p + 1) 0 w4 (.slice (some ⟨w4.heap.size, 0, none⟩) 3 3)
  have CB : ∀ j, ((w4.setCell ⟨p + 1, 0, none⟩ (.slice (some ⟨w4.heap.size, 0, none⟩) 3 3)).alloc (.cells #[.int .i64 22, .int .i64 0, .int .i64 0, .int .i64 0, .int .i64 17, .int .i64 0, .int .i64 0, .int .i64 0, .int .i64 1, .int .i64 0, .int .i64 0, .int .i64 0] 32)).cell? ⟨w4.heap.size, j, none⟩ = (#[.int .i64 22, .int .i64 0, .int .i64 0, .int .i64 0, .int .i64 17, .int .i64 0, .int .i64 0, .int .i64 0, .int .i64 1, .int .i64 0, .int .i64 0, .int .i64 0] : Array Value)[j]? := fun j => by
    have := new_alloc (w := w4.setCell ⟨p + 1, 0, none⟩ (.slice (some ⟨w4.heap.size, 0, none⟩) 3 3)) (cs := #[.int .i64 22, .int .i64 0, .int .i64 0, .int .i64 0, .int .i64 17, .int .i64 0, .int .i64 0, .int .i64 0, .int .i64 1, .int .i64 0, .int .i64 0, .int .i64 0]) (t := 32) (Kp.refl _) j
    simpa using this
  have SZ : w4.heap.size < ((w4.setCell ⟨p + 1, 0, none⟩ (.slice (some ⟨w4.heap.size, 0, none⟩) 3 3)).alloc (.cells #[.int .i64 22, .int .i64 0, .int .i64 0, .int .i64 0, .int .i64 17, .int .i64 0, .int .i64 0, .int .i64 0, .int .i64 1, .int .i64 0, .int .i64 0, .int .i64 0] 32)).heap.size := by simp
  have S5 := Lib.hid (NmS.mk (PA4.gx GP (by omega) |>.kp KB) ((PB4.put 0 (by omega) (.slice (some ⟨w4.heap.size, 0, none⟩) 3 3)).kp KB) (imA_in ((M4.out.gx GP hne1).kp KB) rfl rfl rfl rfl rfl rfl rfl rfl ((Fcs.gx FA4 GP (by omega)).kp KB)) (imB_in SZ CB ((Fcs.gx FB4 GP (by omega)).kp KB)) ((kp_set KS4.out (by have := K2.out.size; omega) 0 (.slice (some ⟨w4.heap.size, 0, none⟩) 3 3)).trans KB))
  clear PA4 PB4 FA4 FB4 q0 q1 q2 KB GP CB SZ G4 M4 KS4 hne1
  revert S5
  generalize w4.heap.size = C
  generalize (w4.setCell _ _).alloc _ = w5
  intro S5
  go_wp2_with fail
  refine (first_any _).mono ?_
  rintro e w6 ⟨B6, -, rfl, i6, -, k6⟩
  rw [fst_val]
  have S6 := Lib.hid (S5.out.kp k6)
  go_wp2_with fail
  refine (Of_any (HE.out.kept S6.out.k) (h := hdF B6) (m := firstI) i6 first_wf 1 0 true first_of1.1 first_of1.2).mono ?_
  rintro e w7 ⟨rfl, k7⟩
  have S7 := Lib.hid (S6.out.kp k7)
  go_wp2_with fail
  refine (first_any _).mono ?_
  rintro e w8 ⟨B8, -, rfl, i8, -, k8⟩
  rw [fst_val]
  have S8 := Lib.hid (S7.out.kp k8)
  go_wp2_with fail
  refine (Of_any (HE.out.kept S8.out.k) (h := hdF B8) (m := firstI) i8 first_wf 2 0 false first_of2.1 first_of2.2).mono ?_
  rintro e w9 ⟨rfl, k9⟩
  have S9 := Lib.hid (S8.out.kp k9)
  go_wp2_with fail
  refine (first_any _).mono ?_
  rintro e w10 ⟨B10, -, rfl, i10, -, k10⟩
  rw [fst_val]
  have S10 := Lib.hid (S9.out.kp k10)
  go_wp2_with fail
  refine (Text_img (HE.out.kept S10.out.k) (h := hdF B10) (m := firstI) i10 first_wf [[112, 116], [104, 97, 108, 116]] first_tx 0 first_ok).mono ?_
  rintro e w11 ⟨vT, rfl, hT, k11⟩
  have S11 := Lib.hid (S10.out.kp k11)
  obtain ⟨aT, cT, rfl, -, -, -⟩ := own_form hT
  have HT := Lib.hid (row_T hT)
  clear hT
  go_wp2_with fail
  refine (lives_any (HE.out.kept S11.out.k)).mono ?_
  rintro e w12 ⟨rfl, k12⟩
  have S12 := Lib.hid (S11.out.kp k12)
  go_wp2_with fail
  refine (first_any _).mono ?_
  rintro e w13 ⟨B13, -, rfl, i13, -, k13⟩
  rw [fst_val]
  have S13 := Lib.hid (S12.out.kp k13)
  go_wp2_with fail
  refine (Check_any (HE.out.kept S13.out.k) (h := hdF B13) (m := firstI) i13 first_wf).mono ?_
  rw [first_ok]
  rintro e w14 ⟨rfl, k14⟩
  have S14 := Lib.hid (S13.out.kp k14)
  have c0 : w14.cell? ⟨p, 0, none⟩ = some (.slice (some ⟨B1, 0, none⟩) 2 2) := S14.out.pa.at' 0 (by omega)
  have c1 : w14.cell? ⟨p, 1, none⟩ = some (.slice (some ⟨B1 + 1, 0, none⟩) 1 1) := S14.out.pa.at' 1 (by omega)
  have c2 : w14.cell? ⟨p, 2, none⟩ = some (.slice none 0 0) := S14.out.pa.at' 2 (by omega)
  have c3 : w14.cell? ⟨p, 3, none⟩ = some (.int .i64 0) := S14.out.pa.at' 3 (by omega)
  have c4 : w14.cell? ⟨p, 4, none⟩ = some (.slice none 0 0) := S14.out.pa.at' 4 (by omega)
  have c5 : w14.cell? ⟨p, 5, none⟩ = some (.slice none 0 0) := S14.out.pa.at' 5 (by omega)
  have c6 : w14.cell? ⟨p, 6, none⟩ = some (.int .i64 10) := S14.out.pa.at' 6 (by omega)
  have c7 : w14.cell? ⟨p, 7, none⟩ = some (.slice none 0 0) := S14.out.pa.at' 7 (by omega)
  have zc := S14.out.pa.size
  go_wp2_with fail
  refine (Check_any (HE.out.kept S14.out.k) (h := hdF B1) (m := imA) S14.out.ia imA_wf).mono ?_
  rw [imA_no]
  rintro e w15 ⟨rfl, k15⟩
  have S15 := Lib.hid (S14.out.kp k15)
  clear c0 c1 c2 c3 c4 c5 c6 c7 zc
  have c0 : w15.cell? ⟨p + 1, 0, none⟩ = some (.slice (some ⟨C, 0, none⟩) 3 3) := S15.out.pb.at' 0 (by omega)
  have c1 : w15.cell? ⟨p + 1, 1, none⟩ = some (.slice (some ⟨B2 + 1, 0, none⟩) 1 1) := S15.out.pb.at' 1 (by omega)
  have c2 : w15.cell? ⟨p + 1, 2, none⟩ = some (.slice none 0 0) := S15.out.pb.at' 2 (by omega)
  have c3 : w15.cell? ⟨p + 1, 3, none⟩ = some (.int .i64 0) := S15.out.pb.at' 3 (by omega)
  have c4 : w15.cell? ⟨p + 1, 4, none⟩ = some (.slice none 0 0) := S15.out.pb.at' 4 (by omega)
  have c5 : w15.cell? ⟨p + 1, 5, none⟩ = some (.slice none 0 0) := S15.out.pb.at' 5 (by omega)
  have c6 : w15.cell? ⟨p + 1, 6, none⟩ = some (.int .i64 10) := S15.out.pb.at' 6 (by omega)
  have c7 : w15.cell? ⟨p + 1, 7, none⟩ = some (.slice none 0 0) := S15.out.pb.at' 7 (by omega)
  have zc := S15.out.pb.size
  go_wp2_with fail
  refine (Check_any (HE.out.kept S15.out.k) (h := hdB C B2) (m := imB) S15.out.ib imB_wf).mono ?_
  rw [imB_no]
  rintro e w16 ⟨rfl, k16⟩
  have S16 := Lib.hid (S15.out.kp k16)
  clear c0 c1 c2 c3 c4 c5 c6 c7 zc
  have KT := Lib.hid (k12.trans (k13.trans (k14.trans (k15.trans k16))))
  have S16x := Lib.hid (S16.out.kp ((Kp.refl _).alloc #[.string ⟨#[112, 116]⟩, .string ⟨#[104, 97, 108, 116]⟩] 9))
  have HT2 := Lib.hid ((HT.out.kp KT.out).kp ((Kp.refl _).alloc #[.string ⟨#[112, 116]⟩, .string ⟨#[104, 97, 108, 116]⟩] 9))
  have HT3 := Lib.hid (lit_T w16)
  go_wp2_with fail
  refine (Texts_any aT (some ⟨w16.heap.size, 0, none⟩) cT 2 [[112, 116], [104, 97, 108, 116]] [[112, 116], [104, 97, 108, 116]] _ HT2.out HT3.out (by decide) true (by simp)).mono ?_
  rintro e w17 ⟨rfl, k17⟩
  have S17 := Lib.hid (S16x.out.kp k17.kp)
  go_wp2_with fail
  refine (first_any _).mono ?_
  rintro e w18 ⟨B18, -, rfl, i18, -, k18⟩
  rw [fst_val]
  have S18 := Lib.hid (S17.out.kp k18)
  go_wp2_with fail
  refine (Order_any (HE.out.kept S18.out.k) (h := hdF B18) (m := firstI) i18 first_wf [0] first_or).mono ?_
  rintro e w19 ⟨vO, rfl, ⟨aO, cO, rfl, hO, -⟩, k19⟩
  have S19 := Lib.hid (S18.out.kp k19)
  have HO := Lib.hid (hO.kp ((Kp.refl _).alloc #[.int .i64 0] 3))
  have S19x := Lib.hid (S19.out.kp ((Kp.refl _).alloc #[.int .i64 0] 3))
  have HO2 := Lib.hid (lit_I w19)
  clear hO
  go_wp2_with fail
  refine (Ints_any aO (some ⟨w19.heap.size, 0, none⟩) cO 1 [0] [0] _ (iin_ext HO.out) HO2.out (by decide) true (by simp)).mono ?_
  rintro e w20 ⟨rfl, k20⟩
  go_wp2
  go_ret
  exact ⟨rfl, S19x.out.k.trans k20.kp⟩
end Im
end Go.Proofs.YtaeblnlbelebkaaDoor
