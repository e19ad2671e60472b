/-
  WALKS: package lex, All, for any source that is not too long. Own work.
-/
import Derived.Test.YtlgkcjhoaecekaaDoorLxRun
import Derived.Carry
import Derived.Deep.Cut
import Derived.Deep.WholeRow
import Derived.Maps.RangeWalk
namespace Go.Proofs.YtlgkcjhoaecekaaDoor
namespace Lx
open Go.RowKit Go
set_option linter.unusedVariables false

/-- A result as tokens and a fault. -/
def resT : Except (Int × Int) (List Tk) → List Tk
  | .ok ts => ts
  | .error _ => []
def resE : Except (Int × Int) (List Tk) → Int
  | .ok _ => 0
  | .error _ => 11
def resL : Except (Int × Int) (List Tk) → Int
  | .ok _ => 0
  | .error x => x.1
def resC : Except (Int × Int) (List Tk) → Int
  | .ok _ => 0
  | .error x => x.2
/-- What All answers. -/
def AllP (w : World) (ts : List Tk) (fe fl fc : Int) (e : Ending) (w' : World) : Prop :=
  ∃ tv, e = .returned (.tuple #[tv, .agg #[.int .i64 fe, .int .i64 fl, .int .i64 fc]]) ∧ w'.ownsRow w.heap.size 33 5 tv ts.length (ts.flatMap celK) ∧ Kp w w'
theorem Env.below {B : Nat} {w w' : World} (h : Env w) (k : Below B w w') (hB : w.heap.size ≤ B) : Env w' := h.kp ⟨k.mono hB⟩
theorem three_put {w : World} {B : Nat} {u0 u1 u2 : Value} (h0 : w.cell? ⟨B, 0, none⟩ = some u0) (h1 : w.cell? ⟨B, 1, none⟩ = some u1) (h2 : w.cell? ⟨B, 2, none⟩ = some u2) (v0 v1 v2 : Value) {W : World} (hW : ((w.setCell ⟨B, 0, none⟩ v0).setCell ⟨B, 1, none⟩ v1).setCell ⟨B, 2, none⟩ v2 = W) :
    W.cell? ⟨B, 0, none⟩ = some v0 ∧ W.cell? ⟨B, 1, none⟩ = some v1 ∧ W.cell? ⟨B, 2, none⟩ = some v2 ∧ Below B w W := by
  subst hW
  refine ⟨(off_put _ (by decide)).trans ((off_put _ (by decide)).trans (cell_put h0)), (off_put _ (by decide)).trans (cell_put ((off_put _ (by decide)).trans h1)), cell_put ((off_put _ (by decide)).trans ((off_put _ (by decide)).trans h2)), ((below_put _ _).trans (below_put _ _)).trans (below_put _ _)⟩
theorem own_far3 {w W : World} {base : Nat} {e : TypeId} {size : Nat} {v : Value} {n : Nat} {xs : List Value} (h : w.ownsRow base e size v n xs) {B : Nat} (hB : B < base) {v0 v1 v2 : Value} (hW : ((w.setCell ⟨B, 0, none⟩ v0).setCell ⟨B, 1, none⟩ v1).setCell ⟨B, 2, none⟩ v2 = W) : W.ownsRow base e size v n xs := by
  subst hW
  exact own_far (own_far (own_far h hB _ _) hB _ _) hB _ _
theorem own_le {w : World} {base base' size n : Nat} {e : TypeId} {v : Value} {xs : List Value} (h : w.ownsRow base e size v n xs) (hb : base' ≤ base) : w.ownsRow base' e size v n xs :=
  ⟨h.1, h.2.elim .inl (fun ⟨g, cap, cur, hv, hg, r⟩ => .inr ⟨g, cap, cur, hv, Nat.le_trans hb hg, r⟩)⟩
theorem run_fin {Res : Except (Int × Int) (List Tk)} {s : St} (h : Run Res s .nilFunc) : Fin' Res s := by
  rcases h with ⟨e, _⟩ | ⟨hd, hf, e, _⟩ | ⟨_, h⟩
  · cases e
  · cases hd <;> first | exact absurd rfl hf | cases e
  · exact h
set_option maxHeartbeats 8000000 in
set_option maxRecDepth 100000 in
theorem All_any {w : World} (hE : Env w) (s : List UInt8) (hl : s.length ≤ 65536) (ts : List Tk) (fe fl fc : Int) (h1 : resT (Lex s 1 1) = ts) (h2 : resE (Lex s 1 1) = fe) (h3 : resL (Lex s 1 1) = fl) (h4 : resC (Lex s 1 1) = fc) :
    Calls Tryd.prog 8 #[.string (bytesOf s)] w (AllP w ts fe fl fc) := by
  have hsz : ((bytesOf s).size : Int) ≤ 65536 := by rw [bytesOf_size]; omega
  have hgt : decide ((65536 : Int) < ((bytesOf s).size : Int)) = false := by simp; omega
  have HE := Lib.hid hE
  have HL := Lib.hid hl
  have HRES := Lib.hid (And.intro h1 (And.intro h2 (And.intro h3 h4)))
  clear hE hl h1 h2 h3 h4
  have nn1 : ∀ W, Sem.run Tryd.prog (binOp .neq 46 .nilFunc .nilFunc) W = .ok (.bool false) W := fun _ => by kernel_rfl
  have nn2 : ∀ F W, Sem.run Tryd.prog (binOp .neq 46 (.func (.func F) #[] #[]) .nilFunc) W = .ok (.bool true) W := fun _ _ => by kernel_rfl
  have sf1 : ∀ a W, Sem.run Tryd.prog (store a .nilFunc) W = stored Tryd.prog W a .nilFunc .plain := fun a W => run_store Tryd.prog W a _ .plain rfl
  have sf2 : ∀ a G W, Sem.run Tryd.prog (store a (.func (.func G) #[] #[])) W = stored Tryd.prog W a (.func (.func G) #[] #[]) .plain := fun a G W => run_store Tryd.prog W a _ .plain rfl
  go_enter Tryd.func8, Tryd.ntmps8
  go_upto_region 3 with (fail)
  generalize hw1 : w.alloc _ = w1
  have A1 := alloc_new_of hw1
  have K1 := Lib.hid A1.2.1
  have B0 := A1.1 0
  have B1 := A1.1 1
  have B2 := A1.1 2
  have FB := A1.2.2.2
  have ZB := A1.2.2.1
  obtain ⟨RB, hRB⟩ : ∃ RB, w.heap.size = RB := ⟨_, rfl⟩
  rw [hRB] at B0 B1 B2 FB ZB ⊢
  have HRB := Lib.hid hRB
  simp only [List.getElem?_toArray, List.getElem?_cons_succ, List.getElem?_cons_zero] at B0 B1 B2
  clear A1 hw1 hRB
  go_wp2_with fail
  refine (keywords_any w1).mono ?_
  rintro e w2 ⟨rfl, hM, k2⟩
  have hML : w1.heap.size < w2.heap.size := hM.lt
  have B0' := (k2.cells RB 0 ZB).trans B0
  have B1' := (k2.cells RB 1 ZB).trans B1
  have B2' := (k2.cells RB 2 ZB).trans B2
  have FB' : ∀ o, w2.frozen? ⟨RB, o, none⟩ = false := fun o => (k2.fros RB o ZB).trans (FB o)
  have ZB' : RB < w2.heap.size := Nat.lt_of_lt_of_le ZB k2.size
  have K2 := Lib.hid (K1.out.trans k2)
  have HM := Lib.hid hM
  clear B0 B1 B2 FB k2 K1 hM
  go_wp2_with (refine wpList_store_row rfl 48 _ _ rfl w2.heap.size #[btw, .string (bytesOf s), .map (some w1.heap.size), .int .i64 0, .int .i64 1, .int .i64 0, .slice none 0 0, .int .i64 0, .int .i64 0, .int .i64 0] rfl rfl 48 _ (heap_alloc_new _ _) (by kernel_rfl) (by kernel_rfl) (by kernel_rfl) ?_; rw [World.setRow_alloc_new])
  go_frame
  generalize hw3 : w2.alloc _ = w3
  have A3 := alloc_new_of hw3
  have K3 := Lib.hid A3.2.1
  have R0 : Hid (RdIn w3 w2.heap.size ⟨s, w1.heap.size, 0, 1, 0, [], 0, 0, 0⟩ btw (.slice none 0 0)) := Lib.hid
    ⟨A3.2.2.1, A3.1 0, A3.1 1, A3.1 2, A3.1 3, A3.1 4, A3.1 5, A3.1 6, A3.1 7, A3.1 8, A3.1 9, A3.2.2.2, World.ownsRow_nil _ _ _ _, HM.out.kp K3.out, hML⟩
  have HE3 := Lib.hid (HE.out.kp (K2.out.trans K3.out))
  have b0 := (K3.out.cells RB 0 ZB').trans B0'
  have b1 := (K3.out.cells RB 1 ZB').trans B1'
  have b2 := (K3.out.cells RB 2 ZB').trans B2'
  have fb : ∀ o, w3.frozen? ⟨RB, o, none⟩ = false := fun o => (K3.out.fros RB o ZB').trans (FB' o)
  have ER : Hid (w.heap.size ≤ w2.heap.size) := Lib.hid K2.out.size
  obtain ⟨R, hR⟩ : ∃ R, w2.heap.size = R := ⟨_, rfl⟩
  rw [hR] at R0 ZB' ⊢
  have HR := Lib.hid hR
  have HB := Lib.hid (And.intro b0 (And.intro b1 (And.intro b2 fb)))
  clear B0' B1' B2' FB' A3 hw3 hR hML b0 b1 b2 fb
  obtain ⟨Res, hRes⟩ : ∃ Res, Lex s 1 1 = Res := ⟨_, rfl⟩
  have HRS := Lib.hid hRes
  have RUN0 : Hid (Run Res ⟨s, w1.heap.size, 0, 1, 0, [], 0, 0, 0⟩ btw) := Lib.hid (.inl ⟨rfl, ⟨⟨HL.out, Nat.zero_le _, Int.le_refl _, Int.le_refl _, Int.le_refl _, Int.le_refl _, Nat.zero_le _⟩, rfl, rfl, rfl, by
    show pre [] (Lex s 1 1) = Res
    rw [hRes]
    cases Res <;> rfl⟩⟩)
  clear hRes
  go_loopw [13] (fun u wr => ∃ (st : St) (f tv : Value), RdIn wr R st f tv ∧ Below R w3 wr ∧ Hid (Run Res st f ∧ st.src = s)) (fun u wr => mzW s.length R wr)
  case atStart => exact ⟨_, _, _, R0.out, Below.refl _ _, Lib.hid ⟨RUN0.out, rfl⟩⟩
  case round =>
    obtain ⟨st, f, tv, hr, kb, hrun⟩ := hrel
    by_cases hf : f = .nilFunc
    · subst hf
      have HF := Lib.hid (run_fin hrun.out.1)
      have hcell : ∀ o, wr.cell? ⟨RB, o, none⟩ = w3.cell? ⟨RB, o, none⟩ := fun o => kb.cell (p := ⟨RB, o, none⟩) ZB'
      have hfro : ∀ o, wr.frozen? ⟨RB, o, none⟩ = w3.frozen? ⟨RB, o, none⟩ := fun o => kb.frozen (p := ⟨RB, o, none⟩) ZB'
      have b0 := (hcell 0).trans HB.out.1
      have b1 := (hcell 1).trans HB.out.2.1
      have b2 := (hcell 2).trans HB.out.2.2.1
      have f0 := (hfro 0).trans (HB.out.2.2.2 0)
      have f1 := (hfro 1).trans (HB.out.2.2.2 1)
      have f2 := (hfro 2).trans (HB.out.2.2.2 2)
      have c0 := hr.c0
      have c6 := hr.c6
      have c7 := hr.c7
      have c8 := hr.c8
      have c9 := hr.c9
      have hz := hr.size
      have HO := Lib.hid hr.own
      have HKB := Lib.hid kb
      clear hcell hfro hr kb hrun
      rcases HF.out with ⟨e1, e2, e3, e4⟩ | ⟨e1, e4⟩
      · rw [e1] at c7
        rw [e2] at c8
        rw [e3] at c9
        have HX := Lib.hid e4
        clear e1 e2 e3 e4 HF
        go_wp2
        generalize hW : World.setCell _ ⟨RB, 2, none⟩ _ = W
        obtain ⟨C0, C1, C2, CB⟩ := three_put b0 b1 b2 _ _ _ hW
        have HOW := own_far3 HO.out (B := RB) (by omega) hW
        have hres := HRES.out
        rw [HRS.out, HX.out] at hres
        obtain ⟨r1, r2, r3, r4⟩ := hres
        simp only [resT, resE, resL, resC] at r1 r2 r3 r4
        subst r1 r2 r3 r4
        exact bodyPost_ret (v := .tuple #[tv, .agg #[.int .i64 0, .int .i64 0, .int .i64 0]]) (by simp [results, Tryd.results8, go_sem, C0, C1, C2]) rfl ⟨tv, rfl, own_le HOW (by have := ER.out; have := HR.out; omega), ⟨(K2.out.trans K3.out).below.trans ((HKB.out.mono (by have := ER.out; have := HR.out; omega)).trans (CB.mono (by have := HRB.out; omega)))⟩⟩
      · rw [e1] at c7
        have HX := Lib.hid e4
        clear e1 e4 HF
        go_wp2
        go_region
        all_goals
          go_wp2
          generalize hW : World.setCell _ ⟨RB, 2, none⟩ _ = W
          obtain ⟨C0, C1, C2, CB⟩ := three_put b0 b1 b2 _ _ _ hW
          have hres := HRES.out
          rw [HRS.out, HX.out] at hres
          obtain ⟨r1, r2, r3, r4⟩ := hres
          simp only [resT, resE, resL, resC] at r1 r2 r3 r4
          subst r1 r2 r3 r4
          exact bodyPost_ret (v := .tuple #[.slice none 0 0, .agg #[.int .i64 11, .int .i64 st.fl, .int .i64 st.fc]]) (by simp [results, Tryd.results8, go_sem, C0, C1, C2]) rfl ⟨_, rfl, World.ownsRow_nil _ _ _ _, Kp.drew ⟨(K2.out.trans K3.out).below.trans ((HKB.out.mono (by have := ER.out; have := HR.out; omega)).trans (CB.mono (by have := HRB.out; omega)))⟩⟩
    · obtain ⟨F, s', g, hcan, hg, hrun', hm, hsrc, hcall⟩ := run_step hrun.out.1 hf
      obtain rfl := hcan.is
      have hent := hcan.ent
      have c0 := hr.c0
      have HC := Lib.hid (hcall wr R tv (HE.out.kp ⟨(K2.out.trans K3.out).below.trans (kb.mono (by have := ER.out; have := HR.out; omega))⟩) hr)
      have HRUN := Lib.hid (And.intro hrun' (hsrc.trans hrun.out.2))
      have HKB := Lib.hid kb
      have HM0 : Hid (mzW s.length R wr = mz s.length st.a (.func (.func F) #[] #[]) ∧ mz s.length s'.a g < mz s.length st.a (.func (.func F) #[] #[])) := Lib.hid ⟨mzW_rd hr _, by rw [← hrun.out.2]; exact hm⟩
      clear hcan hrun hrun' hm hsrc hcall kb hr hf
      rcases hg with rfl | ⟨G, rfl⟩
      all_goals
        go_wp2_with fail
        refine HC.out.mono ?_
        rintro e w5 ⟨rfl, tv', h5, b5⟩
        have d0 := h5.c0
        have g0 := h5.fro 0
        have H5 := Lib.hid (And.intro h5 b5)
        clear h5 b5 c0
        go_wp2
        go_roundw
        case rel => exact ⟨_, _, _, H5.out.1.put0 _, (HKB.out.trans H5.out.2).trans (below_put _ _), HRUN⟩
        case measure => rw [mzW_rd (H5.out.1.put0 _), HM0.out.1]; exact HM0.out.2
end Lx
end Go.Proofs.YtlgkcjhoaecekaaDoor
