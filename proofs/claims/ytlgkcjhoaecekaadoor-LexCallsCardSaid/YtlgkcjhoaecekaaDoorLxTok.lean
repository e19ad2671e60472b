/-
  WALKS: package lex, the reader's steps: first, wrong, line's end, blanks, comments. Own work.
-/
import Derived.Test.YtlgkcjhoaecekaaDoorLxRd
import Derived.Test.YtlgkcjhoaecekaaDoorShelf
namespace Go.Proofs.YtlgkcjhoaecekaaDoor
namespace Lx
open Go.RowKit Go
set_option linter.unusedVariables false

theorem below_le {B B' : Nat} {w w' : World} (h : Below B w w') (hB : B' ≤ B) : Below B' w w' := h.mono hB
theorem Kp.down {w w' : World} (h : Kp w w') {R : Nat} (hR : R ≤ w.heap.size) : Below R w w' := h.below.mono hR
theorem clone_any (s : List UInt8) (w : World) (hl : s.length ≤ 65536) : Calls Tryd.prog 66 #[.string (bytesOf s)] w fun e w' => e = .returned (.string (bytesOf s)) ∧ Kp w w' := by
  have hC := Lib.hid (Tryd.stringslite_Clone (bytesOf s) w (by rw [bytesOf_size]; omega))
  clear hl
  go_enter Tryd.func66, Tryd.ntmps66
  go_wp2_with (go_at_call 76; refine hC.out.mono ?_; rintro e w1 ⟨rfl, k1⟩)
  go_ret
  exact ⟨rfl, ⟨k1⟩⟩
theorem first_any {w : World} {R : Nat} {s : St} {f tv : Value} (h : RdIn w R s f tv) (hs : StOk s) (n : Nat) (hn : n ≤ s.src.length - s.a) (t : List UInt8) (ht : (s.src.drop s.a).take n = t) :
    Calls Tryd.prog 57 #[.pointer (some ⟨R, 0, none⟩), .int .i64 n] w fun e w' => e = .returned (.string (bytesOf t)) ∧ Kp w w' := by
  have HC := Lib.hid (rest_any h hs _ rfl)
  have hl : (s.src.drop s.a).length = s.src.length - s.a := List.length_drop
  have hn' : (n : Int) ≤ ((bytesOf (s.src.drop s.a)).size : Int) := by rw [bytesOf_size, hl]; omega
  have hm : ((bytesOf (s.src.drop s.a)).size : Int) ≤ 65536 := by rw [bytesOf_size, hl]; have := hs.n; omega
  have HT : Hid ((bytesOf (s.src.drop s.a)).extract 0 n = bytesOf t) := Lib.hid (by rw [ext_ab, ← ht]; simp)
  have HTL : Hid (t.length ≤ 65536) := Lib.hid (by rw [← ht, List.length_take, hl]; have := hs.n; omega)
  have hn0 : (0 : Int) ≤ (n : Int) := by omega
  clear h hs hn ht hl
  generalize s.src.drop s.a = r at *
  go_enter Tryd.func57, Tryd.ntmps57
  go_wp2_with fail
  refine HC.out.mono ?_
  rintro e w1 ⟨rfl, k1⟩
  go_wp2_with fail
  rw [HT.out]
  refine (clone_any t w1 HTL.out).mono ?_
  rintro e w2 ⟨rfl, k2⟩
  go_wp2
  go_ret
  exact ⟨rfl, k1.trans k2⟩
/-- What a state leaves: the state that is next, the reader turned, nothing below it. -/
def StP (w : World) (R : Nat) (s : St) (f g : Value) (e : Ending) (w' : World) : Prop := e = .returned g ∧ ∃ tv, RdIn w' R s f tv ∧ Below R w w'
theorem cell_put {w : World} {R : Nat} {o : Nat} {v u : Value} (h : w.cell? ⟨R, o, none⟩ = some v) : (w.setCell ⟨R, o, none⟩ u).cell? ⟨R, o, none⟩ = some u := World.cell?_setCell_same _ _ _ h
theorem own_far {w : World} {base : Nat} {e : TypeId} {size : Nat} {v : Value} {n : Nat} {xs : List Value} (h : w.ownsRow base e size v n xs) {R : Nat} (hR : R < base) (o : Nat) (u : Value) : (w.setCell ⟨R, o, none⟩ u).ownsRow base e size v n xs := by
  refine ⟨h.1, ?_⟩
  rcases h.2 with h2 | ⟨g, cap, cur, hv, hg, hb, r⟩
  · exact .inl h2
  · exact .inr ⟨g, cap, cur, hv, hg, by rw [Below.heap_setCell _ _ _ _ (by simp; omega)]; exact hb, r⟩
theorem MapU.below {B : Nat} {w w' : World} {M n : Nat} {t : List UInt8 → Bool} (h : MapU w M n t) (k : Below B w w') (hM : M < B) : MapU w' M n t := by
  obtain ⟨D, ho, hD, ht⟩ := h
  obtain ⟨es, clock, hb, F, hs, e⟩ := ho
  exact ⟨D, ⟨es, clock, (k.block M hM).trans hb, F, hs, e⟩, hD, ht⟩
theorem below_put {w : World} {R : Nat} (o : Nat) (u : Value) : Below R w (w.setCell ⟨R, o, none⟩ u) := (Below.refl R w).setCell (Nat.le_refl R) u
theorem off_put {w : World} {R o q : Nat} (u : Value) (h : q ≠ o) : (w.setCell ⟨R, o, none⟩ u).cell? ⟨R, q, none⟩ = w.cell? ⟨R, q, none⟩ :=
  World.cell?_setCell_other _ _ _ _ (by intro e; simp only [Addr.mk.injEq] at e; omega)
theorem RdIn.put0 {w : World} {R : Nat} {s : St} {f tv : Value} (h : RdIn w R s f tv) (g : Value) : RdIn (w.setCell ⟨R, 0, none⟩ g) R s g tv :=
  ⟨by simpa using h.size, cell_put h.c0, (off_put _ (by decide)).trans h.c1, (off_put _ (by decide)).trans h.c2, (off_put _ (by decide)).trans h.c3, (off_put _ (by decide)).trans h.c4, (off_put _ (by decide)).trans h.c5, (off_put _ (by decide)).trans h.c6, (off_put _ (by decide)).trans h.c7, (off_put _ (by decide)).trans h.c8, (off_put _ (by decide)).trans h.c9, fun o => (World.frozen?_setCell _ _ _ _).trans (h.fro o), own_far h.own (by omega) _ _, h.map.below (below_put _ _) h.mlt, h.mlt⟩
theorem RdIn.put3 {w : World} {R : Nat} {s : St} {f tv : Value} (h : RdIn w R s f tv) (a : Nat) {z : Int} (hz : z = a) : RdIn (w.setCell ⟨R, 3, none⟩ (.int .i64 z)) R ⟨s.src, s.M, a, s.l, s.st, s.ts, s.fe, s.fl, s.fc⟩ f tv :=
  ⟨by simpa using h.size, (off_put _ (by decide)).trans h.c0, (off_put _ (by decide)).trans h.c1, (off_put _ (by decide)).trans h.c2, (cell_put h.c3).trans (by rw [hz]), (off_put _ (by decide)).trans h.c4, (off_put _ (by decide)).trans h.c5, (off_put _ (by decide)).trans h.c6, (off_put _ (by decide)).trans h.c7, (off_put _ (by decide)).trans h.c8, (off_put _ (by decide)).trans h.c9, fun o => (World.frozen?_setCell _ _ _ _).trans (h.fro o), own_far h.own (by omega) _ _, h.map.below (below_put _ _) h.mlt, h.mlt⟩
theorem RdIn.put4 {w : World} {R : Nat} {s : St} {f tv : Value} (h : RdIn w R s f tv) (l : Int) : RdIn (w.setCell ⟨R, 4, none⟩ (.int .i64 l)) R ⟨s.src, s.M, s.a, l, s.st, s.ts, s.fe, s.fl, s.fc⟩ f tv :=
  ⟨by simpa using h.size, (off_put _ (by decide)).trans h.c0, (off_put _ (by decide)).trans h.c1, (off_put _ (by decide)).trans h.c2, (off_put _ (by decide)).trans h.c3, cell_put h.c4, (off_put _ (by decide)).trans h.c5, (off_put _ (by decide)).trans h.c6, (off_put _ (by decide)).trans h.c7, (off_put _ (by decide)).trans h.c8, (off_put _ (by decide)).trans h.c9, fun o => (World.frozen?_setCell _ _ _ _).trans (h.fro o), own_far h.own (by omega) _ _, h.map.below (below_put _ _) h.mlt, h.mlt⟩
theorem RdIn.put5 {w : World} {R : Nat} {s : St} {f tv : Value} (h : RdIn w R s f tv) (x : Int) : RdIn (w.setCell ⟨R, 5, none⟩ (.int .i64 x)) R ⟨s.src, s.M, s.a, s.l, x, s.ts, s.fe, s.fl, s.fc⟩ f tv :=
  ⟨by simpa using h.size, (off_put _ (by decide)).trans h.c0, (off_put _ (by decide)).trans h.c1, (off_put _ (by decide)).trans h.c2, (off_put _ (by decide)).trans h.c3, (off_put _ (by decide)).trans h.c4, cell_put h.c5, (off_put _ (by decide)).trans h.c6, (off_put _ (by decide)).trans h.c7, (off_put _ (by decide)).trans h.c8, (off_put _ (by decide)).trans h.c9, fun o => (World.frozen?_setCell _ _ _ _).trans (h.fro o), own_far h.own (by omega) _ _, h.map.below (below_put _ _) h.mlt, h.mlt⟩
theorem RdIn.put7 {w : World} {R : Nat} {s : St} {f tv : Value} (h : RdIn w R s f tv) (x : Int) : RdIn (w.setCell ⟨R, 7, none⟩ (.int .i64 x)) R ⟨s.src, s.M, s.a, s.l, s.st, s.ts, x, s.fl, s.fc⟩ f tv :=
  ⟨by simpa using h.size, (off_put _ (by decide)).trans h.c0, (off_put _ (by decide)).trans h.c1, (off_put _ (by decide)).trans h.c2, (off_put _ (by decide)).trans h.c3, (off_put _ (by decide)).trans h.c4, (off_put _ (by decide)).trans h.c5, (off_put _ (by decide)).trans h.c6, cell_put h.c7, (off_put _ (by decide)).trans h.c8, (off_put _ (by decide)).trans h.c9, fun o => (World.frozen?_setCell _ _ _ _).trans (h.fro o), own_far h.own (by omega) _ _, h.map.below (below_put _ _) h.mlt, h.mlt⟩
theorem RdIn.put8 {w : World} {R : Nat} {s : St} {f tv : Value} (h : RdIn w R s f tv) (x : Int) : RdIn (w.setCell ⟨R, 8, none⟩ (.int .i64 x)) R ⟨s.src, s.M, s.a, s.l, s.st, s.ts, s.fe, x, s.fc⟩ f tv :=
  ⟨by simpa using h.size, (off_put _ (by decide)).trans h.c0, (off_put _ (by decide)).trans h.c1, (off_put _ (by decide)).trans h.c2, (off_put _ (by decide)).trans h.c3, (off_put _ (by decide)).trans h.c4, (off_put _ (by decide)).trans h.c5, (off_put _ (by decide)).trans h.c6, (off_put _ (by decide)).trans h.c7, cell_put h.c8, (off_put _ (by decide)).trans h.c9, fun o => (World.frozen?_setCell _ _ _ _).trans (h.fro o), own_far h.own (by omega) _ _, h.map.below (below_put _ _) h.mlt, h.mlt⟩
theorem RdIn.put9 {w : World} {R : Nat} {s : St} {f tv : Value} (h : RdIn w R s f tv) (x : Int) : RdIn (w.setCell ⟨R, 9, none⟩ (.int .i64 x)) R ⟨s.src, s.M, s.a, s.l, s.st, s.ts, s.fe, s.fl, x⟩ f tv :=
  ⟨by simpa using h.size, (off_put _ (by decide)).trans h.c0, (off_put _ (by decide)).trans h.c1, (off_put _ (by decide)).trans h.c2, (off_put _ (by decide)).trans h.c3, (off_put _ (by decide)).trans h.c4, (off_put _ (by decide)).trans h.c5, (off_put _ (by decide)).trans h.c6, (off_put _ (by decide)).trans h.c7, (off_put _ (by decide)).trans h.c8, cell_put h.c9, fun o => (World.frozen?_setCell _ _ _ _).trans (h.fro o), own_far h.own (by omega) _ _, h.map.below (below_put _ _) h.mlt, h.mlt⟩
theorem lineEnd_any {w : World} {R : Nat} {s : St} {f tv : Value} (h : RdIn w R s f tv) (hs : StOk s) :
    Calls Tryd.prog 34 #[.pointer (some ⟨R, 0, none⟩)] w (StP w R ⟨s.src, s.M, s.a + 1, s.l + 1, s.a + 1, s.ts, s.fe, s.fl, s.fc⟩ f (.func (.func 19) #[] #[])) := by
  have c3 := h.c3
  have c4 := h.c4
  have c5 := h.c5
  have f3 := h.fro 3
  have f4 := h.fro 4
  have f5 := h.fro 5
  have h1 : (s.a : Int) ≤ 65536 := by have := hs.a; have := hs.n; omega
  have h0 : (0 : Int) ≤ (s.a : Int) := by omega
  have h2 : s.l ≤ 65537 := by have := hs.l2; omega
  have h3 : 1 ≤ s.l := hs.l1
  have HP := Lib.hid ((((h.put3 (s.a + 1) (z := s.a + 1) (by omega)).put4 (s.l + 1)).put5 (s.a + 1)).kp (Kp.refl _).drew)
  clear h hs
  generalize ea : s.a = a at *
  generalize el : s.l = l at *
  go_enter Tryd.func34, Tryd.ntmps34
  go_wp2_with fail
  go_region
  all_goals
    go_wp2
    go_ret
    exact ⟨rfl, tv, HP.out, (((below_put _ _).trans (below_put _ _)).trans (below_put _ _)).drew⟩
theorem blanks_any {w : World} {R : Nat} {s : St} {f tv : Value} (h : RdIn w R s f tv) (hs : StOk s) (n : Nat) (hn : spn isBl (s.src.drop s.a) = n) :
    Calls Tryd.prog 36 #[.pointer (some ⟨R, 0, none⟩)] w (StP w R ⟨s.src, s.M, s.a + n, s.l, s.st, s.ts, s.fe, s.fl, s.fc⟩ f (.func (.func 19) #[] #[])) := by
  have hz := h.size
  have c3 := h.c3
  have f3 := h.fro 3
  have h1 : (s.a : Int) ≤ 65536 := by have := hs.a; have := hs.n; omega
  have h0 : (0 : Int) ≤ (s.a : Int) := by omega
  have hl : (s.src.drop s.a).length ≤ 65536 := by rw [List.length_drop]; have := hs.n; omega
  have hnl : n ≤ 65536 := by have := spn_le isBl (s.src.drop s.a); omega
  have HR : Hid (∀ W, Kp w W → Calls Tryd.prog 33 #[.pointer (some ⟨R, 0, none⟩)] W fun e w' => e = .returned (.string (bytesOf (s.src.drop s.a))) ∧ Kp W w') := Lib.hid (fun W k => rest_any (h.kp k) hs _ rfl)
  have HS : Hid (∀ W, Calls Tryd.prog 48 #[.string (bytesOf (s.src.drop s.a)), .func (.func 35) #[] #[]] W fun e w' => e = .returned (.int .i64 n) ∧ w' = W) := Lib.hid (fun W => span_any blankS _ (by omega) W n hn)
  have HP : Hid (∀ W, Kp w W → RdIn (W.setCell ⟨R, 3, none⟩ (.int .i64 ((s.a : Int) + n))) R ⟨s.src, s.M, s.a + n, s.l, s.st, s.ts, s.fe, s.fl, s.fc⟩ f tv) := Lib.hid (fun W k => (h.kp k).put3 (s.a + n) (by omega))
  have hn1 : (n : Int) ≤ 65536 := by omega
  have hn0 : (0 : Int) ≤ (n : Int) := by omega
  have HZ := Lib.hid hz
  clear h hs hn hl hnl
  generalize s.src.drop s.a = r at *
  generalize ea : s.a = a at *
  go_enter Tryd.func36, Tryd.ntmps36
  go_wp2_with fail
  go_region_with (first
    | (go_at_call 33; refine (HR.out _ (by first | exact Kp.refl _ | exact (Kp.refl _).drew)).mono ?_; rintro e w1 ⟨rfl, k1⟩; have d3 := (k1.cells R 3 hz).trans c3; have g3 := (k1.fros R 3 hz).trans f3)
    | (go_at_call 48; refine (HS.out _).mono ?_; rintro e w2 ⟨rfl, rfl⟩))
  all_goals
    go_wp2
    go_ret
    exact ⟨rfl, tv, HP.out _ (((Kp.refl w).drew).trans k1), ((((Kp.refl w).drew).trans k1).down (Nat.le_of_lt HZ.out)).trans (below_put _ _)⟩
theorem comment_any {w : World} {R : Nat} {s : St} {f tv : Value} (h : RdIn w R s f tv) (hs : StOk s) (n : Nat) (hn : spn noNl (s.src.drop s.a) = n) :
    Calls Tryd.prog 37 #[.pointer (some ⟨R, 0, none⟩)] w (StP w R ⟨s.src, s.M, s.a + n, s.l, s.st, s.ts, s.fe, s.fl, s.fc⟩ f (.func (.func 19) #[] #[])) := by
  have hz := h.size
  have c3 := h.c3
  have f3 := h.fro 3
  have h1 : (s.a : Int) ≤ 65536 := by have := hs.a; have := hs.n; omega
  have h0 : (0 : Int) ≤ (s.a : Int) := by omega
  have hl : (s.src.drop s.a).length ≤ 65536 := by rw [List.length_drop]; have := hs.n; omega
  have hnl : n ≤ 65536 := by have := spn_le noNl (s.src.drop s.a); omega
  have HR : Hid (∀ W, Kp w W → Calls Tryd.prog 33 #[.pointer (some ⟨R, 0, none⟩)] W fun e w' => e = .returned (.string (bytesOf (s.src.drop s.a))) ∧ Kp W w') := Lib.hid (fun W k => rest_any (h.kp k) hs _ rfl)
  have HS : Hid (∀ W, Calls Tryd.prog 48 #[.string (bytesOf (s.src.drop s.a)), .func (.func 56) #[] #[]] W fun e w' => e = .returned (.int .i64 n) ∧ w' = W) := Lib.hid (fun W => span_any notNlS _ (by omega) W n hn)
  have HP : Hid (∀ W, Kp w W → RdIn (W.setCell ⟨R, 3, none⟩ (.int .i64 ((s.a : Int) + n))) R ⟨s.src, s.M, s.a + n, s.l, s.st, s.ts, s.fe, s.fl, s.fc⟩ f tv) := Lib.hid (fun W k => (h.kp k).put3 (s.a + n) (by omega))
  have hn1 : (n : Int) ≤ 65536 := by omega
  have hn0 : (0 : Int) ≤ (n : Int) := by omega
  have HZ := Lib.hid hz
  clear h hs hn hl hnl
  generalize s.src.drop s.a = r at *
  generalize ea : s.a = a at *
  go_enter Tryd.func37, Tryd.ntmps37
  go_wp2_with fail
  go_region_with (first
    | (go_at_call 33; refine (HR.out _ (by first | exact Kp.refl _ | exact (Kp.refl _).drew)).mono ?_; rintro e w1 ⟨rfl, k1⟩; have d3 := (k1.cells R 3 hz).trans c3; have g3 := (k1.fros R 3 hz).trans f3)
    | (go_at_call 48; refine (HS.out _).mono ?_; rintro e w2 ⟨rfl, rfl⟩))
  all_goals
    go_wp2
    go_ret
    exact ⟨rfl, tv, HP.out _ (((Kp.refl w).drew).trans k1), ((((Kp.refl w).drew).trans k1).down (Nat.le_of_lt HZ.out)).trans (below_put _ _)⟩
theorem wrong_any {w : World} {R : Nat} {s : St} {f tv : Value} (h : RdIn w R s f tv) (hs : StOk s) (c : Int) (hc : (s.a : Int) - s.st + 1 = c) :
    Calls Tryd.prog 62 #[.pointer (some ⟨R, 0, none⟩)] w (StP w R ⟨s.src, s.M, s.a, s.l, s.st, s.ts, 11, s.l, c⟩ f .nilFunc) := by
  have hz := h.size
  have c4 := h.c4
  have c7 := h.c7
  have c8 := h.c8
  have c9 := h.c9
  have f7 := h.fro 7
  have f8 := h.fro 8
  have f9 := h.fro 9
  have HC : Hid (∀ W, Kp w W → Calls Tryd.prog 67 #[.pointer (some ⟨R, 0, none⟩)] W fun e w' => e = .returned (.int .i64 c) ∧ Kp W w') := Lib.hid (fun W k => column_any (h.kp k) hs c hc)
  have HP : Hid (∀ W, Kp w W → RdIn (((W.setCell ⟨R, 7, none⟩ (.int .i64 11)).setCell ⟨R, 8, none⟩ (.int .i64 s.l)).setCell ⟨R, 9, none⟩ (.int .i64 c)) R ⟨s.src, s.M, s.a, s.l, s.st, s.ts, 11, s.l, c⟩ f tv) := Lib.hid (fun W k => (((h.kp k).put7 11).put8 s.l).put9 c)
  have HZ := Lib.hid hz
  clear h hs hc
  generalize el : s.l = l at *
  go_enter Tryd.func62, Tryd.ntmps62
  go_wp2_with fail
  go_region_with (go_at_call 67; refine (HC.out _ (by first | exact Kp.refl _ | exact (Kp.refl _).drew)).mono ?_; rintro e w1 ⟨rfl, k1⟩; have d4 := (k1.cells R 4 hz).trans c4; have d7 := (k1.cells R 7 hz).trans c7; have d8 := (k1.cells R 8 hz).trans c8; have d9 := (k1.cells R 9 hz).trans c9; have g7 := (k1.fros R 7 hz).trans f7; have g8 := (k1.fros R 8 hz).trans f8; have g9 := (k1.fros R 9 hz).trans f9)
  all_goals
    go_wp2
    go_ret
    exact ⟨rfl, tv, HP.out _ (((Kp.refl w).drew).trans k1), (((((Kp.refl w).drew).trans k1).down (Nat.le_of_lt HZ.out)).trans (below_put _ _)).trans ((below_put _ _).trans (below_put _ _))⟩
end Lx
end Go.Proofs.YtlgkcjhoaecekaaDoor
