/-
  WALKS: the law AstNamed. Own work.
-/
import Derived.Test.YtbedcplkcaanhaaAsNamedA
import Derived.Test.YtbedcplkcaanhaaOpg
namespace Go.Proofs.Ytbedcplkcaanhaa
namespace As
open Go.RowKit Go Rg Go.Shelf
set_option linter.unusedVariables false

theorem cells_of {w : World} {b : Nat} {e : Nd} (h : w.heap[b]? = some (oE e)) : w.cell? ⟨b, 0, none⟩ = some (.int .i64 e.k) ∧ w.cell? ⟨b, 1, none⟩ = some (.int .i64 e.o) ∧ w.cell? ⟨b, 2, none⟩ = some (.int .i64 e.t) ∧ w.cell? ⟨b, 3, none⟩ = some (.int .u32 e.n) ∧ w.cell? ⟨b, 4, none⟩ = some (.string (bytesOf e.nm)) ∧ w.cell? ⟨b, 5, none⟩ = some (.slice e.ao e.kids.length e.cap) := by
  unfold oE at h
  simp [World.cell?, h]
/-- What the law has of its two expressions, in any world that is as the first one below its size. -/
structure Two (W : World) (e f : Nd) (w : World) : Prop where
  below : Below W.heap.size W w
  le : W.heap.size + 1 + 1 ≤ w.heap.size
  e : w.heap[W.heap.size]? = some (oE e)
  f : w.heap[W.heap.size + 1]? = some (oE f)
theorem Two.keep {W w w' : World} {e f : Nd} (h : Two W e f w) (k : Below (W.heap.size + 1 + 1) w w') : Two W e f w' :=
  ⟨h.below.trans (k.mono (by omega)), Nat.le_trans h.le k.size, (k.block _ (by omega)).trans h.e, (k.block _ (by omega)).trans h.f⟩
theorem two_0 (W : World) (e f : Nd) : Two W e f ((W.alloc (oE e)).alloc (oE f)) := by
  refine ⟨((Below.refl _ W).alloc (Nat.le_refl _) _).alloc (by simp) _, by simp, ?_, row2_1 W _ _⟩
  show ((W.heap.push (oE e)).push (oE f))[W.heap.size]? = _
  simp [Array.getElem?_push]
theorem good_row {w : World} {b : Nat} (h : w.heap[b]? = some (.cells #[.string ⟨#[97]⟩, .string ⟨#[95]⟩, .string ⟨#[120, 57]⟩, .string ⟨#[119, 104, 105, 108, 101, 115]⟩, .string ⟨#[117, 56, 56]⟩, .string ⟨#[122, 122, 95, 48]⟩] 9)) : ∀ k, k < 6 → w.cell? ⟨b, k, none⟩ = some (.string (bytesOf (goodL.getD k []))) := by
  intro k hk
  rcases (by omega : k = 0 ∨ k = 1 ∨ k = 2 ∨ k = 3 ∨ k = 4 ∨ k = 5) with rfl | rfl | rfl | rfl | rfl | rfl <;> simp [World.cell?, h, goodL, bytesOf]
theorem bad_row {w : World} {b : Nat} (h : w.heap[b]? = some (.cells #[.string ⟨#[]⟩, .string ⟨#[105, 102]⟩, .string ⟨#[117, 56]⟩, .string ⟨#[65]⟩, .string ⟨#[57]⟩, .string ⟨#[97, 32, 98]⟩, .string ⟨#[120, 45]⟩, .string ⟨#[109, 97, 105, 110]⟩] 9)) : ∀ k, k < 8 → w.cell? ⟨b, k, none⟩ = some (.string (bytesOf (badL.getD k []))) := by
  intro k hk
  rcases (by omega : k = 0 ∨ k = 1 ∨ k = 2 ∨ k = 3 ∨ k = 4 ∨ k = 5 ∨ k = 6 ∨ k = 7) with rfl | rfl | rfl | rfl | rfl | rfl | rfl | rfl <;> simp [World.cell?, h, badL, bytesOf]
theorem row2_0 (w : World) (o1 o2 : Obj) : ((w.alloc o1).alloc o2).heap[w.heap.size]? = some o1 := by
  show ((w.heap.push o1).push o2)[w.heap.size]? = _
  simp [Array.getElem?_push]
/-- What each operation of the names' region leaves behind. -/
def P8 (Z : Nat) (ev fv : Value) (ne nf : List (List UInt8)) : Nat → Value → World → Prop
  | 0, v, w => ∃ b, v = .slice (some ⟨b, 0, none⟩) 0 0 ∧ w.heap[b]? = some (.cells #[] 9) ∧ Z ≤ b
  | 1, v, _ => v = ev
  | 2, v, w => Held Z w v ne
  | 3, v, w => Held Z w v ne
  | 4, v, _ => v = fv
  | 5, v, w => Held Z w v nf
  | 6, v, w => Held Z w v (ne ++ nf)
  | 7, v, w => Held Z w v (ne ++ nf)
  | _, _, _ => True
theorem P8.keep {Z : Nat} {ev fv : Value} {ne nf : List (List UInt8)} {j : Nat} {u : Value} {w w' : World} (k : Below w.heap.size w w') (h : P8 Z ev fv ne nf j u w) : P8 Z ev fv ne nf j u w' := by
  match j, h with
  | 0, ⟨b, h1, h2, h3⟩ => exact ⟨b, h1, (k.block b (Array.getElem?_eq_some_iff.1 h2).1).trans h2, h3⟩
  | 1, h => exact h
  | 2, h => exact Held.below h k
  | 3, h => exact Held.below h k
  | 4, h => exact h
  | 5, h => exact Held.below h k
  | 6, h => exact Held.below h k
  | 7, h => exact Held.below h k
  | n + 8, h => exact h
theorem names_nC {w : World} {N r : Nat} {e f : Nd} {g : List UInt8} (he : Small w N e) (hf : Small w N f) (hN : N ≤ w.heap.size) (hg : g ≠ [] ∧ g.length ≤ 10) (hr : w.heap[r]? = some (oE2 e f)) :
    Calls Try.prog 24 #[(nC g r e f).val] w fun x w' => ∃ v, x = .returned v ∧ Below w.heap.size w w' ∧ Held w.heap.size w' v (g :: (nmL (flatF 1 [e]) ++ nmL (flatF 1 [f]))) := by
  have t := nC_tree he hf hg.2 r
  have h := Names_any (nC g r e f) w (N := w.heap.size) (Nat.le_refl _) (row_2 he.kids he.cap hf.kids hf.cap hN (Array.getElem?_eq_some_iff.1 hr).1 hr) (by simp [nC, Nd.kids, Nd.cap]) t.deep t.nm t.few
  rw [nC_names hg.1] at h
  exact h
theorem names_nI {w : World} {N r : Nat} {e : Nd} {g : List UInt8} (he : Small w N e) (hN : N ≤ w.heap.size) (hg : g ≠ [] ∧ g.length ≤ 10) (hr : w.heap[r]? = some (oE e)) :
    Calls Try.prog 24 #[(nI g r e).val] w fun x w' => ∃ v, x = .returned v ∧ Below w.heap.size w w' ∧ Held w.heap.size w' v (g :: nmL (flatF 1 [e])) := by
  have t := nI_tree he hg.2 r
  have h := Names_any (nI g r e) w (N := w.heap.size) (Nat.le_refl _) (row_1 he.kids he.cap hN (Array.getElem?_eq_some_iff.1 hr).1 hr) (by simp [nI, Nd.kids, Nd.cap]) t.deep t.nm t.few
  rw [nI_names hg.1] at h
  exact h
theorem check_nI {u : Nat → ByteArray} {w : World} {N r : Nat} {e : Nd} {g : List UInt8} (hu : UnT u w) (he : Small w N e) (hN : N ≤ w.heap.size) (hg : g.length ≤ 10) (hr : w.heap[r]? = some (oE e)) :
    Calls Try.prog 26 #[(nI g r e).val] w fun x w' => x = .returned (.int .i64 (chk u (flatF 1 [nI g r e]))) ∧ Below w.heap.size w w' := by
  have t := nI_tree he hg r
  exact CheckExpr_any (u := u) (nI g r e) w (N := w.heap.size) (Nat.le_refl _) (row_1 he.kids he.cap hN (Array.getElem?_eq_some_iff.1 hr).1 hr) (by simp [nI, Nd.kids, Nd.cap]) t.deep t.fits hu
theorem check_nC {u : Nat → ByteArray} {w : World} {N r : Nat} {e f : Nd} {g : List UInt8} (hu : UnT u w) (he : Small w N e) (hf : Small w N f) (hN : N ≤ w.heap.size) (hg : g.length ≤ 10) (hr : w.heap[r]? = some (oE2 e f)) :
    Calls Try.prog 26 #[(nC g r e f).val] w fun x w' => x = .returned (.int .i64 (chk u (flatF 1 [nC g r e f]))) ∧ Below w.heap.size w w' := by
  have t := nC_tree he hf hg r
  exact CheckExpr_any (u := u) (nC g r e f) w (N := w.heap.size) (Nat.le_refl _) (row_2 he.kids he.cap hf.kids hf.cap hN (Array.getElem?_eq_some_iff.1 hr).1 hr) (by simp [nC, Nd.kids, Nd.cap]) t.deep t.fits hu
/-- A row of one text, new. -/
def Row1 (Z : Nat) (g : List UInt8) (v : Value) (w : World) : Prop := ∃ b, v = .slice (some ⟨b, 0, none⟩) 1 1 ∧ w.heap[b]? = some (.cells #[.string (bytesOf g)] 9) ∧ Z ≤ b
theorem Row1.keep {Z : Nat} {g : List UInt8} {v : Value} {w w' : World} (h : Row1 Z g v w) (k : Below w.heap.size w w') : Row1 Z g v w' := by
  obtain ⟨b, h1, h2, h3⟩ := h
  exact ⟨b, h1, (k.block b (Array.getElem?_eq_some_iff.1 h2).1).trans h2, h3⟩
def IsC (g : List UInt8) (e f : Nd) (v : Value) (w : World) : Prop := ∃ r, v = (nC g r e f).val ∧ w.heap[r]? = some (oE2 e f)
def IsI (g : List UInt8) (e : Nd) (v : Value) (w : World) : Prop := ∃ r, v = (nI g r e).val ∧ w.heap[r]? = some (oE e)
theorem IsC.keep {g : List UInt8} {e f : Nd} {v : Value} {w w' : World} (h : IsC g e f v w) (k : Below w.heap.size w w') : IsC g e f v w' := by
  obtain ⟨b, h1, h2⟩ := h
  exact ⟨b, h1, (k.block b (Array.getElem?_eq_some_iff.1 h2).1).trans h2⟩
theorem IsI.keep {g : List UInt8} {e : Nd} {v : Value} {w w' : World} (h : IsI g e v w) (k : Below w.heap.size w w') : IsI g e v w' := by
  obtain ⟨b, h1, h2⟩ := h
  exact ⟨b, h1, (k.block b (Array.getElem?_eq_some_iff.1 h2).1).trans h2⟩
/-- What each operation of the comparisons' region leaves behind. -/
def P11 (Z : Nat) (e f : Nd) (g : List UInt8) (ne nf : List (List UInt8)) (cv iv nv : Value) : Nat → Value → World → Prop
  | 0, v, _ => v = cv
  | 1, v, _ => v = .string (bytesOf g)
  | 2, v, w => IsC g e f v w
  | 3, v, w => Held Z w v (g :: (ne ++ nf))
  | 4, v, _ => v = .string (bytesOf g)
  | 5, v, w => Row1 Z g v w
  | 6, v, _ => v = nv
  | 7, v, w => Held Z w v (g :: (ne ++ nf))
  | 8, v, _ => v = .bool true
  | 9, v, _ => v = .bool false
  | 10, v, _ => v = .bool false
  | 11, v, _ => v = iv
  | 12, v, _ => v = .string (bytesOf g)
  | 13, v, w => IsI g e v w
  | 14, v, w => Held Z w v (g :: ne)
  | 15, v, _ => v = .string (bytesOf g)
  | 16, v, w => Row1 Z g v w
  | 17, v, _ => v = e.val
  | 18, v, w => Held Z w v ne
  | 19, v, w => Held Z w v (g :: ne)
  | 20, v, _ => v = .bool true
  | 21, v, _ => v = .bool false
  | 22, v, _ => v = .bool false
  | _, _, _ => True
theorem P11.keep {Z : Nat} {e f : Nd} {g : List UInt8} {ne nf : List (List UInt8)} {cv iv nv : Value} {j : Nat} {u : Value} {w w' : World} (k : Below w.heap.size w w') (h : P11 Z e f g ne nf cv iv nv j u w) : P11 Z e f g ne nf cv iv nv j u w' := by
  match j, h with
  | 0, h => exact h
  | 1, h => exact h
  | 2, h => exact IsC.keep h k
  | 3, h => exact Held.below h k
  | 4, h => exact h
  | 5, h => exact Row1.keep h k
  | 6, h => exact h
  | 7, h => exact Held.below h k
  | 8, h => exact h
  | 9, h => exact h
  | 10, h => exact h
  | 11, h => exact h
  | 12, h => exact h
  | 13, h => exact IsI.keep h k
  | 14, h => exact Held.below h k
  | 15, h => exact h
  | 16, h => exact Row1.keep h k
  | 17, h => exact h
  | 18, h => exact Held.below h k
  | 19, h => exact Held.below h k
  | 20, h => exact h
  | 21, h => exact h
  | 22, h => exact h
  | n + 23, h => exact h
theorem sAt_in {w : World} {R : Nat} {l : List (List UInt8)} (hl : l.length ≤ 9223372036854775807) (hs : SIn w (some ⟨R, 0, none⟩) l) : StIn w w.heap.size (sAt (some ⟨R, 0, none⟩) l) ∧ Sts w w.heap.size (sAt (some ⟨R, 0, none⟩) l).ta (sAt (some ⟨R, 0, none⟩) l).th ∧ Sts w w.heap.size (sAt (some ⟨R, 0, none⟩) l).la (sAt (some ⟨R, 0, none⟩) l).el := by
  refine ⟨⟨?_, .none _, .none _, ⟨Nat.le_refl _, hl⟩, ⟨Nat.le_refl _, Nat.zero_le _⟩, ⟨Nat.le_refl _, Nat.zero_le _⟩, ⟨Nat.le_refl _, Nat.zero_le _⟩, ⟨Nat.le_refl _, Nat.zero_le _⟩⟩, .none _, .none _⟩
  rcases hs with hs | ⟨b, off, ha, hb, hc⟩
  · exact .inl (List.eq_nil_of_length_eq_zero hs)
  · exact .inr ⟨b, off, ha, hb, hb, hc⟩
theorem sAt_deep (a : Option Addr) (l : List (List UInt8)) : DeepQ [sAt a l] := by
  refine ⟨by simp [htS, htT_eq, sAt, St.kids, St.th, St.el], fun p hp => ?_⟩
  simp [flatS, flatT1_eq, sAt, St.kids, St.th, St.el] at hp
  subst hp
  simp [St.xs, St.ix, St.ex, htF]
theorem sAt_fit (a : Option Addr) {l : List (List UInt8)} (h : ∀ s ∈ l, s.length ≤ 10) : FitQ (partsL (flatS 1 [sAt a l])) := by
  rw [sAt_parts]
  intro p hp
  rw [List.mem_singleton] at hp
  subst hp
  exact ⟨⟨show (0 : Int) ≤ 1 by decide, show (1 : Int) ≤ 9223372036854775807 by decide⟩, by simp [sAt, St.nm], fun s hs => Nat.le_trans (h s hs) (by decide)⟩
/-- A statement of a section of some names is checked. -/
theorem check_sAt {u : Nat → ByteArray} {w : World} {R : Nat} {l : List (List UInt8)} {cs : Array Value} (hu : UnT u w) (hl : l.length ≤ 10) (h : ∀ s ∈ l, s.length ≤ 10) (hr : w.heap[R]? = some (.cells cs 9)) (hc : cs.toList = txV l) (c : Int) (he : chkP u (partsL (flatS 1 [sAt (some ⟨R, 0, none⟩) l])) = c) :
    Calls Try.prog 15 #[(sAt (some ⟨R, 0, none⟩) l).val] w fun x w' => x = .returned (.int .i64 c) ∧ Below w.heap.size w w' := by
  rw [← he]
  exact CheckStmt_any (u := u) _ w (Nat.le_refl _) (sAt_in (by omega) (sin_row hr hc)) (sAt_deep _ _) (sAt_fit _ h) hu
set_option maxHeartbeats 4000000 in
set_option maxRecDepth 100000 in
theorem named_walk {u : Nat → ByteArray} (W : World) (hu : UnT u W) (e f : Nd) (which : Int) (h1 : -9223372036854775808 ≤ which) (h2 : which ≤ 9223372036854775807)
    (hke : Nds W W.heap.size e.ao e.kids) (hce : e.kids.length ≤ e.cap ∧ e.cap ≤ 9223372036854775807) (hne : NmAll [e])
    (hkf : Nds W W.heap.size f.ao f.kids) (hcf : f.kids.length ≤ f.cap ∧ f.cap ≤ 9223372036854775807) (hnf : NmAll [f]) :
    Calls Try.prog 7 #[e.val, f.val, .int .i64 which] W fun r w' => r = .returned (.bool true) ∧ Below W.heap.size W w' := by
  have HU := Lib.hid (fun (w : World) (k : Two W e f w) => un_keep hu k.below)
  have HE := Lib.hid (fun (w : World) (k : Two W e f w) => hke.keep (V := fun _ => False) (Keep.of k.below) (fun _ h => h.elim))
  have HF := Lib.hid (fun (w : World) (k : Two W e f w) => hkf.keep (V := fun _ => False) (Keep.of k.below) (fun _ h => h.elim))
  have HNE := Lib.hid hne
  have HNF := Lib.hid hnf
  have HCE := Lib.hid hce
  have HCF := Lib.hid hcf
  have HW := Lib.hid (And.intro h1 h2)
  have T0 := Lib.hid (two_0 W e f)
  clear hu hke hkf hne hnf hce hcf h1 h2
  unfold Nd.val
  go_enter Try.func7, Try.ntmps7
  go_wp2_with (refine (lives_any (u := u) _ (HU.out _ T0.out)).mono ?_)
  rintro r w1 ⟨rfl, b1⟩
  have T1 := Lib.hid (T0.out.keep (b1.mono T0.out.le))
  clear b1 T0
  obtain ⟨x0, x1, x2, x3, x4, x5⟩ := cells_of T1.out.e
  have HL1 := Lib.hid (fun (w : World) (k : Two W e f w) => LightExpr_any e w (N := W.heap.size) k.below.size (HE.out w k) HCE.out (fun d p hp => Nat.le_trans (HNE.out d p hp) (by decide)) _ rfl)
  have HL2 := Lib.hid (fun (w : World) (k : Two W e f w) => LightExpr_any f w (N := W.heap.size) k.below.size (HF.out w k) HCF.out (fun d p hp => Nat.le_trans (HNF.out d p hp) (by decide)) _ rfl)
  go_wp2_with (refine (HL1.out _ T1.out).mono ?_)
  rintro r w2 ⟨rfl, b2⟩
  have T2 := Lib.hid (T1.out.keep (b2.mono T1.out.le))
  clear b2 T1 x0 x1 x2 x3 x4 x5 HL1 HNE
  by_cases l1 : 0 ≤ liF [e] 300
  rotate_left
  · rw [decide_eq_false l1]
    go_wp2
    go_ret
    exact ⟨rfl, T2.out.below⟩
  rw [decide_eq_true l1]
  have S1 := Lib.hid (fun (w : World) (k : Two W e f w) => small_of (HE.out w k) HCE.out l1)
  clear l1
  obtain ⟨x0, x1, x2, x3, x4, x5⟩ := cells_of T2.out.f
  go_wp2_with (refine (HL2.out _ T2.out).mono ?_)
  rintro r w3 ⟨rfl, b3⟩
  have T3 := Lib.hid (T2.out.keep (b3.mono T2.out.le))
  clear b3 T2 x0 x1 x2 x3 x4 x5 HL2 HNF
  by_cases l2 : 0 ≤ liF [f] 300
  rotate_left
  · rw [decide_eq_false l2]
    go_wp2
    go_ret
    exact ⟨rfl, T3.out.below⟩
  rw [decide_eq_true l2]
  have S2 := Lib.hid (fun (w : World) (k : Two W e f w) => small_of (HF.out w k) HCF.out l2)
  clear l2 HE HF HCE HCF
  obtain ⟨x0, x1, x2, x3, x4, x5⟩ := cells_of T3.out.e
  have HC1 := Lib.hid (fun (w : World) (k : Two W e f w) => CheckExpr_any (u := u) e w k.below.size (S1.out w k).kids (S1.out w k).cap (S1.out w k).tree.deep (S1.out w k).tree.fits (HU.out w k))
  have HC2 := Lib.hid (fun (w : World) (k : Two W e f w) => CheckExpr_any (u := u) f w k.below.size (S2.out w k).kids (S2.out w k).cap (S2.out w k).tree.deep (S2.out w k).tree.fits (HU.out w k))
  go_wp2_with (refine (HC1.out _ T3.out).mono ?_)
  rintro r w4 ⟨rfl, b4⟩
  have T4 := Lib.hid (T3.out.keep (b4.mono T3.out.le))
  clear b4 T3 x0 x1 x2 x3 x4 x5 HC1
  by_cases c1 : chk u (flatF 1 [e]) = 0
  rotate_left
  · have HX := Lib.hid c1
    generalize chk u (flatF 1 [e]) = c at *
    go_wp2
    go_ret
    exact ⟨rfl, T4.out.below⟩
  rw [c1]
  have C1 := Lib.hid c1
  clear c1
  obtain ⟨x0, x1, x2, x3, x4, x5⟩ := cells_of T4.out.f
  go_wp2_with (refine (HC2.out _ T4.out).mono ?_)
  rintro r w5 ⟨rfl, b5⟩
  have T5 := Lib.hid (T4.out.keep (b5.mono T4.out.le))
  clear b5 T4 x0 x1 x2 x3 x4 x5 HC2
  by_cases c2 : chk u (flatF 1 [f]) = 0
  rotate_left
  · have HX := Lib.hid c2
    generalize chk u (flatF 1 [f]) = c at *
    go_wp2
    go_ret
    exact ⟨rfl, T5.out.below⟩
  rw [c2]
  have C2 := Lib.hid c2
  clear c2
  go_wp2
  rename_i K7 hK7
  obtain ⟨w6, hw6⟩ : ∃ w6, w6 = (w5.alloc (.cells #[.string ⟨#[97]⟩, .string ⟨#[95]⟩, .string ⟨#[120, 57]⟩, .string ⟨#[119, 104, 105, 108, 101, 115]⟩, .string ⟨#[117, 56, 56]⟩, .string ⟨#[122, 122, 95, 48]⟩] 9)).alloc (.cells #[.string ⟨#[]⟩, .string ⟨#[105, 102]⟩, .string ⟨#[117, 56]⟩, .string ⟨#[65]⟩, .string ⟨#[57]⟩, .string ⟨#[97, 32, 98]⟩, .string ⟨#[120, 45]⟩, .string ⟨#[109, 97, 105, 110]⟩] 9) := ⟨_, rfl⟩
  rw [← hw6]
  obtain ⟨k6, hk6⟩ : ∃ k, (which % 6).toNat = k := ⟨_, rfl⟩
  obtain ⟨k8, hk8⟩ : ∃ k, (which % 8).toNat = k := ⟨_, rfl⟩
  have l6 : k6 < 6 := by omega
  have l8 : k8 < 8 := by omega
  have T6 : Hid (Two W e f w6) := Lib.hid (by rw [hw6]; exact T5.out.keep ((((Below.refl _ w5).alloc (Nat.le_refl _) _).alloc (by simp) _).mono T5.out.le))
  have p6 : w6.cell? ⟨w5.heap.size, k6, none⟩ = some (.string (bytesOf (goodL.getD k6 []))) := by rw [hw6]; exact good_row (row2_0 w5 _ _) k6 l6
  have p8 : w6.cell? ⟨w5.heap.size + 1, k8, none⟩ = some (.string (bytesOf (badL.getD k8 []))) := by rw [hw6]; exact bad_row (row2_1 w5 _ _) k8 l8
  have HP6 := Lib.hid (fun (w : World) => pick_6 which w HW.out.1 HW.out.2 k6 hk6)
  have HP8 := Lib.hid (fun (w : World) => pick_8 which w HW.out.1 HW.out.2 k8 hk8)
  have HG := Lib.hid (good_name ⟨k6, l6⟩)
  have HB := Lib.hid (bad_name ⟨k8, l8⟩)
  dsimp only at HG HB
  generalize goodL.getD k6 [] = g at *
  generalize badL.getD k8 [] = b at *
  have P6 := Lib.hid (And.intro p6 p8)
  have L6 := Lib.hid (And.intro l6 l8)
  generalize w5.heap.size = gB at *
  have S6 : Hid (Two W e f w6.drew ∧ w6.drew.cell? ⟨gB, k6, none⟩ = some (.string (bytesOf g)) ∧ w6.drew.cell? ⟨gB + 1, k8, none⟩ = some (.string (bytesOf b))) := Lib.hid ⟨T6.out.keep (Below.refl _ w6).drew, P6.out⟩
  clear T5 HW hk6 hk8 p6 p8 l6 l8 P6 T6
  refine Op.starts (P := Try.prog) [some 37, some 38, some 39, some 40, some 41, some 42, some 43, some 44, some 45, some 46, some 47, some 48, some 49, some 50, some 9, some 10]
    (fun w => Two W e f w ∧ w.cell? ⟨gB, k6, none⟩ = some (.string (bytesOf g)) ∧ w.cell? ⟨gB + 1, k8, none⟩ = some (.string (bytesOf b)))
    (fun j v _ => v = [Value.slice (some ⟨gB, 0, none⟩) 6 6, .int .i64 which, .slice (some ⟨gB, 0, none⟩) 6 6, .int .i64 6, .int .i64 (k6 : Int), .pointer (some ⟨gB, k6, none⟩), .string (bytesOf g), .slice (some ⟨gB + 1, 0, none⟩) 8 8, .int .i64 which, .slice (some ⟨gB + 1, 0, none⟩) 8 8, .int .i64 8, .int .i64 (k8 : Int), .pointer (some ⟨gB + 1, k8, none⟩), .string (bytesOf b), .string (bytesOf g), .string (bytesOf b)].getD j undef)
    (fun _ _ => false) 16 (by kernel_rfl) (by kernel_rfl) (by kernel_rfl) (by kernel_rfl) (by kernel_rfl) (by kernel_rfl) S6.out ?_ ?_
  · intro i hi x w hS hx K hK
    have hK' : ∀ v, _ → K _ w := fun v hv => hK v w hS hv (fun _ _ _ _ _ h => h)
    clear S6
    match i, hi with
    | 0, _ => exact Op.value rfl rfl (Ops.run_move (y := .tmp 7) rfl (by kernel_rfl)) (hK' _ rfl)
    | 1, _ => exact Op.value rfl rfl (Ops.run_move (y := .tmp 2) rfl (by kernel_rfl)) (hK' _ rfl)
    | 2, _ => exact Op.value rfl rfl (Ops.run_move (y := .tmp 7) rfl (by kernel_rfl)) (hK' _ rfl)
    | 3, _ => exact Op.value rfl rfl (Ops.run_len (y := .tmp 39) rfl (Ops.got (by kernel_rfl) (hx 2 (by kernel_rfl)))) (hK' _ rfl)
    | 4, _ => exact Op.called rfl rfl (Ops.run_call (vs := #[.int .i64 which, .int .i64 6]) rfl (Ops.got2 (by kernel_rfl) (hx 1 (by kernel_rfl)) (hx 3 (by kernel_rfl))) (by kernel_rfl)) ((HP6.out w).mono fun e w' h => ⟨_, h.1, by rw [h.2]; exact hK' _ rfl⟩)
    | 5, _ => exact Op.value rfl rfl (Ops.run_index (y := .tmp 37) (z := .tmp 41) (ao := ⟨gB, 0, none⟩) (n := 6) (c := 6) (k := k6) rfl (Ops.got (by kernel_rfl) (hx 0 (by kernel_rfl))) (Ops.got (by kernel_rfl) (hx 4 (by kernel_rfl))) L6.out.1) (hK' _ rfl)
    | 6, _ => exact Op.value rfl rfl (Ops.run_load_text (y := .tmp 42) rfl (Ops.got (by kernel_rfl) (hx 5 (by kernel_rfl))) hS.2.1) (hK' _ rfl)
    | 7, _ => exact Op.value rfl rfl (Ops.run_move (y := .tmp 8) rfl (by kernel_rfl)) (hK' _ rfl)
    | 8, _ => exact Op.value rfl rfl (Ops.run_move (y := .tmp 2) rfl (by kernel_rfl)) (hK' _ rfl)
    | 9, _ => exact Op.value rfl rfl (Ops.run_move (y := .tmp 8) rfl (by kernel_rfl)) (hK' _ rfl)
    | 10, _ => exact Op.value rfl rfl (Ops.run_len (y := .tmp 46) rfl (Ops.got (by kernel_rfl) (hx 9 (by kernel_rfl)))) (hK' _ rfl)
    | 11, _ => exact Op.called rfl rfl (Ops.run_call (vs := #[.int .i64 which, .int .i64 8]) rfl (Ops.got2 (by kernel_rfl) (hx 8 (by kernel_rfl)) (hx 10 (by kernel_rfl))) (by kernel_rfl)) ((HP8.out w).mono fun e w' h => ⟨_, h.1, by rw [h.2]; exact hK' _ rfl⟩)
    | 12, _ => exact Op.value rfl rfl (Ops.run_index (y := .tmp 44) (z := .tmp 48) (ao := ⟨gB + 1, 0, none⟩) (n := 8) (c := 8) (k := k8) rfl (Ops.got (by kernel_rfl) (hx 7 (by kernel_rfl))) (Ops.got (by kernel_rfl) (hx 11 (by kernel_rfl))) L6.out.2) (hK' _ rfl)
    | 13, _ => exact Op.value rfl rfl (Ops.run_load_text (y := .tmp 49) rfl (Ops.got (by kernel_rfl) (hx 12 (by kernel_rfl))) hS.2.2) (hK' _ rfl)
    | 14, _ => exact Op.value rfl rfl (Ops.run_assign (y := .tmp 43) rfl (Ops.got (by kernel_rfl) (hx 6 (by kernel_rfl)))) (hK' _ rfl)
    | 15, _ => exact Op.value rfl rfl (Ops.run_assign (y := .tmp 50) rfl (Ops.got (by kernel_rfl) (hx 13 (by kernel_rfl)))) (hK' _ rfl)
    | n + 16, h => exact absurd h (by omega)
  · intro x w7 hS hx
    have e14 := hx 14 (by decide) (fun _ _ => rfl)
    have e15 := hx 15 (by decide) (fun _ _ => rfl)
    simp only [Op.fillD, Act.put, List.setIfInBounds_toArray, List.set_cons_zero, List.set_cons_succ, e14, e15, List.getD_cons_zero, List.getD_cons_succ]
    clear e14 e15 hx S6 HP6 HP8 L6
    have T7 := Lib.hid hS.1
    clear hS
    refine hK7 _ _ ?_
    clear hK7
    refine wp_seq_k fun K8 hK8 => ?_
    have HL1 : Hid ((nmL (flatF 1 [e])).length ≤ 300) := Lib.hid (Nat.le_trans (nmL_le (List.prefix_refl _)) ((S1.out _ T7.out).few 1))
    have HL2 : Hid ((nmL (flatF 1 [f])).length ≤ 300) := Lib.hid (Nat.le_trans (nmL_le (List.prefix_refl _)) ((S2.out _ T7.out).few 1))
    have HM1 := Lib.hid (fun (w : World) (k : Two W e f w) => Names_any e w k.below.size (S1.out w k).kids (S1.out w k).cap (S1.out w k).tree.deep (S1.out w k).tree.nm (S1.out w k).tree.few)
    have HM2 := Lib.hid (fun (w : World) (k : Two W e f w) => Names_any f w k.below.size (S2.out w k).kids (S2.out w k).cap (S2.out w k).tree.deep (S2.out w k).tree.nm (S2.out w k).tree.few)
    refine Op.starts (P := Try.prog) [some 51, some 52, some 53, some 54, some 55, some 56, some 57, some 11]
      (fun w => Two W e f w) (P8 (W.heap.size + 1 + 1) e.val f.val (nmL (flatF 1 [e])) (nmL (flatF 1 [f])))
      (fun k j => k == 6 && (j == 0 || j == 2 || j == 3 || j == 5)) 8 (by kernel_rfl) (by kernel_rfl) (by kernel_rfl) (by kernel_rfl) (by kernel_rfl) (by kernel_rfl) (T7.out.keep (Below.refl _ w7).drew) ?_ ?_
    · intro i hi x w hS hx K hK
      have hK' : ∀ v w', Below w.heap.size w w' → P8 (W.heap.size + 1 + 1) e.val f.val (nmL (flatF 1 [e])) (nmL (flatF 1 [f])) i v w' → K _ w' := fun v w' hb hv => hK v w' (hS.keep (hb.mono hS.le)) hv (fun j u _ _ _ h => P8.keep hb h)
      match i, hi with
      | 0, _ => exact Op.value rfl rfl (Ops.run_row0 rfl) (hK' _ _ ((Below.refl _ w).alloc (Nat.le_refl _) _) ⟨_, rfl, World.alloc_heap_new w _, hS.le⟩)
      | 1, _ => exact Op.value rfl rfl (Ops.run_load_expr (y := .tmp 3) rfl (by kernel_rfl) hS.e) (hK' _ _ (Below.refl _ w) rfl)
      | 2, _ => exact Op.called rfl rfl (Ops.run_call (vs := #[e.val]) rfl (Ops.got1 (by kernel_rfl) (hx 1 (by kernel_rfl))) (by kernel_rfl)) ((HM1.out w hS).mono fun r w' ⟨v, hr, hb, hh⟩ => ⟨v, hr, hK' v w' hb (hh.low hS.le)⟩)
      | 3, _ =>
        obtain ⟨b, e0, hb, hZ⟩ := hx 0 (by kernel_rfl)
        obtain ⟨ao, cap, e2, hs⟩ := (hx 2 (by kernel_rfl) : Held _ _ _ _).sin
        obtain ⟨r, w', hr, hbw, hh⟩ := append_full (l := []) (c := cap) 27 hb rfl hZ hs (by have := HL1.out; simp; omega)
        exact Op.value rfl rfl (run_append_op (s := .tmp 51) (x := .tmp 53) rfl (Ops.got (by kernel_rfl) e0) (Ops.got (by kernel_rfl) e2) hr) (hK' _ _ hbw hh)
      | 4, _ => exact Op.value rfl rfl (Ops.run_load_expr (y := .tmp 4) rfl (by kernel_rfl) hS.f) (hK' _ _ (Below.refl _ w) rfl)
      | 5, _ => exact Op.called rfl rfl (Ops.run_call (vs := #[f.val]) rfl (Ops.got1 (by kernel_rfl) (hx 4 (by kernel_rfl))) (by kernel_rfl)) ((HM2.out w hS).mono fun r w' ⟨v, hr, hb, hh⟩ => ⟨v, hr, hK' v w' hb (hh.low hS.le)⟩)
      | 6, _ =>
        have h3 : Held _ _ _ _ := hx 3 (by kernel_rfl)
        obtain ⟨ao, cap, e5, hs⟩ := (hx 5 (by kernel_rfl) : Held _ _ _ _).sin
        obtain ⟨r, w', hr, hbw, hh⟩ := append_held (c := cap) 27 h3 hS.le hs (by have := HL1.out; have := HL2.out; omega)
        refine Op.value rfl rfl (run_append_op (s := .tmp 54) (x := .tmp 56) rfl (by kernel_rfl) (Ops.got (by kernel_rfl) e5) hr) (hK _ _ (hS.keep hbw) hh fun j u h1 h2 h3 h => ?_)
        match j, h1, h2, h3, h with
        | 0, h1, _, _, _ => cases h1
        | 1, _, _, _, h => exact h
        | 2, h1, _, _, _ => cases h1
        | 3, h1, _, _, _ => cases h1
        | 4, _, _, _, h => exact h
        | 5, h1, _, _, _ => cases h1
        | 6, _, h2, _, _ => exact absurd rfl h2
        | 7, _, _, h3, _ => exact absurd h3 (by rw [show Op.dep _ 7 6 = true by kernel_rfl]; simp)
        | j + 8, _, _, _, h => exact h
      | 7, _ => exact Op.value rfl rfl (Ops.run_assign (y := .tmp 57) rfl (by kernel_rfl)) (hK' _ _ (Below.refl _ w) (hx 6 (by kernel_rfl)))
      | n + 8, h => exact absurd h (by omega)
    · intro x w8 hS hx
      have h7 : Held _ w8 (x 7) _ := hx 7 (by decide) (fun k _ => by simp)
      have T8 := Lib.hid hS
      obtain ⟨ao, cap, e7, hs⟩ := h7.sin
      have N8 := Lib.hid hs
      simp only [Op.fillD, Act.put, List.setIfInBounds_toArray, List.set_cons_zero, List.set_cons_succ, e7]
      clear hs h7 hx e7 hS T7
      refine hK8 _ _ ?_
      clear hK8
      refine wp_seq_k fun K9 hK9 => ?_
      have HK9 := Lib.hid hK9
      clear hK9
      go_wp2
      refine HK9.out _ _ ?_
      clear HK9
      refine wp_seq_k fun K10 hK10 => ?_
      have HK10 := Lib.hid hK10
      clear hK10
      go_wp2
      refine HK10.out _ _ ?_
      clear HK10
      refine wp_seq_k fun K11 hK11 => ?_
      have HK11 := Lib.hid hK11
      clear hK11
      refine wp_seq_k fun K12 hK12 => ?_
      have HK12 := Lib.hid hK12
      clear hK12
      have IV : SIn w8 ao (nmL (flatF 1 [e]) ++ nmL (flatF 1 [f])) := N8.out
      refine Opg.starts (P := Try.prog) [some 60, some 61, some 62, some 63, some 64, some 65, some 66, some 67, some 68, some 69, some 70, some 71, some 72, some 73, some 74, some 75, some 76, some 77, some 78, some 79, some 80, some 81, some 82]
        (fun w => Two W e f w ∧ SIn w ao (nmL (flatF 1 [e]) ++ nmL (flatF 1 [f])))
        (P11 (W.heap.size + 1 + 1) e f g (nmL (flatF 1 [e])) (nmL (flatF 1 [f])) (.func (.func 29) #[] #[.pointer (some ⟨W.heap.size, 0, none⟩), .pointer (some ⟨W.heap.size + 1, 0, none⟩)]) (.func (.func 30) #[] #[.pointer (some ⟨W.heap.size, 0, none⟩)]) (.slice ao (nmL (flatF 1 [e]) ++ nmL (flatF 1 [f])).length cap))
        (fun _ _ => false) 23 (by kernel_rfl) (by kernel_rfl) (by kernel_rfl) (by kernel_rfl) (by kernel_rfl) (by kernel_rfl) ⟨T8.out.keep (Below.refl _ w8).drew, IV.kp (Below.refl _ w8).drew⟩ ?_ ?_
      · intro i hi x w hS hx ops' Q' a K hO hA hK
        have hK' : ∀ v w', Below w.heap.size w w' → P11 (W.heap.size + 1 + 1) e f g (nmL (flatF 1 [e])) (nmL (flatF 1 [f])) (.func (.func 29) #[] #[.pointer (some ⟨W.heap.size, 0, none⟩), .pointer (some ⟨W.heap.size + 1, 0, none⟩)]) (.func (.func 30) #[] #[.pointer (some ⟨W.heap.size, 0, none⟩)]) (.slice ao (nmL (flatF 1 [e]) ++ nmL (flatF 1 [f])).length cap) i v w' → K _ w' := fun v w' hb hv => hK v w' ⟨hS.1.keep (hb.mono hS.1.le), hS.2.kp hb⟩ hv (fun j u _ _ _ h => P11.keep hb h)
        match i, hi with
        | 0, _ => exact Opg.value hO (hK' _ _ (Below.refl _ w) rfl) (fun o ho => Ops.run_move (y := .tmp 12) ho (Opg.ev0 hA (by kernel_rfl))) (by kernel_rfl)
        | 1, _ => exact Opg.value hO (hK' _ _ (Below.refl _ w) rfl) (fun o ho => Ops.run_move (y := .tmp 9) ho (Opg.ev0 hA (by kernel_rfl))) (by kernel_rfl)
        | 2, _ => 
          obtain h0 : x 0 = _ := (hx 0 (by kernel_rfl))
          exact Opg.called (c := (.value (.tmp 60))) (ys := #[.tmp 61]) hO (fun o ts ho => Ops.run_callc (y := .tmp 60) (vs := #[.string (bytesOf g)]) ho (Opg.ev hA (by kernel_rfl) h0) (Opg.ev1 hA (by kernel_rfl) (hx 1 (by kernel_rfl))) (by kernel_rfl)) ((call_any g e f W.heap.size (W.heap.size + 1) w hS.1.e hS.1.f).mono fun r w' ⟨hr, hb, hh⟩ => ⟨_, hr, hK' _ w' hb ⟨_, rfl, hh⟩⟩) (by kernel_rfl)
        | 3, _ => 
          obtain ⟨r, e2, hr⟩ := ((hx 2 (by kernel_rfl)) : IsC _ _ _ _ _)
          exact Opg.called (c := (.value (.func 24))) (ys := #[.tmp 62]) hO (fun o ts ho => Ops.run_call (vs := #[(nC g r e f).val]) ho (Opg.ev1 hA (by kernel_rfl) e2) (by kernel_rfl)) ((names_nC (S1.out w hS.1) (S2.out w hS.1) hS.1.below.size HG.out.2 hr).mono fun r w' ⟨v, hr, hb, hh⟩ => ⟨v, hr, hK' v w' hb (hh.low hS.1.le)⟩) (by kernel_rfl)
        | 4, _ => exact Opg.value hO (hK' _ _ (Below.refl _ w) rfl) (fun o ho => Ops.run_move (y := .tmp 9) ho (Opg.ev0 hA (by kernel_rfl))) (by kernel_rfl)
        | 5, _ => exact Opg.value hO (hK' _ _ ((Below.refl _ w).alloc (Nat.le_refl _) _) ⟨_, rfl, World.alloc_heap_new w _, hS.1.le⟩) (fun o ho => Ops.run_row1 (y := .tmp 64) ho (Opg.ev hA (by kernel_rfl) (hx 4 (by kernel_rfl)))) (by kernel_rfl)
        | 6, _ => exact Opg.value hO (hK' _ _ (Below.refl _ w) rfl) (fun o ho => Ops.run_move (y := .tmp 11) ho (Opg.ev0 hA (by kernel_rfl))) (by kernel_rfl)
        | 7, _ => 
          obtain ⟨b', e5, hb', hZ⟩ := ((hx 5 (by kernel_rfl)) : Row1 _ _ _ _)
          obtain ⟨r, w', hr, hbw, hh⟩ := append_full (l := [g]) (c := cap) 27 hb' rfl hZ hS.2 (by have := HL1.out; have := HL2.out; simp; omega)
          exact Opg.valueT (ty := 27) hO (hK' _ _ hbw hh) (fun o ho hty => As.run_append_op (t := 27) (s := .tmp 65) (x := .tmp 66) ho (Opg.ev hA (by kernel_rfl) e5) (Opg.ev hA (by kernel_rfl) (hx 6 (by kernel_rfl))) (by rw [hty]; exact hr)) (by kernel_rfl)
        | 8, _ => 
          obtain ⟨a3, c3, e3, s3⟩ := ((hx 3 (by kernel_rfl)) : Held _ _ _ _).sin
          obtain ⟨a7, c7, e7, s7⟩ := ((hx 7 (by kernel_rfl)) : Held _ _ _ _).sin
          exact Opg.called (c := (.value (.func 23))) (ys := #[.tmp 63, .tmp 67]) hO (fun o ts ho => Ops.run_call ho (Opg.ev2 hA (by kernel_rfl) e3 e7) (by kernel_rfl)) ((Texts_any a3 a7 c3 c7 _ _ w s3 s7 (by have := HL1.out; have := HL2.out; simp; omega) true (by simp)).mono fun r w' ⟨hr, hq⟩ => ⟨_, hr, hK' _ w' hq.below rfl⟩) (by kernel_rfl)
        | 9, _ => exact Opg.value hO (hK' _ _ (Below.refl _ w) rfl) (fun o ho => Ops.run_not (t := 4) (y := .tmp 68) (b := true) ho (Opg.ev hA (by kernel_rfl) (hx 8 (by kernel_rfl)))) (by kernel_rfl)
        | 10, _ => exact Opg.value hO (hK' _ _ (Below.refl _ w) rfl) (fun o ho => Ops.run_move (y := .tmp 69) ho (Opg.ev hA (by kernel_rfl) (hx 9 (by kernel_rfl)))) (by kernel_rfl)
        | 11, _ => exact Opg.valueG hO (g := 10) (t := 70) (b := false) (Opg.ev hA (by kernel_rfl) (hx 10 (by kernel_rfl))) (hK' _ _ (Below.refl _ w) rfl) (fun o ho => Ops.run_move (y := .tmp 13) ho (Opg.ev0 hA (by kernel_rfl))) (by kernel_rfl) (by kernel_rfl)
        | 12, _ => exact Opg.valueG hO (g := 10) (t := 70) (b := false) (Opg.ev hA (by kernel_rfl) (hx 10 (by kernel_rfl))) (hK' _ _ (Below.refl _ w) rfl) (fun o ho => Ops.run_move (y := .tmp 9) ho (Opg.ev0 hA (by kernel_rfl))) (by kernel_rfl) (by kernel_rfl)
        | 13, _ =>
          obtain h11 : x 11 = _ := (hx 11 (by kernel_rfl))
          exact Opg.calledG (c := .value (.tmp 71)) (ys := #[.tmp 72]) hO (g := 10) (t := 70) (b := false) (Opg.ev hA (by kernel_rfl) (hx 10 (by kernel_rfl))) (fun o ts ho => Ops.run_callc (y := .tmp 71) (vs := #[.string (bytesOf g)]) ho (Opg.ev hA (by kernel_rfl) h11) (Opg.ev1 hA (by kernel_rfl) (hx 12 (by kernel_rfl))) (by kernel_rfl)) ((index_any g e W.heap.size w hS.1.e).mono fun r w' ⟨hr, hb, hh⟩ => ⟨_, hr, hK' _ w' hb ⟨_, rfl, hh⟩⟩) (by kernel_rfl) (by kernel_rfl)
        | 14, _ =>
          obtain ⟨r, e2, hr⟩ := ((hx 13 (by kernel_rfl)) : IsI _ _ _ _)
          exact Opg.calledG (c := .value (.func 24)) (ys := #[.tmp 73]) hO (g := 10) (t := 70) (b := false) (Opg.ev hA (by kernel_rfl) (hx 10 (by kernel_rfl))) (fun o ts ho => Ops.run_call (vs := #[(nI g r e).val]) ho (Opg.ev1 hA (by kernel_rfl) e2) (by kernel_rfl)) ((names_nI (S1.out w hS.1) hS.1.below.size HG.out.2 hr).mono fun r w' ⟨v, hr, hb, hh⟩ => ⟨v, hr, hK' v w' hb (hh.low hS.1.le)⟩) (by kernel_rfl) (by kernel_rfl)
        | 15, _ => exact Opg.valueG hO (g := 10) (t := 70) (b := false) (Opg.ev hA (by kernel_rfl) (hx 10 (by kernel_rfl))) (hK' _ _ (Below.refl _ w) rfl) (fun o ho => Ops.run_move (y := .tmp 9) ho (Opg.ev0 hA (by kernel_rfl))) (by kernel_rfl) (by kernel_rfl)
        | 16, _ => exact Opg.valueG hO (g := 10) (t := 70) (b := false) (Opg.ev hA (by kernel_rfl) (hx 10 (by kernel_rfl))) (hK' _ _ ((Below.refl _ w).alloc (Nat.le_refl _) _) ⟨_, rfl, World.alloc_heap_new w _, hS.1.le⟩) (fun o ho => Ops.run_row1 (y := .tmp 75) ho (Opg.ev hA (by kernel_rfl) (hx 15 (by kernel_rfl)))) (by kernel_rfl) (by kernel_rfl)
        | 17, _ => exact Opg.valueG hO (g := 10) (t := 70) (b := false) (Opg.ev hA (by kernel_rfl) (hx 10 (by kernel_rfl))) (hK' _ _ (Below.refl _ w) rfl) (fun o ho => Ops.run_load_expr (y := .tmp 3) ho (Opg.ev0 hA (by kernel_rfl)) hS.1.e) (by kernel_rfl) (by kernel_rfl)
        | 18, _ => exact Opg.calledG (c := .value (.func 24)) (ys := #[.tmp 77]) hO (g := 10) (t := 70) (b := false) (Opg.ev hA (by kernel_rfl) (hx 10 (by kernel_rfl))) (fun o ts ho => Ops.run_call (vs := #[e.val]) ho (Opg.ev1 hA (by kernel_rfl) (hx 17 (by kernel_rfl))) (by kernel_rfl)) ((HM1.out w hS.1).mono fun r w' ⟨v, hr, hb, hh⟩ => ⟨v, hr, hK' v w' hb (hh.low hS.1.le)⟩) (by kernel_rfl) (by kernel_rfl)
        | 19, _ =>
          obtain ⟨b', e5, hb', hZ⟩ := ((hx 16 (by kernel_rfl)) : Row1 _ _ _ _)
          obtain ⟨a8, c8, e8, s8⟩ := ((hx 18 (by kernel_rfl)) : Held _ _ _ _).sin
          obtain ⟨r, w', hr, hbw, hh⟩ := append_full (l := [g]) (c := c8) 27 hb' rfl hZ s8 (by have := HL1.out; simp; omega)
          exact Opg.valueTG (ty := 27) hO (g := 10) (t := 70) (b := false) (Opg.ev hA (by kernel_rfl) (hx 10 (by kernel_rfl))) (hK' _ _ hbw hh) (fun o ho hty => As.run_append_op (t := 27) (s := .tmp 76) (x := .tmp 78) ho (Opg.ev hA (by kernel_rfl) e5) (Opg.ev hA (by kernel_rfl) e8) (by rw [hty]; exact hr)) (by kernel_rfl) (by kernel_rfl)
        | 20, _ =>
          obtain ⟨a3, c3, e3, s3⟩ := ((hx 14 (by kernel_rfl)) : Held _ _ _ _).sin
          obtain ⟨a7, c7, e7, s7⟩ := ((hx 19 (by kernel_rfl)) : Held _ _ _ _).sin
          exact Opg.calledG (c := .value (.func 23)) (ys := #[.tmp 74, .tmp 79]) hO (g := 10) (t := 70) (b := false) (Opg.ev hA (by kernel_rfl) (hx 10 (by kernel_rfl))) (fun o ts ho => Ops.run_call ho (Opg.ev2 hA (by kernel_rfl) e3 e7) (by kernel_rfl)) ((Texts_any a3 a7 c3 c7 _ _ w s3 s7 (by have := HL1.out; simp; omega) true (by simp)).mono fun r w' ⟨hr, hq⟩ => ⟨_, hr, hK' _ w' hq.below rfl⟩) (by kernel_rfl) (by kernel_rfl)
        | 21, _ => exact Opg.valueG hO (g := 10) (t := 70) (b := false) (Opg.ev hA (by kernel_rfl) (hx 10 (by kernel_rfl))) (hK' _ _ (Below.refl _ w) rfl) (fun o ho => Ops.run_not (t := 4) (y := .tmp 80) (b := true) ho (Opg.ev hA (by kernel_rfl) (hx 20 (by kernel_rfl)))) (by kernel_rfl) (by kernel_rfl)
        | 22, _ => exact Opg.value hO (hK' _ _ (Below.refl _ w) rfl) (fun o ho => Opg.run_pickF (c := .tmp 70) (y := .const (.bool true)) (z := .tmp 81) ho (Opg.ev hA (by kernel_rfl) (hx 10 (by kernel_rfl))) (Opg.ev hA (by kernel_rfl) (hx 21 (by kernel_rfl)))) (by kernel_rfl)
        | n + 23, h => exact absurd h (by omega)
      · intro x w11 hS hx
        have e22 := hx 22 (by decide) (fun _ _ => rfl)
        simp only [Op.fillD, Act.put, List.setIfInBounds_toArray, List.set_cons_zero, List.set_cons_succ, show x (0 + 1 + 1 + 1 + 1 + 1 + 1 + 1 + 1 + 1 + 1 + 1 + 1 + 1 + 1 + 1 + 1 + 1 + 1 + 1 + 1 + 1 + 1) = .bool false from e22]
        clear e22 hx
        have T11 := Lib.hid hS.1
        clear hS IV N8 T8 HL1 HL2 HM1 HM2
        refine HK12.out _ _ ?_
        clear HK12
        go_wp2
        refine HK11.out _ _ ?_
        clear HK11
        go_wp2_with (refine (index_any g e W.heap.size _ T11.out.e).mono ?_)
        rintro r w12 ⟨rfl, b12, r12⟩
        have T12 := Lib.hid (T11.out.keep (b12.mono T11.out.le))
        have R12 := Lib.hid r12
        clear b12 r12 T11
        generalize w11.heap.size + 1 = r1 at *
        go_wp2_with (refine (check_nI (HU.out _ T12.out) (S1.out _ T12.out) T12.out.below.size HG.out.2.2 R12.out).mono ?_)
        rintro r w13 ⟨rfl, b13⟩
        have T13 := Lib.hid (T12.out.keep (b13.mono T12.out.le))
        have hc1 := nI_ok HG.out.1 r1 C1.out
        clear b13 R12 T12
        generalize chk u (flatF 1 [nI g r1 e]) = c at *
        rcases hc1 with rfl | rfl
        all_goals
          go_wp2_with (refine (index_any b e W.heap.size _ T13.out.e).mono ?_)
          rintro r w14 ⟨rfl, b14, r14⟩
          have T14 := Lib.hid (T13.out.keep (b14.mono T13.out.le))
          have R14 := Lib.hid r14
          clear b14 r14 T13
          generalize w13.heap.size + 1 = r2 at *
          go_wp2_with (refine (check_nI (HU.out _ T14.out) (S1.out _ T14.out) T14.out.below.size HB.out.2 R14.out).mono ?_)
          rintro r w15 ⟨rfl, b15⟩
          have T15 := Lib.hid (T14.out.keep (b15.mono T14.out.le))
          have hc2 := chk_bad (nI_bad u HB.out.1 r2 e)
          clear b15 R14 T14
          generalize chk u (flatF 1 [nI b r2 e]) = c at *
          rcases hc2 with rfl | rfl
          all_goals
            go_wp2_with (refine (call_any b e f W.heap.size (W.heap.size + 1) _ T15.out.e T15.out.f).mono ?_)
            rintro r w16 ⟨rfl, b16, r16⟩
            have T16 := Lib.hid (T15.out.keep (b16.mono T15.out.le))
            have R16 := Lib.hid r16
            clear b16 r16 T15
            generalize w15.heap.size + 1 = r3 at *
            go_wp2_with (refine (check_nC (HU.out _ T16.out) (S1.out _ T16.out) (S2.out _ T16.out) T16.out.below.size HB.out.2 R16.out).mono ?_)
            rintro r w17 ⟨rfl, b17⟩
            have T17 := Lib.hid (T16.out.keep (b17.mono T16.out.le))
            have hc3 := chk_bad (nC_bad u HB.out.1 r3 e f)
            clear b17 R16 T16
            generalize chk u (flatF 1 [nC b r3 e f]) = c at *
            rcases hc3 with rfl | rfl
            all_goals
              have TA := Lib.hid (T17.out.keep (((Below.refl _ w17).alloc (Nat.le_refl _) (.cells #[.string (bytesOf g), .string (bytesOf b)] 9)).mono T17.out.le))
              have HA := Lib.hid (check_sAt (u := u) (R := w17.heap.size) (l := [g, b]) (HU.out _ TA.out) (by simp) (by have := HG.out.2.2; have := HB.out.2; simp; omega) (World.alloc_heap_new w17 _) rfl 2 (sAt_two u _ HB.out.1))
              clear T17
              go_wp2_with (refine (show Calls _ _ #[.agg #[.int .i64 10, .int .i64 0, .int .i64 0, .int .i64 0, .string ⟨#[]⟩, .slice (some ⟨w17.heap.size, 0, none⟩) 2 2, .slice none 0 0, .slice none 0 0, .slice none 0 0, .slice none 0 0]] _ _ from HA.out).mono ?_)
              rintro r w18 ⟨rfl, b18⟩
              have T18 := Lib.hid (TA.out.keep (b18.mono TA.out.le))
              clear b18 HA TA
              have TA := Lib.hid (T18.out.keep (((Below.refl _ w18).alloc (Nat.le_refl _) (.cells #[.string (bytesOf g)] 9)).mono T18.out.le))
              have HA := Lib.hid (check_sAt (u := u) (R := w18.heap.size) (l := [g]) (HU.out _ TA.out) (by simp) (by have := HG.out.2.2; simp; omega) (World.alloc_heap_new w18 _) rfl 0 (sAt_one u _ HG.out.1))
              clear T18
              go_wp2_with (refine (show Calls _ _ #[.agg #[.int .i64 10, .int .i64 0, .int .i64 0, .int .i64 0, .string ⟨#[]⟩, .slice (some ⟨w18.heap.size, 0, none⟩) 1 1, .slice none 0 0, .slice none 0 0, .slice none 0 0, .slice none 0 0]] _ _ from HA.out).mono ?_)
              rintro r w19 ⟨rfl, b19⟩
              have T19 := Lib.hid (TA.out.keep (b19.mono TA.out.le))
              clear b19 HA TA
              go_wp2
              go_ret
              exact ⟨rfl, T19.out.below⟩
end As
end Go.Proofs.Ytbedcplkcaanhaa
