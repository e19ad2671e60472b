/-
  WALKS: the law AstNames. Own work.
-/
import Derived.Test.YtenlikjfpniilaaAsWhole
import Derived.Test.YtenlikjfpniilaaAsLives
namespace Go.Proofs.Ytenlikjfpniilaa
namespace As
open Go.RowKit Go Go.Shelf
set_option linter.unusedVariables false

/-- The chapter's program. -/
def nB : Nd := .mk 2 0 0 0 [98] none 0 []
def sB (a : Nat) (li : Int) : St := .mk 2 li 0 0 [97] ⟨none, 0, []⟩ ⟨none, 0, []⟩ ⟨some ⟨a, 0, none⟩, 1, [nB]⟩ none 0 [] none 0 []
def dM (a b : Nat) (sli li : Int) : Dc := ⟨2, [], none, 0, [], 0, 0, ⟨some ⟨b, 0, none⟩, 1, [sB a sli]⟩, li⟩
def pP (a b c : Nat) (sli li : Int) : Pg := ⟨9, none, 0, 0, none, 0, 0, some ⟨c, 0, none⟩, 1, [dM a b sli li]⟩
def oA : Obj := .cells #[.int .i64 2, .int .i64 0, .int .i64 0, .int .u32 0, .string ⟨#[98]⟩, .slice none 0 0] 25
def oB (a : Nat) (li : Int) : Obj := .cells #[.int .i64 2, .int .i64 li, .int .i64 0, .int .i64 0, .string ⟨#[97]⟩, .slice none 0 0, .slice none 0 0, .slice (some ⟨a, 0, none⟩) 1 1, .slice none 0 0, .slice none 0 0] 30
def oC (b : Nat) (li : Int) : Obj := .cells #[.int .i64 2, .string ⟨#[]⟩, .slice none 0 0, .int .i64 0, .int .i64 0, .slice (some ⟨b, 0, none⟩) 1 1, .int .i64 li] 33
def oD (c : Nat) : Obj := .cells #[.int .i64 9, .slice none 0 0, .slice none 0 0, .slice (some ⟨c, 0, none⟩) 1 1] 38
theorem kB : Lx.kindA [98] = 1 := by decide +kernel
theorem pP_flat (a b c : Nat) (sli li : Int) : flatS 1 (bodL (pP a b c sli li).fs) = [(1, sB a sli)] := by simp [pP, dM, sB, bodL, flatS, flatT1_eq, St.kids, St.th, St.el]
theorem pP_parts (a b c : Nat) (sli li : Int) : ptsL (pP a b c sli li).fs = [(1, .s (sB a sli)), (2, .e nB)] := by
  unfold ptsL
  rw [pP_flat]
  simp [partsL, oneP, sB, St.xs, St.ix, St.ex, flatF, flatN_eq, nB, Nd.kids, ofE]
theorem sB_valid (a : Nat) {li : Int} (h : 0 ≤ li) : vS (sB a li) = true := by
  simp [vS, fitS, fB, sB, St.k, St.li, St.t, St.n, St.nm, St.ns, St.ix, St.ex, St.th, St.el, h, kA]
theorem nB_valid (u : Nat → ByteArray) : vN u nB = true := by simp [vN, vB, nB, Nd.k, Nd.o, Nd.t, Nd.n, Nd.nm, Nd.kids, kB]
theorem pP_chk (u : Nat → ByteArray) (a b c : Nat) {sli : Int} (li : Int) (h : 0 ≤ sli) : chkP u (ptsL (pP a b c sli li).fs) = 0 := by
  rw [pP_parts]
  simp [chkP, tooM, vP, sB_valid a h, nB_valid u]
theorem pgIn {w : World} {N a b c : Nat} {sli li : Int} (h0 : w.heap[a]? = some oA) (h1 : w.heap[b]? = some (oB a sli)) (h2 : w.heap[c]? = some (oC b li)) (ha : a < N) (hb : b < N) (hc : c < N) : PgIn w N (pP a b c sli li) := by
  have z0 := (Array.getElem?_eq_some_iff.1 h0).1
  have z1 := (Array.getElem?_eq_some_iff.1 h1).1
  have z2 := (Array.getElem?_eq_some_iff.1 h2).1
  have rA : Nds w N (some ⟨a, 0, none⟩) [nB] := row_1 (N := 0) (e := nB) (.none _) (by decide) (Nat.zero_le _) ha h0
  have rS : StIn w N (sB a sli) := ⟨.inl rfl, .none _, rA, by simp [Capd, sB, St.ns], by simp [Capd, sB, St.ix], by simp [Capd, sB, St.ex], by simp [Capd, sB, St.th, St.tc], by simp [Capd, sB, St.el, St.lc]⟩
  have rB : Sts w N (some ⟨b, 0, none⟩) [sB a sli] := by
    refine .some b 0 _ hb z1 ?_ ?_ ?_ ?_
    · intro i j hi hj
      obtain rfl : i = 0 := by simpa using hi
      have := st_cells (s := sB a sli) h1 j hj
      simpa using this
    · intro i hi
      obtain rfl : i = 0 := by simpa using hi
      exact rS
    · intro i hi
      obtain rfl : i = 0 := by simpa using hi
      exact .none _
    · intro i hi
      obtain rfl : i = 0 := by simpa using hi
      exact .none _
  refine ⟨.inr ⟨c, 0, rfl, hc, z2, ?_, ?_⟩, by simp [pP], ⟨?_, ?_⟩, ?_, by rw [pP_parts]; simp⟩
  · intro i j hi hj
    obtain rfl : i = 0 := by simpa [pP] using hi
    rcases (by omega : j = 0 ∨ j = 1 ∨ j = 2 ∨ j = 3 ∨ j = 4 ∨ j = 5 ∨ j = 6) with rfl | rfl | rfl | rfl | rfl | rfl | rfl <;> simp [World.cell?, h2, oC, pP, dM, Dc.cell, bytesOf]
  · intro d hd
    obtain rfl : d = dM a b sli li := by simpa [pP] using hd
    exact ⟨.inl rfl, rB, by simp [Capd, dM], by simp [Capd, dM]⟩
  · simp [pP, dM, bodL, htS, htT_eq, sB, St.kids, St.th, St.el]
  · rw [pP_flat]
    intro p hp
    obtain rfl : p = (1, sB a sli) := by simpa using hp
    simp [sB, St.xs, St.ix, St.ex, htF, htN_eq, nB, Nd.kids]
  · rw [pP_parts]
    intro p hp
    rcases (by simpa using hp : p = (1, .s (sB a sli)) ∨ p = (2, .e nB)) with rfl | rfl
    · exact ⟨by simp, by simp [sB, St.nm], by simp [sB, St.ns]⟩
    · exact ⟨by simp, by simp [nB, Nd.nm], by simp [nB, Nd.kids]⟩
theorem dM_main (a b : Nat) (sli : Int) {li : Int} (h : 0 ≤ li) : MainD (dM a b sli li) := ⟨rfl, rfl, rfl, rfl, rfl, h⟩
theorem dM_same (a b a' b' : Nat) (x y x' y' : Int) : SameD (dM a b x y) (dM a' b' x' y') := ⟨rfl, rfl, rfl, rfl, rfl, rfl, by simp [dM, shT_eq, sB, St.k, St.t, St.n, St.nm, St.ns, St.ix, St.ex, St.th, St.el]⟩
/-- An interrupt line that is none. -/
def sE : St := .mk 7 0 0 32 [] ⟨none, 0, []⟩ ⟨none, 0, []⟩ ⟨none, 0, []⟩ none 0 [] none 0 []
theorem sE_parts : partsL (flatS 1 [sE]) = [(1, .s sE)] := by simp [sE, flatS, flatT1_eq, St.kids, St.th, St.el, partsL, oneP, St.xs, St.ix, St.ex, flatF]
theorem sE_chk (u : Nat → ByteArray) : chkP u (partsL (flatS 1 [sE])) = 2 := by
  rw [sE_parts]
  simp [chkP, tooM, vP, vS, fitS, fB, sE, St.k, St.li, St.t, St.n, St.nm, St.ns, St.ix, St.ex, St.th, St.el]
/-- Known blocks. -/
def Facts (w : World) (L : List (Nat × Obj)) : Prop := ∀ x ∈ L, w.heap[x.1]? = some x.2
theorem Facts.keep {w w' : World} {L : List (Nat × Obj)} (h : Facts w L) (k : Below w.heap.size w w') : Facts w' L := fun x hx => (k.block _ (Array.getElem?_eq_some_iff.1 (h x hx)).1).trans (h x hx)
theorem at5_0 (w : World) (o0 o1 o2 o3 o4 : Obj) : (((((w.alloc o0).alloc o1).alloc o2).alloc o3).alloc o4).heap[w.heap.size]? = some o0 := by
  show (((((w.heap.push o0).push o1).push o2).push o3).push o4)[w.heap.size]? = _
  rw [Array.getElem?_eq_getElem (by simp; omega)]
  simp [Array.getElem_push]
  rw [if_pos (by omega), if_pos (by omega), if_pos (by omega)]
theorem at5_1 (w : World) (o0 o1 o2 o3 o4 : Obj) : (((((w.alloc o0).alloc o1).alloc o2).alloc o3).alloc o4).heap[w.heap.size + 1]? = some o1 := by
  show (((((w.heap.push o0).push o1).push o2).push o3).push o4)[w.heap.size + 1]? = _
  rw [Array.getElem?_eq_getElem (by simp)]
  simp [Array.getElem_push]
theorem at5_2 (w : World) (o0 o1 o2 o3 o4 : Obj) : (((((w.alloc o0).alloc o1).alloc o2).alloc o3).alloc o4).heap[w.heap.size + 1 + 1]? = some o2 := by
  show (((((w.heap.push o0).push o1).push o2).push o3).push o4)[w.heap.size + 1 + 1]? = _
  rw [Array.getElem?_eq_getElem (by simp)]
  simp [Array.getElem_push]
theorem at5_3 (w : World) (o0 o1 o2 o3 o4 : Obj) : (((((w.alloc o0).alloc o1).alloc o2).alloc o3).alloc o4).heap[w.heap.size + 1 + 1 + 1]? = some o3 := by
  show (((((w.heap.push o0).push o1).push o2).push o3).push o4)[w.heap.size + 1 + 1 + 1]? = _
  rw [Array.getElem?_eq_getElem (by simp)]
  simp [Array.getElem_push]
theorem at5_4 (w : World) (o0 o1 o2 o3 o4 : Obj) : (((((w.alloc o0).alloc o1).alloc o2).alloc o3).alloc o4).heap[w.heap.size + 1 + 1 + 1 + 1]? = some o4 := by
  show (((((w.heap.push o0).push o1).push o2).push o3).push o4)[w.heap.size + 1 + 1 + 1 + 1]? = _
  rw [Array.getElem?_eq_getElem (by simp)]
  simp [Array.getElem_push]
theorem setCell_D {w : World} {e c c' : Nat} (h : w.heap[e]? = some (oD c)) : (w.setCell ⟨e, 3, none⟩ (.slice (some ⟨c', 0, none⟩) 1 1)).heap[e]? = some (oD c') := by
  unfold oD at *
  simp [World.setCell, Array.getElem?_modify, h]
theorem width_4 (w : World) : Calls Try.prog 14 #[.int .i64 4] w fun e w' => e = .returned (.int .i64 32) ∧ w' = w := by
  go_enter Try.func14, Try.ntmps14
  go_wp2
  go_ret
  exact ⟨rfl, rfl⟩
theorem width_0 (w : World) : Calls Try.prog 14 #[.int .i64 0] w fun e w' => e = .returned (.int .i64 0) ∧ w' = w := by
  go_enter Try.func14, Try.ntmps14
  go_wp2
  go_ret
  exact ⟨rfl, rfl⟩
/-- The program that is none. -/
def pZ : Pg := ⟨0, none, 0, 0, none, 0, 0, none, 0, []⟩
theorem pZ_parts : ptsL pZ.fs = [] := by simp [ptsL, pZ, bodL, flatS, partsL]
theorem pZ_chk (u : Nat → ByteArray) : chkP u (ptsL pZ.fs) = 0 := by rw [pZ_parts]; simp [chkP, tooM]
theorem pZ_in (w : World) : PgIn w 0 pZ := by
  refine ⟨.inl rfl, by simp [pZ], ⟨by simp [pZ, bodL, htS], by simp [pZ, bodL, flatS]⟩, fun p hp => (by rw [pZ_parts] at hp; cases hp), by rw [pZ_parts]; simp⟩
theorem sE_in {w : World} : StIn w 0 sE ∧ Sts w 0 sE.ta sE.th ∧ Sts w 0 sE.la sE.el :=
  ⟨⟨.inl rfl, .none _, .none _, by simp [Capd, sE, St.ns], by simp [Capd, sE, St.ix], by simp [Capd, sE, St.ex], by simp [Capd, sE, St.th, St.tc], by simp [Capd, sE, St.el, St.lc]⟩, .none _, .none _⟩
theorem sE_deep : DeepQ [sE] := by
  refine ⟨by simp [htS, htT_eq, sE, St.kids, St.th, St.el], fun p hp => ?_⟩
  have : p = (1, sE) := by simpa [sE, flatS, flatT1_eq, St.kids, St.th, St.el] using hp
  subst this
  simp [sE, St.xs, St.ix, St.ex, htF]
theorem sE_fit : FitQ (partsL (flatS 1 [sE])) := by
  rw [sE_parts]
  intro p hp
  obtain rfl : p = (1, .s sE) := by simpa using hp
  exact ⟨by simp, by simp [sE, St.nm], by simp [sE, St.ns]⟩
set_option maxHeartbeats 8000000 in
set_option maxRecDepth 100000 in
theorem names_walk {u : Nat → ByteArray} (w : World) (hu : UnT u w) :
    Calls Try.prog 3 #[] w fun e w' => e = .returned (.bool true) ∧ Below w.heap.size w w' := by
  have HU := Lib.hid hu
  clear hu
  go_enter Try.func3, Try.ntmps3
  go_wp2_with (refine (name_any _ _).mono ?_)
  rintro e w1 ⟨rfl, b1⟩
  have B1 := Lib.hid b1
  clear b1
  go_wp2_with (refine (name_any _ _).mono ?_)
  rintro e w2 ⟨rfl, b2⟩
  have hA := at5_0 w1 oA (oB w1.heap.size 0) (oC (w1.heap.size + 1) 0) (oD (w1.heap.size + 1 + 1)) (oD (w1.heap.size + 1 + 1))
  have hB := at5_1 w1 oA (oB w1.heap.size 0) (oC (w1.heap.size + 1) 0) (oD (w1.heap.size + 1 + 1)) (oD (w1.heap.size + 1 + 1))
  have hC := at5_2 w1 oA (oB w1.heap.size 0) (oC (w1.heap.size + 1) 0) (oD (w1.heap.size + 1 + 1)) (oD (w1.heap.size + 1 + 1))
  have hD := at5_3 w1 oA (oB w1.heap.size 0) (oC (w1.heap.size + 1) 0) (oD (w1.heap.size + 1 + 1)) (oD (w1.heap.size + 1 + 1))
  have hE := at5_4 w1 oA (oB w1.heap.size 0) (oC (w1.heap.size + 1) 0) (oD (w1.heap.size + 1 + 1)) (oD (w1.heap.size + 1 + 1))
  have F5 : Facts (((((w1.alloc oA).alloc (oB w1.heap.size 0)).alloc (oC (w1.heap.size + 1) 0)).alloc (oD (w1.heap.size + 1 + 1))).alloc (oD (w1.heap.size + 1 + 1))) [(w1.heap.size, oA), (w1.heap.size + 1, oB w1.heap.size 0), (w1.heap.size + 1 + 1, oC (w1.heap.size + 1) 0), (w1.heap.size + 1 + 1 + 1, oD (w1.heap.size + 1 + 1)), (w1.heap.size + 1 + 1 + 1 + 1, oD (w1.heap.size + 1 + 1))] := fun x hx => by
    simp only [List.mem_cons, List.not_mem_nil, or_false] at hx
    rcases hx with rfl | rfl | rfl | rfl | rfl
    · exact hA
    · exact hB
    · exact hC
    · exact hD
    · exact hE
  have bc : Below w1.heap.size w1 (((((w1.alloc oA).alloc (oB w1.heap.size 0)).alloc (oC (w1.heap.size + 1) 0)).alloc (oD (w1.heap.size + 1 + 1))).alloc (oD (w1.heap.size + 1 + 1))) := (((((Below.refl _ w1).alloc (Nat.le_refl _) _).alloc (by simp) _).alloc (by simp; omega) _).alloc (by simp; omega) _).alloc (by simp; omega) _
  have F2 := Lib.hid (F5.keep b2)
  have HB2 := Lib.hid ((B1.out.trans (bc.mono B1.out.size)).trans (b2.mono (Nat.le_trans B1.out.size bc.size)))
  have h2E := F2.out (w1.heap.size + 1 + 1 + 1 + 1, oD (w1.heap.size + 1 + 1)) (by simp)
  dsimp only at h2E
  have hE2 := (Array.getElem?_eq_some_iff.1 h2E).1
  have e3 : w2.cell? ⟨w1.heap.size + 1 + 1 + 1 + 1, 3, none⟩ = some (.slice (some ⟨w1.heap.size + 1 + 1, 0, none⟩) 1 1) := by simp [World.cell?, h2E, oD]
  have f3 : w2.frozen? ⟨w1.heap.size + 1 + 1 + 1 + 1, 3, none⟩ = false := by simp [World.frozen?, h2E, oD]
  have HH2E := Lib.hid h2E
  clear hA hB hC hD hE F5 bc b2 h2E
  have k3 : Below w2.heap.size w2 (((w2.alloc (.cells #[.int .i64 2, .int .i64 0, .int .i64 0, .int .u32 0, .string ⟨#[98]⟩, .slice none 0 0] 25)).alloc (.cells #[.int .i64 2, .int .i64 8, .int .i64 0, .int .i64 0, .string ⟨#[97]⟩, .slice none 0 0, .slice none 0 0, .slice (some ⟨w2.heap.size, 0, none⟩) 1 1, .slice none 0 0, .slice none 0 0] 30)).alloc (.cells #[.int .i64 2, .string ⟨#[]⟩, .slice none 0 0, .int .i64 0, .int .i64 0, .slice (some ⟨w2.heap.size + 1, 0, none⟩) 1 1, .int .i64 7] 33)) := (((Below.refl _ w2).alloc (Nat.le_refl _) _).alloc (by simp) _).alloc (by simp; omega) _
  have e4 : (((w2.alloc (.cells #[.int .i64 2, .int .i64 0, .int .i64 0, .int .u32 0, .string ⟨#[98]⟩, .slice none 0 0] 25)).alloc (.cells #[.int .i64 2, .int .i64 8, .int .i64 0, .int .i64 0, .string ⟨#[97]⟩, .slice none 0 0, .slice none 0 0, .slice (some ⟨w2.heap.size, 0, none⟩) 1 1, .slice none 0 0, .slice none 0 0] 30)).alloc (.cells #[.int .i64 2, .string ⟨#[]⟩, .slice none 0 0, .int .i64 0, .int .i64 0, .slice (some ⟨w2.heap.size + 1, 0, none⟩) 1 1, .int .i64 7] 33)).cell? ⟨w1.heap.size + 1 + 1 + 1 + 1, 3, none⟩ = some (.slice (some ⟨w1.heap.size + 1 + 1, 0, none⟩) 1 1) := (k3.cell (p := ⟨w1.heap.size + 1 + 1 + 1 + 1, 3, none⟩) hE2).trans e3
  have f4 : (((w2.alloc (.cells #[.int .i64 2, .int .i64 0, .int .i64 0, .int .u32 0, .string ⟨#[98]⟩, .slice none 0 0] 25)).alloc (.cells #[.int .i64 2, .int .i64 8, .int .i64 0, .int .i64 0, .string ⟨#[97]⟩, .slice none 0 0, .slice none 0 0, .slice (some ⟨w2.heap.size, 0, none⟩) 1 1, .slice none 0 0, .slice none 0 0] 30)).alloc (.cells #[.int .i64 2, .string ⟨#[]⟩, .slice none 0 0, .int .i64 0, .int .i64 0, .slice (some ⟨w2.heap.size + 1, 0, none⟩) 1 1, .int .i64 7] 33)).frozen? ⟨w1.heap.size + 1 + 1 + 1 + 1, 3, none⟩ = false := (k3.frozen (p := ⟨w1.heap.size + 1 + 1 + 1 + 1, 3, none⟩) hE2).trans f3
  have F6 := F2.out.keep k3
  have hF := at3_0 w2 oA (oB w2.heap.size 8) (oC (w2.heap.size + 1) 7)
  have hG := at3_1 w2 oA (oB w2.heap.size 8) (oC (w2.heap.size + 1) 7)
  have hH := at3_2 w2 oA (oB w2.heap.size 8) (oC (w2.heap.size + 1) 7)
  have HF6 := Lib.hid (And.intro F6 (And.intro hF (And.intro hG hH)))
  have HB3 := Lib.hid (HB2.out.trans (k3.mono HB2.out.size))
  have HZW := Lib.hid B1.out.size
  clear k3 e3 f3 F6 hF hG hH HH2E F2 B1
  go_wp2_with fail
  have hFW : Facts ((((w2.alloc (.cells #[.int .i64 2, .int .i64 0, .int .i64 0, .int .u32 0, .string ⟨#[98]⟩, .slice none 0 0] 25)).alloc (.cells #[.int .i64 2, .int .i64 8, .int .i64 0, .int .i64 0, .string ⟨#[97]⟩, .slice none 0 0, .slice none 0 0, .slice (some ⟨w2.heap.size, 0, none⟩) 1 1, .slice none 0 0, .slice none 0 0] 30)).alloc (.cells #[.int .i64 2, .string ⟨#[]⟩, .slice none 0 0, .int .i64 0, .int .i64 0, .slice (some ⟨w2.heap.size + 1, 0, none⟩) 1 1, .int .i64 7] 33)).setCell ⟨w1.heap.size + 1 + 1 + 1 + 1, 3, none⟩ (.slice (some ⟨w2.heap.size + 1 + 1, 0, none⟩) 1 1)) [(w1.heap.size, oA), (w1.heap.size + 1, oB w1.heap.size 0), (w1.heap.size + 1 + 1, oC (w1.heap.size + 1) 0), (w1.heap.size + 1 + 1 + 1, oD (w1.heap.size + 1 + 1)), (w1.heap.size + 1 + 1 + 1 + 1, oD (w2.heap.size + 1 + 1)), (w2.heap.size, oA), (w2.heap.size + 1, oB w2.heap.size 8), (w2.heap.size + 1 + 1, oC (w2.heap.size + 1) 7)] := by
    obtain ⟨F6, hF, hG, hH⟩ := HF6.out
    intro x hx
    have hz := HZW.out
    simp only [List.mem_cons, List.not_mem_nil, or_false] at hx
    rcases hx with rfl | rfl | rfl | rfl | rfl | rfl | rfl | rfl
    · exact (Below.heap_setCell _ _ _ _ (by dsimp only; omega)).trans (F6 (w1.heap.size, oA) (by simp))
    · exact (Below.heap_setCell _ _ _ _ (by dsimp only; omega)).trans (F6 (w1.heap.size + 1, oB w1.heap.size 0) (by simp))
    · exact (Below.heap_setCell _ _ _ _ (by dsimp only; omega)).trans (F6 (w1.heap.size + 1 + 1, oC (w1.heap.size + 1) 0) (by simp))
    · exact (Below.heap_setCell _ _ _ _ (by dsimp only; omega)).trans (F6 (w1.heap.size + 1 + 1 + 1, oD (w1.heap.size + 1 + 1)) (by simp))
    · exact setCell_D (F6 (_, oD (w1.heap.size + 1 + 1)) (by simp))
    · exact (Below.heap_setCell _ _ _ _ (by dsimp only; omega)).trans hF
    · exact (Below.heap_setCell _ _ _ _ (by dsimp only; omega)).trans hG
    · exact (Below.heap_setCell _ _ _ _ (by dsimp only; omega)).trans hH
  have hBW : Below w.heap.size w ((((w2.alloc (.cells #[.int .i64 2, .int .i64 0, .int .i64 0, .int .u32 0, .string ⟨#[98]⟩, .slice none 0 0] 25)).alloc (.cells #[.int .i64 2, .int .i64 8, .int .i64 0, .int .i64 0, .string ⟨#[97]⟩, .slice none 0 0, .slice none 0 0, .slice (some ⟨w2.heap.size, 0, none⟩) 1 1, .slice none 0 0, .slice none 0 0] 30)).alloc (.cells #[.int .i64 2, .string ⟨#[]⟩, .slice none 0 0, .int .i64 0, .int .i64 0, .slice (some ⟨w2.heap.size + 1, 0, none⟩) 1 1, .int .i64 7] 33)).setCell ⟨w1.heap.size + 1 + 1 + 1 + 1, 3, none⟩ (.slice (some ⟨w2.heap.size + 1 + 1, 0, none⟩) 1 1)) := HB3.out.trans ((Below.refl _ _).setCell (p := ⟨w1.heap.size + 1 + 1 + 1 + 1, 3, none⟩) (by have := HZW.out; show w.heap.size ≤ w1.heap.size + 1 + 1 + 1 + 1; omega) _)
  have hzz : (((w2.alloc (.cells #[.int .i64 2, .int .i64 0, .int .i64 0, .int .u32 0, .string ⟨#[98]⟩, .slice none 0 0] 25)).alloc (.cells #[.int .i64 2, .int .i64 8, .int .i64 0, .int .i64 0, .string ⟨#[97]⟩, .slice none 0 0, .slice none 0 0, .slice (some ⟨w2.heap.size, 0, none⟩) 1 1, .slice none 0 0, .slice none 0 0] 30)).alloc (.cells #[.int .i64 2, .string ⟨#[]⟩, .slice none 0 0, .int .i64 0, .int .i64 0, .slice (some ⟨w2.heap.size + 1, 0, none⟩) 1 1, .int .i64 7] 33)).heap.size = w2.heap.size + 3 := by simp
  have hsz : ((((w2.alloc (.cells #[.int .i64 2, .int .i64 0, .int .i64 0, .int .u32 0, .string ⟨#[98]⟩, .slice none 0 0] 25)).alloc (.cells #[.int .i64 2, .int .i64 8, .int .i64 0, .int .i64 0, .string ⟨#[97]⟩, .slice none 0 0, .slice none 0 0, .slice (some ⟨w2.heap.size, 0, none⟩) 1 1, .slice none 0 0, .slice none 0 0] 30)).alloc (.cells #[.int .i64 2, .string ⟨#[]⟩, .slice none 0 0, .int .i64 0, .int .i64 0, .slice (some ⟨w2.heap.size + 1, 0, none⟩) 1 1, .int .i64 7] 33)).setCell ⟨w1.heap.size + 1 + 1 + 1 + 1, 3, none⟩ (.slice (some ⟨w2.heap.size + 1 + 1, 0, none⟩) 1 1)).heap.size = w2.heap.size + 3 := by rw [World.size_setCell]; exact hzz
  clear e4 f4 HF6 HB3 hzz
  generalize (((w2.alloc (.cells #[.int .i64 2, .int .i64 0, .int .i64 0, .int .u32 0, .string ⟨#[98]⟩, .slice none 0 0] 25)).alloc (.cells #[.int .i64 2, .int .i64 8, .int .i64 0, .int .i64 0, .string ⟨#[97]⟩, .slice none 0 0, .slice none 0 0, .slice (some ⟨w2.heap.size, 0, none⟩) 1 1, .slice none 0 0, .slice none 0 0] 30)).alloc (.cells #[.int .i64 2, .string ⟨#[]⟩, .slice none 0 0, .int .i64 0, .int .i64 0, .slice (some ⟨w2.heap.size + 1, 0, none⟩) 1 1, .int .i64 7] 33)).setCell ⟨w1.heap.size + 1 + 1 + 1 + 1, 3, none⟩ (.slice (some ⟨w2.heap.size + 1 + 1, 0, none⟩) 1 1) = w4 at *
  have hN4 : (w2.heap.size + 1 + 1 + 1) ≤ w4.heap.size := by omega
  have hEN : w1.heap.size + 1 + 1 < (w2.heap.size + 1 + 1 + 1) := by omega
  have HF4 := Lib.hid hFW
  have HB4 := Lib.hid hBW
  clear hFW hBW hsz
  have HL := Lib.hid (lives_any (u := u) w4 (un_keep HU.out HB4.out))
  refine HL.out.mono ?_
  rintro e w5 ⟨rfl, b5⟩
  have HF5 := Lib.hid (HF4.out.keep b5)
  have HB5 := Lib.hid (HB4.out.trans (b5.mono HB4.out.size))
  have hN5 : (w2.heap.size + 1 + 1 + 1) ≤ w5.heap.size := Nat.le_trans hN4 b5.size
  clear b5 HL HF4 HB4
  have HPG : Hid (∀ w', Facts w' [(w1.heap.size, oA), (w1.heap.size + 1, oB w1.heap.size 0), (w1.heap.size + 1 + 1, oC (w1.heap.size + 1) 0), (w1.heap.size + 1 + 1 + 1, oD (w1.heap.size + 1 + 1)), (w1.heap.size + 1 + 1 + 1 + 1, oD (w2.heap.size + 1 + 1)), (w2.heap.size, oA), (w2.heap.size + 1, oB w2.heap.size 8), (w2.heap.size + 1 + 1, oC (w2.heap.size + 1) 7)] → PgIn w' (w2.heap.size + 1 + 1 + 1) (pP w1.heap.size (w1.heap.size + 1) (w1.heap.size + 1 + 1) 0 0)) := Lib.hid (fun w' F => pgIn (F (w1.heap.size, oA) (by simp)) (F (w1.heap.size + 1, oB w1.heap.size 0) (by simp)) (F (w1.heap.size + 1 + 1, oC (w1.heap.size + 1) 0) (by simp)) (by omega) (by omega) (by omega))
  have HQG : Hid (∀ w', Facts w' [(w1.heap.size, oA), (w1.heap.size + 1, oB w1.heap.size 0), (w1.heap.size + 1 + 1, oC (w1.heap.size + 1) 0), (w1.heap.size + 1 + 1 + 1, oD (w1.heap.size + 1 + 1)), (w1.heap.size + 1 + 1 + 1 + 1, oD (w2.heap.size + 1 + 1)), (w2.heap.size, oA), (w2.heap.size + 1, oB w2.heap.size 8), (w2.heap.size + 1 + 1, oC (w2.heap.size + 1) 7)] → PgIn w' (w2.heap.size + 1 + 1 + 1) (pP w2.heap.size (w2.heap.size + 1) (w2.heap.size + 1 + 1) 8 7)) := Lib.hid (fun w' F => pgIn (F (w2.heap.size, oA) (by simp)) (F (w2.heap.size + 1, oB w2.heap.size 8) (by simp)) (F (w2.heap.size + 1 + 1, oC (w2.heap.size + 1) 7) (by simp)) (by omega) (by omega) (by omega))
  have d5h := HF5.out (w1.heap.size + 1 + 1 + 1, oD (w1.heap.size + 1 + 1)) (by simp)
  have q5h := HF5.out (w1.heap.size + 1 + 1 + 1 + 1, oD (w2.heap.size + 1 + 1)) (by simp)
  dsimp only at d5h q5h
  have d50 : w5.cell? ⟨w1.heap.size + 1 + 1 + 1, 0, none⟩ = some (.int .i64 9) := by simp [World.cell?, d5h, oD]
  have d51 : w5.cell? ⟨w1.heap.size + 1 + 1 + 1, 1, none⟩ = some (.slice none 0 0) := by simp [World.cell?, d5h, oD]
  have d52 : w5.cell? ⟨w1.heap.size + 1 + 1 + 1, 2, none⟩ = some (.slice none 0 0) := by simp [World.cell?, d5h, oD]
  have d53 : w5.cell? ⟨w1.heap.size + 1 + 1 + 1, 3, none⟩ = some (.slice (some ⟨w1.heap.size + 1 + 1, 0, none⟩) 1 1) := by simp [World.cell?, d5h, oD]
  have q50 : w5.cell? ⟨w1.heap.size + 1 + 1 + 1 + 1, 0, none⟩ = some (.int .i64 9) := by simp [World.cell?, q5h, oD]
  have q51 : w5.cell? ⟨w1.heap.size + 1 + 1 + 1 + 1, 1, none⟩ = some (.slice none 0 0) := by simp [World.cell?, q5h, oD]
  have q52 : w5.cell? ⟨w1.heap.size + 1 + 1 + 1 + 1, 2, none⟩ = some (.slice none 0 0) := by simp [World.cell?, q5h, oD]
  have q53 : w5.cell? ⟨w1.heap.size + 1 + 1 + 1 + 1, 3, none⟩ = some (.slice (some ⟨w2.heap.size + 1 + 1, 0, none⟩) 1 1) := by simp [World.cell?, q5h, oD]
  clear d5h q5h
  have HCK := Lib.hid (Check_ok (u := u) (pP w1.heap.size (w1.heap.size + 1) (w1.heap.size + 1 + 1) 0 0) w5 hN5 (HPG.out w5 HF5.out) (un_keep HU.out HB5.out) (pP_chk u _ _ _ 0 (by decide)) true (fun w' k => isProgram_bare (pP w1.heap.size (w1.heap.size + 1) (w1.heap.size + 1 + 1) 0 0) w' ⟨rfl, rfl⟩ (by simp [pP]) (by simp [pP]) (HPG.out w' (HF5.out.keep k)).fs (by simp [pP]) (fun d hd => by obtain rfl : d = dM w1.heap.size (w1.heap.size + 1) 0 0 := (by simpa [pP] using hd); exact dM_main _ _ _ (by decide))) 0 rfl)
  go_wp2_with (refine HCK.out.mono ?_)
  rintro e w6 ⟨rfl, b6⟩
  have HF6 := Lib.hid (HF5.out.keep b6)
  have HB6 := Lib.hid (HB5.out.trans (b6.mono HB5.out.size))
  have hN6 : (w2.heap.size + 1 + 1 + 1) ≤ w6.heap.size := Nat.le_trans hN5 b6.size
  clear b6 HCK HF5 HB5
  clear d50 d51 d52 d53 q50 q51 q52 q53
  have d6h := HF6.out (w1.heap.size + 1 + 1 + 1, oD (w1.heap.size + 1 + 1)) (by simp)
  have q6h := HF6.out (w1.heap.size + 1 + 1 + 1 + 1, oD (w2.heap.size + 1 + 1)) (by simp)
  dsimp only at d6h q6h
  have d60 : w6.cell? ⟨w1.heap.size + 1 + 1 + 1, 0, none⟩ = some (.int .i64 9) := by simp [World.cell?, d6h, oD]
  have d61 : w6.cell? ⟨w1.heap.size + 1 + 1 + 1, 1, none⟩ = some (.slice none 0 0) := by simp [World.cell?, d6h, oD]
  have d62 : w6.cell? ⟨w1.heap.size + 1 + 1 + 1, 2, none⟩ = some (.slice none 0 0) := by simp [World.cell?, d6h, oD]
  have d63 : w6.cell? ⟨w1.heap.size + 1 + 1 + 1, 3, none⟩ = some (.slice (some ⟨w1.heap.size + 1 + 1, 0, none⟩) 1 1) := by simp [World.cell?, d6h, oD]
  have q60 : w6.cell? ⟨w1.heap.size + 1 + 1 + 1 + 1, 0, none⟩ = some (.int .i64 9) := by simp [World.cell?, q6h, oD]
  have q61 : w6.cell? ⟨w1.heap.size + 1 + 1 + 1 + 1, 1, none⟩ = some (.slice none 0 0) := by simp [World.cell?, q6h, oD]
  have q62 : w6.cell? ⟨w1.heap.size + 1 + 1 + 1 + 1, 2, none⟩ = some (.slice none 0 0) := by simp [World.cell?, q6h, oD]
  have q63 : w6.cell? ⟨w1.heap.size + 1 + 1 + 1 + 1, 3, none⟩ = some (.slice (some ⟨w2.heap.size + 1 + 1, 0, none⟩) 1 1) := by simp [World.cell?, q6h, oD]
  clear d6h q6h
  have HSZ := Lib.hid (Size_any (pP w1.heap.size (w1.heap.size + 1) (w1.heap.size + 1 + 1) 0 0) w6 hN6 (HPG.out w6 HF6.out) 2 (by rw [pP_parts]; rfl))
  go_wp2_with (refine HSZ.out.mono ?_)
  rintro e w7 ⟨rfl, b7⟩
  have HF7 := Lib.hid (HF6.out.keep b7)
  have HB7 := Lib.hid (HB6.out.trans (b7.mono HB6.out.size))
  have hN7 : (w2.heap.size + 1 + 1 + 1) ≤ w7.heap.size := Nat.le_trans hN6 b7.size
  clear b7 HSZ HF6 HB6
  clear d60 d61 d62 d63 q60 q61 q62 q63
  have d7h := HF7.out (w1.heap.size + 1 + 1 + 1, oD (w1.heap.size + 1 + 1)) (by simp)
  have q7h := HF7.out (w1.heap.size + 1 + 1 + 1 + 1, oD (w2.heap.size + 1 + 1)) (by simp)
  dsimp only at d7h q7h
  have d70 : w7.cell? ⟨w1.heap.size + 1 + 1 + 1, 0, none⟩ = some (.int .i64 9) := by simp [World.cell?, d7h, oD]
  have d71 : w7.cell? ⟨w1.heap.size + 1 + 1 + 1, 1, none⟩ = some (.slice none 0 0) := by simp [World.cell?, d7h, oD]
  have d72 : w7.cell? ⟨w1.heap.size + 1 + 1 + 1, 2, none⟩ = some (.slice none 0 0) := by simp [World.cell?, d7h, oD]
  have d73 : w7.cell? ⟨w1.heap.size + 1 + 1 + 1, 3, none⟩ = some (.slice (some ⟨w1.heap.size + 1 + 1, 0, none⟩) 1 1) := by simp [World.cell?, d7h, oD]
  have q70 : w7.cell? ⟨w1.heap.size + 1 + 1 + 1 + 1, 0, none⟩ = some (.int .i64 9) := by simp [World.cell?, q7h, oD]
  have q71 : w7.cell? ⟨w1.heap.size + 1 + 1 + 1 + 1, 1, none⟩ = some (.slice none 0 0) := by simp [World.cell?, q7h, oD]
  have q72 : w7.cell? ⟨w1.heap.size + 1 + 1 + 1 + 1, 2, none⟩ = some (.slice none 0 0) := by simp [World.cell?, q7h, oD]
  have q73 : w7.cell? ⟨w1.heap.size + 1 + 1 + 1 + 1, 3, none⟩ = some (.slice (some ⟨w2.heap.size + 1 + 1, 0, none⟩) 1 1) := by simp [World.cell?, q7h, oD]
  clear d7h q7h
  have HDP := Lib.hid (Deep_any (pP w1.heap.size (w1.heap.size + 1) (w1.heap.size + 1 + 1) 0 0) w7 hN7 (HPG.out w7 HF7.out) 2 (by rw [pP_parts]; rfl))
  go_wp2_with (refine HDP.out.mono ?_)
  rintro e w8 ⟨rfl, b8⟩
  have HF8 := Lib.hid (HF7.out.keep b8)
  have HB8 := Lib.hid (HB7.out.trans (b8.mono HB7.out.size))
  have hN8 : (w2.heap.size + 1 + 1 + 1) ≤ w8.heap.size := Nat.le_trans hN7 b8.size
  clear b8 HDP HF7 HB7
  clear d70 d71 d72 d73 q70 q71 q72 q73
  have d8h := HF8.out (w1.heap.size + 1 + 1 + 1, oD (w1.heap.size + 1 + 1)) (by simp)
  have q8h := HF8.out (w1.heap.size + 1 + 1 + 1 + 1, oD (w2.heap.size + 1 + 1)) (by simp)
  dsimp only at d8h q8h
  have d80 : w8.cell? ⟨w1.heap.size + 1 + 1 + 1, 0, none⟩ = some (.int .i64 9) := by simp [World.cell?, d8h, oD]
  have d81 : w8.cell? ⟨w1.heap.size + 1 + 1 + 1, 1, none⟩ = some (.slice none 0 0) := by simp [World.cell?, d8h, oD]
  have d82 : w8.cell? ⟨w1.heap.size + 1 + 1 + 1, 2, none⟩ = some (.slice none 0 0) := by simp [World.cell?, d8h, oD]
  have d83 : w8.cell? ⟨w1.heap.size + 1 + 1 + 1, 3, none⟩ = some (.slice (some ⟨w1.heap.size + 1 + 1, 0, none⟩) 1 1) := by simp [World.cell?, d8h, oD]
  have q80 : w8.cell? ⟨w1.heap.size + 1 + 1 + 1 + 1, 0, none⟩ = some (.int .i64 9) := by simp [World.cell?, q8h, oD]
  have q81 : w8.cell? ⟨w1.heap.size + 1 + 1 + 1 + 1, 1, none⟩ = some (.slice none 0 0) := by simp [World.cell?, q8h, oD]
  have q82 : w8.cell? ⟨w1.heap.size + 1 + 1 + 1 + 1, 2, none⟩ = some (.slice none 0 0) := by simp [World.cell?, q8h, oD]
  have q83 : w8.cell? ⟨w1.heap.size + 1 + 1 + 1 + 1, 3, none⟩ = some (.slice (some ⟨w2.heap.size + 1 + 1, 0, none⟩) 1 1) := by simp [World.cell?, q8h, oD]
  clear d8h q8h
  have HSM := Lib.hid (Same_bare (pP w1.heap.size (w1.heap.size + 1) (w1.heap.size + 1 + 1) 0 0) (pP w2.heap.size (w2.heap.size + 1) (w2.heap.size + 1 + 1) 8 7) w8 hN8 rfl ⟨rfl, rfl, rfl, rfl⟩ (HPG.out w8 HF8.out).fs (HQG.out w8 HF8.out).fs (by simp [pP]) ⟨rfl, fun i hi => by obtain rfl : i = 0 := (by simpa [pP] using hi); exact dM_same _ _ _ _ _ _ _ _⟩)
  go_wp2_with (refine HSM.out.mono ?_)
  rintro e w9 ⟨rfl, b9⟩
  have HB9 := Lib.hid (HB8.out.trans (b9.mono HB8.out.size))
  clear b9 HSM HF8 HB8 HPG HQG
  clear d80 d81 d82 d83 q80 q81 q82 q83
  have HCZ := Lib.hid (Check_ok (u := u) pZ w9 (N := 0) (Nat.zero_le _) (pZ_in w9) (un_keep HU.out HB9.out) (pZ_chk u) false (fun w' k => isProgram_zero pZ w' rfl) 2 rfl)
  go_wp2_with (refine HCZ.out.mono ?_)
  rintro e w10 ⟨rfl, b10⟩
  have HB10 := Lib.hid (HB9.out.trans (b10.mono HB9.out.size))
  clear b10 HCZ HB9
  go_wp2_with (refine (width_4 _).mono ?_)
  rintro e w' ⟨rfl, rfl⟩
  go_wp2_with (refine (width_0 _).mono ?_)
  rintro e w' ⟨rfl, rfl⟩
  have HCS := Lib.hid (fun w' k => CheckStmt_any (u := u) sE w' (N := 0) (Nat.zero_le _) sE_in sE_deep sE_fit (un_keep HU.out (k : Below w.heap.size w w')))
  go_wp2_with (refine (HCS.out _ HB10.out).mono ?_)
  rintro e w11 ⟨rfl, b11⟩
  have HB11 := Lib.hid (HB10.out.trans (b11.mono HB10.out.size))
  clear b11 HCS HB10
  rw [sE_chk]
  go_wp2
  go_ret
  exact ⟨rfl, HB11.out⟩
end As
end Go.Proofs.Ytenlikjfpniilaa
