/-
  WALKS: the laws' own check of the chapter's examples. Own work.
-/
import Derived.Test.YtbedcplkcaanhaaAsSize
import Derived.Test.YtbedcplkcaanhaaAsNames
import Derived.Test.YtbedcplkcaanhaaAsTexts
namespace Go.Proofs.Ytbedcplkcaanhaa
namespace As
open Go.RowKit Go Go.Shelf
set_option linter.unusedVariables false

theorem name_any (s : ByteArray) (w : World) : Calls Try.prog 8 #[.string s] w fun e w' => e = .returned (.agg #[.int .i64 2, .int .i64 0, .int .i64 0, .int .u32 0, .string s, .slice none 0 0]) ∧ Below w.heap.size w w' := by
  go_enter Try.func8, Try.ntmps8
  go_wp2
  refine bodyPost_ret (v := .agg #[.int .i64 2, .int .i64 0, .int .i64 0, .int .u32 0, .string s, .slice none 0 0]) (by simp [results, Try.results8, go_sem]) rfl ⟨rfl, ?_⟩
  exact (Below.refl _ w).alloc (Nat.le_refl _) _
theorem keep3 {w w' : World} {a b c : Nat} {o1 o2 o3 : Obj} (h : w.heap[a]? = some o1 ∧ w.heap[b]? = some o2 ∧ w.heap[c]? = some o3) (k : Below w.heap.size w w') : w'.heap[a]? = some o1 ∧ w'.heap[b]? = some o2 ∧ w'.heap[c]? = some o3 :=
  ⟨(k.block a (Array.getElem?_eq_some_iff.1 h.1).1).trans h.1, (k.block b (Array.getElem?_eq_some_iff.1 h.2.1).1).trans h.2.1, (k.block c (Array.getElem?_eq_some_iff.1 h.2.2).1).trans h.2.2⟩
/-- A row of one expression. -/
theorem row_1 {w : World} {R N : Nat} {e : Nd} (hk : Nds w N e.ao e.kids) (hc : e.kids.length ≤ e.cap ∧ e.cap ≤ 9223372036854775807) {N' : Nat} (hN : N ≤ N') (hR : R < N')
    (h : w.heap[R]? = some (.cells #[.int .i64 e.k, .int .i64 e.o, .int .i64 e.t, .int .u32 e.n, .string (bytesOf e.nm), .slice e.ao e.kids.length e.cap] 25)) : Nds w N' (some ⟨R, 0, none⟩) [e] := by
  refine .some R 0 [e] hR (Array.getElem?_eq_some_iff.1 h).1 ?_ ?_ ?_
  · intro i j hi hj
    obtain rfl : i = 0 := by simpa using hi
    rcases (by omega : j = 0 ∨ j = 1 ∨ j = 2 ∨ j = 3 ∨ j = 4 ∨ j = 5) with rfl | rfl | rfl | rfl | rfl | rfl <;> simp [World.cell?, h, Nd.cell]
  · intro i hi
    obtain rfl : i = 0 := by simpa using hi
    exact hc
  · intro i hi
    obtain rfl : i = 0 := by simpa using hi
    exact hk.wide hN
/-- A row of two expressions. -/
theorem row_2 {w : World} {R N : Nat} {e f : Nd} (hk : Nds w N e.ao e.kids) (hc : e.kids.length ≤ e.cap ∧ e.cap ≤ 9223372036854775807) (hk2 : Nds w N f.ao f.kids) (hc2 : f.kids.length ≤ f.cap ∧ f.cap ≤ 9223372036854775807) {N' : Nat} (hN : N ≤ N') (hR : R < N')
    (h : w.heap[R]? = some (.cells #[.int .i64 e.k, .int .i64 e.o, .int .i64 e.t, .int .u32 e.n, .string (bytesOf e.nm), .slice e.ao e.kids.length e.cap, .int .i64 f.k, .int .i64 f.o, .int .i64 f.t, .int .u32 f.n, .string (bytesOf f.nm), .slice f.ao f.kids.length f.cap] 25)) : Nds w N' (some ⟨R, 0, none⟩) [e, f] := by
  refine .some R 0 [e, f] hR (Array.getElem?_eq_some_iff.1 h).1 ?_ ?_ ?_
  · intro i j hi hj
    rcases two_lt (by simpa using hi) with rfl | rfl
    · rcases (by omega : j = 0 ∨ j = 1 ∨ j = 2 ∨ j = 3 ∨ j = 4 ∨ j = 5) with rfl | rfl | rfl | rfl | rfl | rfl <;> simp [World.cell?, h, Nd.cell]
    · rcases (by omega : j = 0 ∨ j = 1 ∨ j = 2 ∨ j = 3 ∨ j = 4 ∨ j = 5) with rfl | rfl | rfl | rfl | rfl | rfl <;> simp [World.cell?, h, Nd.cell]
  · intro i hi
    rcases two_lt (by simpa using hi) with rfl | rfl
    · exact hc
    · exact hc2
  · intro i hi
    rcases two_lt (by simpa using hi) with rfl | rfl
    · exact hk.wide hN
    · exact hk2.wide hN
theorem Held.sin {Z : Nat} {w : World} {v : Value} {l : List (List UInt8)} (h : Held Z w v l) : ∃ ao cap, v = .slice ao l.length cap ∧ SIn w ao l := by
  obtain ⟨ao, cap, g, hv, hf⟩ := own_form h
  refine ⟨ao, cap, hv, hf.imp id (fun ⟨ha, _, hg, hc⟩ => ⟨g, 0, ha, hg, fun i hi => ?_⟩)⟩
  rw [Nat.zero_add, hc i hi]
  unfold txV
  rw [List.getElem?_map, List.getElem?_eq_getElem hi, List.getD_eq_getElem?_getD, List.getElem?_eq_getElem hi]
  rfl
theorem sin_row {w : World} {R : Nat} {l : List (List UInt8)} {cs : Array Value} (h : w.heap[R]? = some (.cells cs 9)) (hc : cs.toList = txV l) : SIn w (some ⟨R, 0, none⟩) l := by
  refine .inr ⟨R, 0, rfl, (Array.getElem?_eq_some_iff.1 h).1, fun i hi => ?_⟩
  have e : w.cell? ⟨R, 0 + i, none⟩ = cs[i]? := by simp [World.cell?, h]
  rw [e, ← Array.getElem?_toList, hc]
  unfold txV
  rw [List.getElem?_map, List.getElem?_eq_getElem hi, List.getD_eq_getElem?_getD, List.getElem?_eq_getElem hi]
  rfl
/-- The chapter's examples as trees. -/
def nX : Nd := .mk 2 0 0 0 [120] none 0 []
def nY : Nd := .mk 2 0 0 0 [121] none 0 []
def n1 : Nd := .mk 1 0 0 0 [120] none 0 []
def n2 (b : Nat) : Nd := .mk 7 0 5 0 [] (some ⟨b, 0, none⟩) 1 [nX]
def nA (b : Nat) : Nd := .mk 3 0 0 0 [97] (some ⟨b, 0, none⟩) 1 [nY]
def nE (b : Nat) : Nd := .mk 6 1 0 0 [] (some ⟨b + 1, 0, none⟩) 2 [nX, nA b]
theorem n1_flat : flatF 1 [n1] = [(1, n1)] := by simp [flatF, flatN_eq, n1, Nd.kids]
theorem n2_flat (b : Nat) : flatF 1 [n2 b] = [(1, n2 b), (2, nX)] := by simp [flatF, flatN_eq, n2, nX, Nd.kids]
theorem nE_flat (b : Nat) : flatF 1 [nE b] = [(1, nE b), (2, nX), (2, nA b), (3, nY)] := by simp [flatF, flatN_eq, nE, nX, nA, nY, Nd.kids]
theorem n1_deep : (1 : Int) + htF [n1] ≤ 9223372036854775807 := by simp [htF, htN_eq, n1, Nd.kids]
theorem n2_deep (b : Nat) : (1 : Int) + htF [n2 b] ≤ 9223372036854775807 := by simp [htF, htN_eq, n2, nX, Nd.kids]
theorem nE_deep (b : Nat) : (1 : Int) + htF [nE b] ≤ 9223372036854775807 := by simp [htF, htN_eq, nE, nX, nA, nY, Nd.kids]
theorem n1_fits : Fits (flatF 1 [n1]) := by
  rw [n1_flat]
  intro p hp
  simp only [List.mem_cons, List.not_mem_nil, or_false] at hp
  subst hp
  exact ⟨by decide, by decide, by decide⟩
theorem n2_fits (b : Nat) : Fits (flatF 1 [n2 b]) := by
  rw [n2_flat]
  intro p hp
  simp only [List.mem_cons, List.not_mem_nil, or_false] at hp
  rcases hp with rfl | rfl <;> exact ⟨by simp, by simp [n2, nX, Nd.nm], by simp [n2, nX, Nd.kids]⟩
theorem nE_fits (b : Nat) : Fits (flatF 1 [nE b]) := by
  rw [nE_flat]
  intro p hp
  simp only [List.mem_cons, List.not_mem_nil, or_false] at hp
  rcases hp with rfl | rfl | rfl | rfl <;> exact ⟨by simp, by simp [nE, nX, nA, nY, Nd.nm], by simp [nE, nX, nA, nY, Nd.kids]⟩
theorem kX : Lx.kindA [120] = 1 := by decide +kernel
theorem kY : Lx.kindA [121] = 1 := by decide +kernel
theorem kA : Lx.kindA [97] = 1 := by decide +kernel
theorem n1_chk (u : Nat → ByteArray) : chk u (flatF 1 [n1]) = 2 := by
  rw [n1_flat]
  simp [chk, tooM, vN, vB, n1, Nd.k, Nd.o, Nd.t, Nd.n, Nd.nm, Nd.kids]
theorem n2_chk (u : Nat → ByteArray) (b : Nat) : chk u (flatF 1 [n2 b]) = 2 := by
  rw [n2_flat]
  simp [chk, tooM, vN, vB, n2, nX, Nd.k, Nd.o, Nd.t, Nd.n, Nd.nm, Nd.kids]
theorem nE_chk (u : Nat → ByteArray) (b : Nat) : chk u (flatF 1 [nE b]) = 0 := by
  rw [nE_flat]
  simp [chk, tooM, vN, vB, nE, nX, nA, nY, Nd.k, Nd.o, Nd.t, Nd.n, Nd.nm, Nd.kids, kX, kY, kA, binL]
theorem nE_names (b : Nat) : nmL (flatF 1 [nE b]) = [[120], [97], [121]] := by
  rw [nE_flat]
  simp [nmL, nE, nX, nA, nY, Nd.nm]
theorem rowE {w : World} {b : Nat} (h0 : w.heap[b]? = some (.cells #[.int .i64 2, .int .i64 0, .int .i64 0, .int .u32 0, .string ⟨#[121]⟩, .slice none 0 0] 25)) (h1 : w.heap[b + 1]? = some (.cells #[.int .i64 2, .int .i64 0, .int .i64 0, .int .u32 0, .string ⟨#[120]⟩, .slice none 0 0, .int .i64 3, .int .i64 0, .int .i64 0, .int .u32 0, .string ⟨#[97]⟩, .slice (some ⟨b, 0, none⟩) 1 1] 25)) : Nds w (b + 1 + 1) (nE b).ao (nE b).kids := by
  have r1 : Nds w (b + 1) (nA b).ao (nA b).kids := row_1 (N := 0) (e := nY) (.none _) (by decide) (Nat.zero_le _) (by omega) h0
  exact row_2 (e := nX) (f := nA b) (N := b + 1) (.none _) (by decide) r1 (by simp [nA, Nd.kids, Nd.cap]) (by omega) (by omega) h1
set_option maxHeartbeats 4000000 in
set_option maxRecDepth 100000 in
theorem lives_any {u : Nat → ByteArray} (w : World) (hu : UnT u w) :
    Calls Try.prog 9 #[] w fun e w' => e = .returned (.bool true) ∧ Below w.heap.size w w' := by
  have HU := Lib.hid hu
  clear hu
  go_enter Try.func9, Try.ntmps9
  go_wp2_with (refine (name_any _ _).mono ?_)
  rintro e w1 ⟨rfl, b1⟩
  have B1 := Lib.hid b1
  clear b1
  go_wp2_with (refine (name_any _ _).mono ?_)
  rintro e w2 ⟨rfl, b2⟩
  have B2 := Lib.hid (B1.out.trans (b2.mono B1.out.size))
  clear b2 B1
  have h0 := at3_0 w2 (.cells #[.int .i64 2, .int .i64 0, .int .i64 0, .int .u32 0, .string ⟨#[121]⟩, .slice none 0 0] 25) (.cells #[.int .i64 2, .int .i64 0, .int .i64 0, .int .u32 0, .string ⟨#[120]⟩, .slice none 0 0, .int .i64 3, .int .i64 0, .int .i64 0, .int .u32 0, .string ⟨#[97]⟩, .slice (some ⟨w2.heap.size, 0, none⟩) 1 1] 25) (.cells #[.int .i64 6, .int .i64 1, .int .i64 0, .int .u32 0, .string ⟨#[]⟩, .slice (some ⟨w2.heap.size + 1, 0, none⟩) 2 2] 25)
  have h1 := at3_1 w2 (.cells #[.int .i64 2, .int .i64 0, .int .i64 0, .int .u32 0, .string ⟨#[121]⟩, .slice none 0 0] 25) (.cells #[.int .i64 2, .int .i64 0, .int .i64 0, .int .u32 0, .string ⟨#[120]⟩, .slice none 0 0, .int .i64 3, .int .i64 0, .int .i64 0, .int .u32 0, .string ⟨#[97]⟩, .slice (some ⟨w2.heap.size, 0, none⟩) 1 1] 25) (.cells #[.int .i64 6, .int .i64 1, .int .i64 0, .int .u32 0, .string ⟨#[]⟩, .slice (some ⟨w2.heap.size + 1, 0, none⟩) 2 2] 25)
  have h2 := at3_2 w2 (.cells #[.int .i64 2, .int .i64 0, .int .i64 0, .int .u32 0, .string ⟨#[121]⟩, .slice none 0 0] 25) (.cells #[.int .i64 2, .int .i64 0, .int .i64 0, .int .u32 0, .string ⟨#[120]⟩, .slice none 0 0, .int .i64 3, .int .i64 0, .int .i64 0, .int .u32 0, .string ⟨#[97]⟩, .slice (some ⟨w2.heap.size, 0, none⟩) 1 1] 25) (.cells #[.int .i64 6, .int .i64 1, .int .i64 0, .int .u32 0, .string ⟨#[]⟩, .slice (some ⟨w2.heap.size + 1, 0, none⟩) 2 2] 25)
  have HH := Lib.hid (And.intro h0 (And.intro h1 h2))
  clear h0 h1 h2
  have b3 : Below w2.heap.size w2 (((w2.alloc (.cells #[.int .i64 2, .int .i64 0, .int .i64 0, .int .u32 0, .string ⟨#[121]⟩, .slice none 0 0] 25)).alloc (.cells #[.int .i64 2, .int .i64 0, .int .i64 0, .int .u32 0, .string ⟨#[120]⟩, .slice none 0 0, .int .i64 3, .int .i64 0, .int .i64 0, .int .u32 0, .string ⟨#[97]⟩, .slice (some ⟨w2.heap.size, 0, none⟩) 1 1] 25)).alloc (.cells #[.int .i64 6, .int .i64 1, .int .i64 0, .int .u32 0, .string ⟨#[]⟩, .slice (some ⟨w2.heap.size + 1, 0, none⟩) 2 2] 25)) := (((Below.refl w2.heap.size w2).alloc (Nat.le_refl _) _).alloc (by simp) _).alloc (by simp; omega) _
  have HN1 := Lib.hid (fun w' (k : UnT u w') => CheckExpr_any (u := u) n1 w' (N := 0) (Nat.zero_le _) (.none _) (by decide) n1_deep n1_fits k)
  have HB3 := Lib.hid (B2.out.trans (b3.mono B2.out.size))
  clear b3 B2
  go_wp2_with (refine (HN1.out _ (un_keep HU.out HB3.out)).mono ?_)
  rintro e w4 ⟨rfl, b4⟩
  have g0 := (b4.block w2.heap.size (by simp; omega)).trans HH.out.1
  have g1 := (b4.block (w2.heap.size + 1) (by simp)).trans HH.out.2.1
  have g2 := (b4.block (w2.heap.size + 1 + 1) (by simp)).trans HH.out.2.2
  have HG := Lib.hid (And.intro g0 (And.intro g1 g2))
  have HB4 := Lib.hid (HB3.out.trans (b4.mono HB3.out.size))
  clear b4 HH HN1 HB3 g0 g1 g2
  rw [n1_chk]
  go_wp2_with (refine (name_any _ _).mono ?_)
  rintro e w5 ⟨rfl, b5⟩
  have HG5 := Lib.hid (keep3 HG.out b5)
  have HB5 := Lib.hid (HB4.out.trans (b5.mono HB4.out.size))
  clear b5 HG HB4
  have hrow := World.alloc_heap_new w5 (.cells #[.int .i64 2, .int .i64 0, .int .i64 0, .int .u32 0, .string ⟨#[120]⟩, .slice none 0 0] 25)
  have b6 := (Below.refl w5.heap.size w5).alloc (Nat.le_refl _) (.cells #[.int .i64 2, .int .i64 0, .int .i64 0, .int .u32 0, .string ⟨#[120]⟩, .slice none 0 0] 25)
  have HG6 := Lib.hid (keep3 HG5.out b6)
  have HB6 := Lib.hid (HB5.out.trans (b6.mono HB5.out.size))
  have HN2 := Lib.hid (CheckExpr_any (u := u) (n2 w5.heap.size) (w5.alloc (.cells #[.int .i64 2, .int .i64 0, .int .i64 0, .int .u32 0, .string ⟨#[120]⟩, .slice none 0 0] 25)) (N := w5.heap.size + 1) (by simp) (row_1 (N := 0) (e := nX) (.none _) (by decide) (Nat.zero_le _) (by omega) hrow) (by simp [n2, Nd.kids, Nd.cap]) (n2_deep _) (n2_fits _) (un_keep HU.out HB6.out))
  clear hrow b6 HG5
  go_wp2_with (refine HN2.out.mono ?_)
  rintro e w7 ⟨rfl, b7⟩
  rw [n2_chk]
  have HG7 := Lib.hid (keep3 HG6.out b7)
  have HB7 := Lib.hid (HB6.out.trans (b7.mono HB6.out.size))
  clear b7 HG6 HB6 HN2 HB5
  have HROW := Lib.hid (rowE HG7.out.1 HG7.out.2.1)
  have l2 := HG7.out.2.2
  have x0 : w7.cell? ⟨w2.heap.size + 1 + 1, 0, none⟩ = some (.int .i64 6) := by simp [World.cell?, l2]
  have x1 : w7.cell? ⟨w2.heap.size + 1 + 1, 1, none⟩ = some (.int .i64 1) := by simp [World.cell?, l2]
  have x2 : w7.cell? ⟨w2.heap.size + 1 + 1, 2, none⟩ = some (.int .i64 0) := by simp [World.cell?, l2]
  have x3 : w7.cell? ⟨w2.heap.size + 1 + 1, 3, none⟩ = some (.int .u32 0) := by simp [World.cell?, l2]
  have x4 : w7.cell? ⟨w2.heap.size + 1 + 1, 4, none⟩ = some (.string ⟨#[]⟩) := by simp [World.cell?, l2]
  have x5 : w7.cell? ⟨w2.heap.size + 1 + 1, 5, none⟩ = some (.slice (some ⟨w2.heap.size + 1, 0, none⟩) 2 2) := by simp [World.cell?, l2]
  have hz7 : w2.heap.size + 1 + 1 < w7.heap.size := (Array.getElem?_eq_some_iff.1 l2).1
  have HNE := Lib.hid (CheckExpr_any (u := u) (nE w2.heap.size) w7 (N := w2.heap.size + 1 + 1) (by omega) HROW.out (by simp [nE, Nd.kids, Nd.cap]) (nE_deep _) (nE_fits _) (un_keep HU.out HB7.out))
  clear l2
  go_wp2_with (refine HNE.out.mono ?_)
  rintro e w8 ⟨rfl, b8⟩
  rw [nE_chk]
  have HG8 := Lib.hid (keep3 HG7.out b8)
  have HB8 := Lib.hid (HB7.out.trans (b8.mono HB7.out.size))
  have HROW8 := Lib.hid (rowE HG8.out.1 HG8.out.2.1)
  have y0 := (b8.cell (p := ⟨w2.heap.size + 1 + 1, 0, none⟩) hz7).trans x0
  have y1 := (b8.cell (p := ⟨w2.heap.size + 1 + 1, 1, none⟩) hz7).trans x1
  have y2 := (b8.cell (p := ⟨w2.heap.size + 1 + 1, 2, none⟩) hz7).trans x2
  have y3 := (b8.cell (p := ⟨w2.heap.size + 1 + 1, 3, none⟩) hz7).trans x3
  have y4 := (b8.cell (p := ⟨w2.heap.size + 1 + 1, 4, none⟩) hz7).trans x4
  have y5 := (b8.cell (p := ⟨w2.heap.size + 1 + 1, 5, none⟩) hz7).trans x5
  have hz8 : w2.heap.size + 1 + 1 < w8.heap.size := Nat.lt_of_lt_of_le hz7 b8.size
  have HNM := Lib.hid (Names_any (nE w2.heap.size) w8 (N := w2.heap.size + 1 + 1) (by omega) HROW8.out (by simp [nE, Nd.kids, Nd.cap]) (nE_deep _) (by rw [nE_flat]; intro p hp; simp only [List.mem_cons, List.not_mem_nil, or_false] at hp; rcases hp with rfl | rfl | rfl | rfl <;> simp [nE, nX, nA, nY, Nd.nm]) (by rw [nE_flat]; simp))
  clear b8 x0 x1 x2 x3 x4 x5 HNE HG7
  go_wp2_with (refine HNM.out.mono ?_)
  rintro r w9 ⟨v, rfl, b9, hh⟩
  rw [nE_names] at hh
  obtain ⟨ao, cap, hv, hs⟩ := hh.sin
  obtain rfl : v = .slice ao 3 cap := hv
  have HS := Lib.hid hs
  have HB9 := Lib.hid (HB8.out.trans (b9.mono HB8.out.size))
  clear b9 hh hs HNM y0 y1 y2 y3 y4 y5
  have b10 := (Below.refl w9.heap.size w9).alloc (Nat.le_refl _) (.cells #[.string ⟨#[120]⟩, .string ⟨#[97]⟩, .string ⟨#[121]⟩] 9)
  have hr10 := World.alloc_heap_new w9 (.cells #[.string ⟨#[120]⟩, .string ⟨#[97]⟩, .string ⟨#[121]⟩] 9)
  have HT := Lib.hid (Texts_any ao (some ⟨w9.heap.size, 0, none⟩) cap 3 [[120], [97], [121]] [[120], [97], [121]] (w9.alloc (.cells #[.string ⟨#[120]⟩, .string ⟨#[97]⟩, .string ⟨#[121]⟩] 9)) (HS.out.kp b10) (sin_row hr10 rfl) (by decide) true (by simp))
  have HB10 := Lib.hid (HB9.out.trans (b10.mono HB9.out.size))
  clear b10 hr10
  go_wp2_with (refine (show Calls _ _ #[.slice ao 3 cap, .slice (some ⟨w9.heap.size, 0, none⟩) 3 3] _ _ from HT.out).mono ?_)
  rintro r w11 ⟨rfl, q⟩
  have HB11 := Lib.hid (HB10.out.trans (q.below.mono HB10.out.size))
  clear q
  go_wp2
  go_ret
  exact ⟨rfl, HB11.out⟩
end As
end Go.Proofs.Ytbedcplkcaanhaa
