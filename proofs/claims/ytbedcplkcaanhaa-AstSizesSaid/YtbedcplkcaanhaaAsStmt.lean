/-
  WALKS: package ast: CheckStmt. Own work.
-/
import Derived.Test.YtbedcplkcaanhaaAsCheckP
import Derived.Test.YtbedcplkcaanhaaAsExpr
import Derived.Test.YtbedcplkcaanhaaAsKidsZ
namespace Go.Proofs.Ytbedcplkcaanhaa
namespace As
open Go.RowKit Go Rg Go.Shelf
set_option linter.unusedVariables false

/-- A part whose names are not too long. -/
def PartOk : Pt → Prop
  | .s x => x.nm.length ≤ 1000000000000000000 ∧ ∀ s ∈ x.ns.l, s.length ≤ 1000000000000000000
  | .e x => x.nm.length ≤ 1000000000000000000 ∧ x.kids.length ≤ 9223372036854775807
/-- Parts that can be counted, and no name too long. -/
def FitQ (xs : List (Int × Pt)) : Prop := ∀ p ∈ xs, (0 ≤ p.1 ∧ p.1 ≤ 9223372036854775807) ∧ PartOk p.2
theorem mem_parts {xs : List (Int × St)} {p : Int × Pt} (h : p ∈ partsL xs) : ∃ q ∈ xs, p = (q.1, .s q.2) ∨ ∃ y, p.2 = .e y := by
  obtain ⟨q, hq, hp⟩ := List.mem_flatMap.1 h
  refine ⟨q, hq, ?_⟩
  rcases List.mem_cons.1 hp with hp | hp
  · exact .inl hp
  · obtain ⟨y, _, rfl⟩ := List.mem_map.1 hp
    exact .inr ⟨y.2, rfl⟩
theorem FitQ.fits {w : World} {N : Nat} {T : List St} (h : FitQ (partsL (flatS 1 T))) (ht : TreesS w N T) : FitsP w N (partsL (flatS 1 T)) := fun p hp => by
  refine ⟨(h p hp).1, ?_⟩
  have hk := (h p hp).2
  obtain ⟨q, hq, e | ⟨y, e⟩⟩ := mem_parts hp
  · subst e
    exact ⟨in_flat (htS T) T 1 (Nat.le_refl _) ht q hq, hk⟩
  · rw [e] at hk ⊢
    exact hk
/-- Statements that nest not too deep to be counted. -/
def DeepQ (T : List St) : Prop := (1 : Int) + htS T ≤ 9223372036854775807 ∧ ∀ p ∈ flatS 1 T, 0 ≤ p.1 ∧ p.1 + 1 + htF p.2.xs ≤ 9223372036854775807
/-- A function value over lists that lie in memory. -/
theorem seqs_lists {w5 : World} {N B1 B2 b off cap : Nat} {ao : Option Addr} {ls : List Lt} {bs : List Nat} (hl : LtIn w5 N b off ls) (hao : ls = [] ∨ ao = some ⟨b, off, none⟩) (hm : ls.length ≤ 9223372036854775807) (hN : N ≤ w5.heap.size)
    (c2 : w5.cell? ⟨B2, 0, none⟩ = some (.func (.func 68) #[] #[]))
    (c3 : w5.cell? ⟨B1, 0, none⟩ = some (.slice ao ls.length cap)) (hb : ls = [] ∨ b < N ∨ b ∈ bs) (hbs : ∀ x ∈ bs, x < w5.heap.size) :
    SeqB encNS w5 (B1 :: B2 :: bs) (.func (.func 83) #[] #[.pointer (some ⟨B1, 0, none⟩), .pointer (some ⟨B2, 0, none⟩)]) N (flatT ls) := by
  have z2 := World.block_lt_of_cell? w5 _ c2
  have z3 := World.block_lt_of_cell? w5 _ c3
  dsimp only at z2 z3
  refine ⟨_, _, rfl, fun args W => by kernel_rfl, fun x hx => ?_, fun W bW => ?_⟩
  · rcases List.mem_cons.1 hx with rfl | hx
    · exact z3
    rcases List.mem_cons.1 hx with rfl | hx
    · exact z2
    · exact hbs x hx
  · have hs := bW.size
    refine each_st (cap := cap) (off := off) (b := b) (by omega) ((bW.cell z3).trans c3) hao ((bW.cell z2).trans c2) (by omega) (by omega) (hl.keep (V := fun _ => False) (Keep.of bW) (fun _ h => h.elim) (.inr (fun h => h))) hm (by simp) (by simp) (hb.imp id (fun h => h.elim .inr (fun h => .inl (by simp [h]))))
theorem lists_anyS (ao : Option Addr) (n cap : Nat) (w : World) : Calls Try.prog 41 #[.slice ao n cap] w fun r w' =>
    r = .returned (.func (.func 83) #[] #[.pointer (some ⟨w.heap.size + 1, 0, none⟩), .pointer (some ⟨w.heap.size, 0, none⟩)]) ∧ Below w.heap.size w w' ∧
      w'.cell? ⟨w.heap.size + 1, 0, none⟩ = some (.slice ao n cap) ∧ w'.cell? ⟨w.heap.size, 0, none⟩ = some (.func (.func 68) #[] #[]) := by
  go_enter Try.func41, Try.ntmps41
  go_wp2
  refine bodyPost_ret (v := .func (.func 83) #[] #[.pointer (some ⟨w.heap.size + 1, 0, none⟩), .pointer (some ⟨w.heap.size, 0, none⟩)]) (by simp [results, Try.results41, go_sem]) rfl ⟨rfl, ?_, ?_, ?_⟩
  · exact ((Below.refl _ w).alloc (Nat.le_refl _) _).alloc (by simp) _
  · go_simp
  · go_simp
theorem st_cells {w5 : World} {R : Nat} {s : St} (e0 : w5.heap[R]? = some (.cells #[.int .i64 s.k, .int .i64 s.li, .int .i64 s.t, .int .i64 s.n, .string (bytesOf s.nm), .slice s.ns.ao s.ns.l.length s.ns.cap, .slice s.ix.ao s.ix.l.length s.ix.cap, .slice s.ex.ao s.ex.l.length s.ex.cap, .slice s.ta s.th.length s.tc, .slice s.la s.el.length s.lc] 30)) :
    ∀ j, j < 10 → w5.cell? ⟨R, j, none⟩ = some (s.cell j) := by
  intro j hj
  rcases (by omega : j = 0 ∨ j = 1 ∨ j = 2 ∨ j = 3 ∨ j = 4 ∨ j = 5 ∨ j = 6 ∨ j = 7 ∨ j = 8 ∨ j = 9) with rfl | rfl | rfl | rfl | rfl | rfl | rfl | rfl | rfl | rfl <;> simp [World.cell?, e0, St.cell]
theorem row_oneS {w w5 : World} {s : St} {N R : Nat} (b : Below w.heap.size w w5) (hN : N ≤ w.heap.size) (hR : w.heap.size ≤ R) (hk : StIn w N s ∧ Sts w N s.ta s.th ∧ Sts w N s.la s.el)
    (e0 : ∀ j, j < 10 → w5.cell? ⟨R, j, none⟩ = some (s.cell j)) : Sts w5 (R + 1) (some ⟨R, 0, none⟩) [s] := by
  have hz := World.block_lt_of_cell? w5 _ (e0 0 (by decide))
  have kb := Keep.of (V := fun _ => False) b
  refine .some R 0 [s] (by omega) hz ?_ ?_ ?_ ?_
  · intro i j hi hj
    obtain rfl : i = 0 := by simpa using hi
    simpa using e0 j hj
  · intro i hi
    obtain rfl : i = 0 := by simpa using hi
    exact (hk.1.keep kb (fun _ h => h.elim)).wide (by omega)
  · intro i hi
    obtain rfl : i = 0 := by simpa using hi
    exact (hk.2.1.keep kb (fun _ h => h.elim)).wide (by omega)
  · intro i hi
    obtain rfl : i = 0 := by simpa using hi
    exact (hk.2.2.keep kb (fun _ h => h.elim)).wide (by omega)
set_option maxHeartbeats 4000000 in
set_option maxRecDepth 100000 in
theorem CheckStmt_any {u : Nat → ByteArray} (s : St) (w : World) {N : Nat} (hN : N ≤ w.heap.size) (hk : StIn w N s ∧ Sts w N s.ta s.th ∧ Sts w N s.la s.el) (hd : DeepQ [s]) (hf : FitQ (partsL (flatS 1 [s]))) (hu : UnT u w) :
    Calls Try.prog 15 #[s.val] w fun r w' => r = .returned (.int .i64 (chkP u (partsL (flatS 1 [s])))) ∧ Below w.heap.size w w' := by
  have HK := Lib.hid hk
  have HF := Lib.hid hf
  have HU := Lib.hid hu
  have HD := Lib.hid hd
  clear hk hf hu hd
  unfold St.val
  go_enter Try.func15, Try.ntmps15
  go_wp2_with (refine (lists_anyS _ _ _ _).mono ?_)
  rintro r w4 ⟨rfl, b4, c3, c2⟩
  have z4 := World.block_lt_of_cell? w4 _ c3
  have hlow : Below w.heap.size w w4 := ((((Below.refl _ w).alloc (Nat.le_refl _) _).alloc (by simp) _).alloc (by simp; omega) _).trans (b4.mono (by simp; omega))
  have e0 := st_cells (s := s) ((b4.block (w.heap.size + 1) (by simp)).trans (at3_1 w _ _ _))
  have c1 : w4.cell? ⟨w.heap.size + 1 + 1, 0, none⟩ = some (.slice (some ⟨w.heap.size + 1, 0, none⟩) 1 1) := (b4.cell (by simp)).trans (by go_simp)
  have HROW := Lib.hid (row_oneS hlow hN (by omega) HK.out e0)
  have z1 := World.block_lt_of_cell? w4 _ c1
  have HS := Lib.hid (seqs_lists (w5 := w4) (N := w.heap.size + 1 + 1) (b := w.heap.size + 1 + 1) (off := 0) (cap := 1) (ao := some ⟨w.heap.size + 1 + 1, 0, none⟩) (ls := [⟨some ⟨w.heap.size + 1, 0, none⟩, 1, [s]⟩]) (bs := [w.heap.size + 1 + 1])
    ⟨.inr z1, fun i hi => by obtain rfl : i = 0 := (by simpa using hi); exact c1, fun i hi => by obtain rfl : i = 0 := (by simpa using hi); exact HROW.out, fun i hi => by obtain rfl : i = 0 := (by simpa using hi); simp⟩ (.inr rfl) (by simp) (by dsimp only at z1; omega) c2 c3 (.inr (.inr (by simp))) (fun x hx => by obtain rfl : x = w.heap.size + 1 + 1 := (by simpa using hx); exact z1))
  have HLOW := Lib.hid hlow
  have HU4 := Lib.hid (un_keep HU.out hlow)
  have HZ4 : Hid (w.heap.size + 1 + 1 ≤ w4.heap.size) := Lib.hid (by dsimp only at z1; omega)
  have hft : flatT [⟨some ⟨w.heap.size + 1, 0, none⟩, 1, [s]⟩] = [s] := by simp [flatT]
  rw [hft] at HS
  simp only [World.size_alloc] at HS
  clear e0 c1 c2 c3 hlow b4 z1 z4 hft
  have HP := Lib.hid (parts_any HS.out HROW.out.trees HZ4.out HD.out.1 HD.out.2)
  go_wp2_with (refine HP.out.mono ?_)
  rintro r w6 ⟨v, rfl, b6, _, hs6⟩
  have t6 : TreesS w6 (w.heap.size + 1 + 1) [s] := (HROW.out.trees).keep (V := fun _ => False) (Keep.of b6) (fun _ h => h.elim)
  have HCH := Lib.hid (check_anyP hs6 (by have := b6.size; have := HZ4.out; omega) (HF.out.fits t6) (un_keep HU4.out b6))
  have HB6 := Lib.hid (HLOW.out.trans (b6.mono HLOW.out.size))
  clear hs6 b6 t6 HP
  go_wp2_with (refine HCH.out.mono ?_)
  rintro r w7 ⟨rfl, b7⟩
  have HB7 := Lib.hid (HB6.out.trans (b7.mono HB6.out.size))
  clear b7
  go_wp2
  go_ret
  exact ⟨rfl, HB7.out⟩
end As
end Go.Proofs.Ytbedcplkcaanhaa
