/-
  WALKS: package ast: Check of a program (isProgram for mains alone; Check with isProgram's answer given). Own work.
-/
import Derived.Test.YtenlikjfpniilaaAsSameP
import Derived.Test.YtenlikjfpniilaaAsSize
import Derived.Test.YtenlikjfpniilaaAsValidS
namespace Go.Proofs.Ytenlikjfpniilaa
namespace As
open Go.RowKit Go Rg Go.Shelf
set_option linter.unusedVariables false

theorem allG_nil (ao : Option Addr) (c : Nat) (w : World) : Calls Try.prog 57 #[.slice ao 0 c, .func (.func 58) #[] #[]] w fun e w' => e = .returned (.bool true) ∧ w' = w := by
  go_enter Try.func57, Try.ntmps57
  go_wp2
  go_loopw [6, 9] (fun _ i wr => i = .int .i64 0 ∧ wr = w) (fun _ _ _ => 0)
  case atStart => exact ⟨rfl, rfl⟩
  case round =>
    obtain ⟨rfl, rfl⟩ := hrel
    go_wp2
    go_ret
    exact ⟨rfl, rfl⟩
theorem allT_nil (ao : Option Addr) (c : Nat) (w : World) : Calls Try.prog 59 #[.slice ao 0 c, .func (.func 60) #[] #[]] w fun e w' => e = .returned (.bool true) ∧ w' = w := by
  go_enter Try.func59, Try.ntmps59
  go_wp2
  go_loopw [6, 9] (fun _ i wr => i = .int .i64 0 ∧ wr = w) (fun _ _ _ => 0)
  case atStart => exact ⟨rfl, rfl⟩
  case round =>
    obtain ⟨rfl, rfl⟩ := hrel
    go_wp2
    go_ret
    exact ⟨rfl, rfl⟩
/-- A main. -/
structure MainD (d : Dc) : Prop where
  k : d.k = 2
  nm : d.nm = []
  on : d.on = 0
  pr : d.pr = 0
  ps : d.ps.length = 0
  li : 0 ≤ d.li
set_option maxHeartbeats 4000000 in
set_option maxRecDepth 100000 in
theorem fitsD_main (pa ba : Option Addr) (pc nb bc : Nat) (li : Int) (w : World) :
    Calls Try.prog 82 #[.agg #[.int .i64 2, .string (bytesOf []), .slice pa 0 pc, .int .i64 0, .int .i64 0, .slice ba nb bc, .int .i64 li]] w fun r w' => r = .returned (.bool true) ∧ Below w.heap.size w w' := by
  have hq := df_eq 2 0 0 (bytesOf []) 0 2 0 0 (ByteArray.mk #[]) 0 true (by simp [bytesOf])
  go_enter Try.func82, Try.ntmps82
  go_wp2_with (refine (fields_d _ _ _ _ _ _ _ 0 _ _ _ _).mono ?_)
  rintro e' w2 ⟨rfl, b2⟩
  have B2 := Lib.hid (((Below.refl _ w).alloc (Nat.le_refl _) _).trans (b2.mono (by simp)))
  have c0 := new_in b2 (by simp) 0 _ rfl
  have z2 : w.heap.size < w2.heap.size := World.block_lt_of_cell? w2 _ c0
  clear b2
  go_wp2
  go_ret
  exact ⟨rfl, B2.out.trans ((Below.refl w.heap.size w2).alloc (by omega) _)⟩
set_option maxHeartbeats 4000000 in
theorem isFunction_main {d : Dc} (h : MainD d) (w : World) :
    Calls Try.prog 62 #[d.val] w fun r w' => r = .returned (.bool true) ∧ Below w.heap.size w w' := by
  obtain ⟨h1, h2, h3, h4, h5, h6⟩ := h
  unfold Dc.val
  rw [h1, h2, h3, h4, h5]
  have HS := Lib.hid (src_any d.li true (by simp [h6]))
  clear h1 h2 h3 h4 h5 h6
  go_enter Try.func62, Try.ntmps62
  go_wp2_with (refine (HS.out _).mono ?_)
  rintro e w1 ⟨rfl, rfl⟩
  go_wp2_with (refine (fitsD_main _ _ _ _ _ _ _).mono ?_)
  rintro e w2 ⟨rfl, b2⟩
  have B2 := Lib.hid (((Below.refl _ w).alloc (Nat.le_refl _) _).trans (b2.mono (by simp)))
  clear b2
  go_wp2
  go_ret
  exact ⟨rfl, B2.out⟩
set_option maxHeartbeats 4000000 in
set_option maxRecDepth 100000 in
theorem allD_main {w : World} {N : Nat} {ao : Option Addr} {c : Nat} {l : List Dc} (h : DcsIn w N ao l) (hc : l.length ≤ 9223372036854775807) (hm : ∀ d ∈ l, MainD d) :
    Calls Try.prog 61 #[.slice ao l.length c, .func (.func 62) #[] #[]] w fun r w' => r = .returned (.bool true) ∧ Below w.heap.size w w' := by
  have HL := Lib.hid h
  have HM := Lib.hid hm
  have HX : Hid (∃ n, l.length = n) := Lib.hid ⟨_, rfl⟩
  obtain ⟨n, hn⟩ := HX.out
  rw [hn] at hc ⊢
  have HQ := Lib.hid hn
  clear h hm hn HX
  have hent : ∀ (args : Array Value) (W' : World), Sem.run Try.prog (callFunc 62 args) W' = .ok (.enter 62 args) W' := fun _ _ => by kernel_rfl
  go_enter Try.func61, Try.ntmps61
  go_wp2
  go_loopw [6, 9] (fun _ i wr => ∃ j : Nat, j ≤ n ∧ i = .int .i64 j ∧ Below w.heap.size w wr) (fun _ i _ => n - (intOf i).toNat)
  case atStart => exact ⟨0, Nat.zero_le _, rfl, Below.refl _ _⟩
  case round =>
    obtain ⟨j, hj, rfl, kr⟩ := hrel
    by_cases hjm : j < n
    · have hjl : j < l.length := by rw [HQ.out]; exact hjm
      obtain ⟨b1, o1, ha1, _, zb1, cc1, _⟩ := dcs_at (HL.out.keep (V := fun _ => False) (Keep.of kr) (fun _ h => h.elim)) hjl
      subst ha1
      have e0 := cc1 0 (by decide)
      have e1 := cc1 1 (by decide)
      have e2 := cc1 2 (by decide)
      have e3 := cc1 3 (by decide)
      have e4 := cc1 4 (by decide)
      have e5 := cc1 5 (by decide)
      have e6 := cc1 6 (by decide)
      have HMJ : Hid (MainD (l.getD j c0)) := Lib.hid (HM.out _ (by rw [List.getD_eq_getElem?_getD, List.getElem?_eq_getElem hjl]; exact List.getElem_mem hjl))
      have HKR := Lib.hid kr
      have hk0 : (0 : Int) ≤ (j : Int) := Int.natCast_nonneg _
      have hk1 : (j : Int) < (n : Int) := by omega
      have hwr := kr.size
      clear cc1 kr hjl
      generalize l.getD j c0 = d at *
      simp only [Dc.cell, Nat.add_zero] at e0 e1 e2 e3 e4 e5 e6
      go_wp2_with (refine (isFunction_main HMJ.out _).mono ?_)
      rintro r w3 ⟨rfl, b3⟩
      have HB3 := Lib.hid (HKR.out.trans ((((Below.refl wr.heap.size wr).alloc (Nat.le_refl _) _).trans (b3.mono (by simp))).mono hwr))
      clear b3
      go_wp2
      go_roundw
      case rel => exact ⟨j + 1, by omega, by go_num, HB3.out⟩
      case measure => simp [intOf]; omega
    · obtain rfl : j = n := by omega
      have HKR := Lib.hid kr
      clear kr
      go_wp2
      go_ret
      exact ⟨rfl, HKR.out⟩
set_option maxHeartbeats 4000000 in
set_option maxRecDepth 100000 in
theorem isProgram_bare (p : Pg) (w : World) {N : Nat} (hg : p.gn = 0 ∧ p.tn = 0) (h1 : 1 ≤ p.st) (h2 : p.st ≤ 65536) (hp : DcsIn w N p.fa p.fs) (hl : p.fs.length ≤ 9223372036854775807) (hm : ∀ d ∈ p.fs, MainD d) :
    Calls Try.prog 34 #[p.val] w fun r w' => r = .returned (.bool true) ∧ Below w.heap.size w w' := by
  have QT : Hid (∀ w', Below w.heap.size w w' → Calls Try.prog 61 #[.slice p.fa p.fs.length p.fc, .func (.func 62) #[] #[]] w' fun r w'' => r = .returned (.bool true) ∧ Below w'.heap.size w' w'') := Lib.hid (fun w' k =>
    allD_main (hp.keep (V := fun _ => False) (Keep.of k) (fun _ h => h.elim)) hl hm)
  obtain ⟨g1, g2⟩ := hg
  obtain ⟨pst, pga, pgn, pgc, pta, ptn, ptc, pfa, pfc, pfs⟩ := p
  dsimp only at h1 h2 g1 g2 QT
  unfold Pg.val
  dsimp only
  subst g1 g2
  clear hp hl hm
  generalize pfs.length = n at *
  go_enter Try.func34, Try.ntmps34
  go_wp2_with (refine (allG_nil _ _ _).mono ?_)
  rintro r w1 ⟨rfl, rfl⟩
  go_wp2_with (refine (allT_nil _ _ _).mono ?_)
  rintro r w1 ⟨rfl, rfl⟩
  go_wp2_with (refine (QT.out _ ((Below.refl _ w).alloc (Nat.le_refl _) _)).mono ?_)
  rintro r w2 ⟨rfl, b2⟩
  have B2 := Lib.hid (((Below.refl w.heap.size w).alloc (Nat.le_refl _) _).trans (b2.mono (by simp)))
  clear b2
  go_wp2
  go_ret
  exact ⟨rfl, B2.out⟩
theorem isProgram_zero (p : Pg) (w : World) (h : p.st = 0) :
    Calls Try.prog 34 #[p.val] w fun r w' => r = .returned (.bool false) ∧ Below w.heap.size w w' := by
  unfold Pg.val
  rw [h]
  clear h
  go_enter Try.func34, Try.ntmps34
  go_wp2
  go_ret
  exact ⟨rfl, (Below.refl _ w).alloc (Nat.le_refl _) _⟩
set_option maxHeartbeats 4000000 in
set_option maxRecDepth 100000 in
/-- Check of a program whose parts are valid: isProgram decides. -/
theorem Check_ok {u : Nat → ByteArray} (p : Pg) (w : World) {N : Nat} (hN : N ≤ w.heap.size) (hk : PgIn w N p) (hu : UnT u w) (hc : chkP u (ptsL p.fs) = 0) (b : Bool)
    (hi : ∀ w', Below w.heap.size w w' → Calls Try.prog 34 #[p.val] w' fun r w'' => r = .returned (.bool b) ∧ Below w'.heap.size w' w'') (z : Int) (hz : (if b then (0 : Int) else 2) = z) :
    Calls Try.prog 10 #[p.val] w fun r w' => r = .returned (.int .i64 z) ∧ Below w.heap.size w w' := by
  have HK := Lib.hid hk
  have HU := Lib.hid hu
  have HC := Lib.hid hc
  have HI := Lib.hid hi
  have HZ := Lib.hid hz
  have b0 : Below w.heap.size w (w.alloc (.cells #[.int .i64 p.st, .slice p.ga p.gn p.gc, .slice p.ta p.tn p.tc, .slice p.fa p.fs.length p.fc] 38)) := (Below.refl _ w).alloc (Nat.le_refl _) _
  have HB := Lib.hid (bodies_any p (w.alloc (.cells #[.int .i64 p.st, .slice p.ga p.gn p.gc, .slice p.ta p.tn p.tc, .slice p.fa p.fs.length p.fc] 38)) (N := N) (by simp; omega) (hk.keep (V := fun _ => False) (Keep.of b0) (fun _ h => h.elim)).fs hk.len)
  clear hk hu hc hi hz b0
  unfold Pg.val at *
  go_enter Try.func10, Try.ntmps10
  go_wp2_with (refine HB.out.mono ?_)
  rintro r w4 ⟨v, bs, rfl, b4, s4, hbb⟩
  have hb4 : Below w.heap.size w w4 := ((Below.refl _ w).alloc (Nat.le_refl _) _).trans (b4.mono (by simp))
  have hN4 : N ≤ w4.heap.size := by have := hb4.size; omega
  have hcells : w4.heap[w.heap.size]? = some (.cells #[.int .i64 p.st, .slice p.ga p.gn p.gc, .slice p.ta p.tn p.tc, .slice p.fa p.fs.length p.fc] 38) := (b4.block w.heap.size (by simp)).trans (World.alloc_heap_new w _)
  have HK4 := Lib.hid (HK.out.keep (V := fun _ => False) (Keep.of hb4) (fun _ h => h.elim))
  have HP := Lib.hid (pts_of HK4.out hN4 s4 (z := 0) (Nat.zero_le _) (fun _ _ => Nat.zero_le _))
  have HB4 := Lib.hid hb4
  have HCL := Lib.hid hcells
  clear s4 hbb b4 hb4 hcells HB
  go_wp2_with (refine HP.out.mono ?_)
  rintro r w6 ⟨v1, bs1, rfl, b6, s6, _⟩
  have HB6 := Lib.hid (HB4.out.trans (b6.mono HB4.out.size))
  have HCL6 := Lib.hid ((b6.block _ (Array.getElem?_eq_some_iff.1 HCL.out).1).trans HCL.out)
  have t6 : TreesS w6 N (bodL p.fs) := bod_trees (HK.out.keep (V := fun _ => False) (Keep.of HB6.out) (fun _ h => h.elim)).fs
  have HCH := Lib.hid (check_anyP s6 (by have := HB6.out.size; omega) (HK.out.fit.fits t6) (un_keep HU.out HB6.out))
  clear s6 b6 t6 HP HCL
  rw [HC.out] at HCH
  go_wp2_with (refine HCH.out.mono ?_)
  rintro r w7 ⟨rfl, b7⟩
  have HB7 := Lib.hid (HB6.out.trans (b7.mono HB6.out.size))
  have hcl7 := (b7.block _ (Array.getElem?_eq_some_iff.1 HCL6.out).1).trans HCL6.out
  have c0 : w7.cell? ⟨w.heap.size, 0, none⟩ = some (.int .i64 p.st) := by simp [World.cell?, hcl7]
  have c1 : w7.cell? ⟨w.heap.size, 1, none⟩ = some (.slice p.ga p.gn p.gc) := by simp [World.cell?, hcl7]
  have c2 : w7.cell? ⟨w.heap.size, 2, none⟩ = some (.slice p.ta p.tn p.tc) := by simp [World.cell?, hcl7]
  have c3 : w7.cell? ⟨w.heap.size, 3, none⟩ = some (.slice p.fa p.fs.length p.fc) := by simp [World.cell?, hcl7]
  clear b7 hcl7 HCH HCL6
  cases b with
  | true =>
    go_wp2_with (refine (HI.out _ HB7.out).mono ?_)
    rintro r w8 ⟨rfl, b8⟩
    have HB8 := Lib.hid (HB7.out.trans (b8.mono HB7.out.size))
    clear b8
    go_wp2
    go_ret
    exact ⟨by rw [← HZ.out]; rfl, HB8.out⟩
  | false =>
    go_wp2_with (refine (HI.out _ HB7.out).mono ?_)
    rintro r w8 ⟨rfl, b8⟩
    have HB8 := Lib.hid (HB7.out.trans (b8.mono HB7.out.size))
    clear b8
    go_wp2
    go_ret
    exact ⟨by rw [← HZ.out]; rfl, HB8.out⟩
end As
end Go.Proofs.Ytenlikjfpniilaa
