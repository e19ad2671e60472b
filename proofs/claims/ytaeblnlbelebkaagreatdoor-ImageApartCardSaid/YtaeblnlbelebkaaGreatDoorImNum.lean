/-
  WALKS: package image, a reader: fail, number, upTo. Own work.
-/
import Derived.Test.YtaeblnlbelebkaaGreatDoorImRec
import Derived.Test.YtaeblnlbelebkaaGreatDoorImWords
import Derived.Laws.Shifts
import Derived.Laws.BitsAllLaws
import Derived.Outline
namespace Go.Proofs.YtaeblnlbelebkaaGreatDoor
namespace Im
open Go.RowKit Go
open Co (Kp ret_int ret_bool ret2_int In in0 IIn Ics Wf)
open Ln (VIn Vcs)
set_option linter.unusedVariables false

/-- Bytes in memory. -/
structure Bcs (w : World) (b off : Nat) (l : List UInt8) : Prop where
  size : b < w.heap.size
  at' : ∀ i, i < l.length → w.cell? ⟨b, off + i, none⟩ = some (.int .u8 ((l.getD i 0).toNat : Int))
/-- A slice that reads as bytes, in a block below R. -/
def BIn (w : World) (R : Nat) (ao : Option Addr) (l : List UInt8) : Prop := l.length = 0 ∨ ∃ b off, ao = some ⟨b, off, none⟩ ∧ b < R ∧ Bcs w b off l
theorem BIn.gx {w w' : World} {R : Nat} {ao : Option Addr} {l : List UInt8} (h : BIn w R ao l) (k : Gx R w w') : BIn w' R ao l := by
  rcases h with h | ⟨b, off, e, n, g⟩
  · exact .inl h
  · exact .inr ⟨b, off, e, n, Nat.lt_of_lt_of_le g.size k.size, fun i hi => (k.cell g.size (Nat.ne_of_lt n)).trans (g.at' i hi)⟩
/-- A reader in memory. -/
structure RdIn (w : World) (R : Nat) (s : Rd) : Prop where
  size : R < w.heap.size
  fro : ∀ o, w.frozen? ⟨R, o, none⟩ = false
  some' : ∀ bs, s = some bs → w.cell? ⟨R, 1, none⟩ = some (.bool false) ∧ ∃ ao cap, w.cell? ⟨R, 0, none⟩ = some (.slice ao bs.length cap) ∧ BIn w R ao bs ∧ bs.length ≤ cap ∧ cap ≤ 9223372036854775807
  none' : s = none → w.cell? ⟨R, 1, none⟩ = some (.bool true) ∧ w.cell? ⟨R, 0, none⟩ = some (.slice none 0 0)
theorem RdIn.kp {w w' : World} {R : Nat} {s : Rd} (h : RdIn w R s) (k : Kp w w') : RdIn w' R s :=
  ⟨Nat.lt_of_lt_of_le h.size k.size, fun o => (k.fros _ _ h.size).trans (h.fro o), fun bs e => by
    obtain ⟨a, ao, cap, b, c, d⟩ := h.some' bs e
    exact ⟨(k.cells _ _ h.size).trans a, ao, cap, (k.cells _ _ h.size).trans b, c.gx (Gx.of_kp k), d⟩, fun e => ⟨(k.cells _ _ h.size).trans (h.none' e).1, (k.cells _ _ h.size).trans (h.none' e).2⟩⟩
/-- What a call on a reader leaves. -/
structure Rdd (w : World) (R : Nat) (s : Rd) (w' : World) : Prop where
  rd : RdIn w' R s
  gx : Gx R w w'
  be : Below R w w'
theorem Rdd.trans {w w1 w2 : World} {R : Nat} {s t : Rd} (h : Rdd w R s w1) (k : Rdd w1 R t w2) : Rdd w R t w2 := ⟨k.rd, h.gx.trans k.gx, h.be.trans k.be⟩
theorem rdd_fail {w : World} {R : Nat} {s : Rd} (h : RdIn w R s) : Rdd w R none ((w.setCell ⟨R, 0, none⟩ (.slice none 0 0)).setCell ⟨R, 1, none⟩ (.bool true)) := by
  obtain ⟨v0, c0⟩ : ∃ v, w.cell? ⟨R, 0, none⟩ = some v := by
    cases s with
    | none => exact ⟨_, (h.none' rfl).2⟩
    | some bs => obtain ⟨_, ao, cap, b, _⟩ := h.some' bs rfl; exact ⟨_, b⟩
  obtain ⟨v1, c1⟩ : ∃ v, w.cell? ⟨R, 1, none⟩ = some v := by
    cases s with
    | none => exact ⟨_, (h.none' rfl).1⟩
    | some bs => obtain ⟨a, _⟩ := h.some' bs rfl; exact ⟨_, a⟩
  have hne : (⟨R, 0, none⟩ : Addr) ≠ ⟨R, 1, none⟩ := fun e => by have := congrArg Addr.off e; simp at this
  have d1 : (w.setCell ⟨R, 0, none⟩ (.slice none 0 0)).cell? ⟨R, 1, none⟩ = some v1 := (World.cell?_setCell_other _ _ _ _ hne).trans c1
  refine ⟨⟨by simpa using h.size, fun o => ?_, fun bs e => (by cases e), fun _ => ⟨World.cell?_setCell_same _ _ _ d1, ?_⟩⟩, (Gx.set R 0 w _).trans (Gx.set R 1 _ _), ((Below.refl R w).setCell (Nat.le_refl _) _).setCell (Nat.le_refl _) _⟩
  · rw [World.frozen?_setCell, World.frozen?_setCell]; exact h.fro o
  · exact (World.cell?_setCell_other _ _ _ _ (Ne.symm hne)).trans (World.cell?_setCell_same _ _ _ c0)
theorem fail_any {w : World} {R : Nat} {s : Rd} (h : RdIn w R s) : Calls Tryz.prog 100 #[.pointer (some ⟨R, 0, none⟩)] w fun e w' => e = .returned (.int .i64 0) ∧ Rdd w R none w' := by
  have D := Lib.hid (rdd_fail h)
  have hsz := h.size
  have f0 := h.fro 0
  have f1 := h.fro 1
  obtain ⟨v0, c0⟩ : ∃ v, w.cell? ⟨R, 0, none⟩ = some v := by
    cases s with
    | none => exact ⟨_, (h.none' rfl).2⟩
    | some bs => obtain ⟨_, ao, cap, b, _⟩ := h.some' bs rfl; exact ⟨_, b⟩
  obtain ⟨v1, c1⟩ : ∃ v, w.cell? ⟨R, 1, none⟩ = some v := by
    cases s with
    | none => exact ⟨_, (h.none' rfl).1⟩
    | some bs => obtain ⟨a, _⟩ := h.some' bs rfl; exact ⟨_, a⟩
  clear h
  go_enter Tryz.func100, Tryz.ntmps100
  go_wp2
  go_ret
  exact ⟨rfl, D.out⟩

theorem and_127 : ∀ x : Fin 256, bits .andNot .u8 (x.val : Int) 128 = ((x.val % 128 : Nat) : Int) := by decide +kernel
theorem i64_or_nat (a b : Nat) (ha : a < 9223372036854775808) (hb : b < 9223372036854775808) : bits .or .i64 (a : Int) (b : Int) = ((a ||| b : Nat) : Int) := by
  have hx : a ||| b < 2 ^ 63 := Nat.or_lt_two_pow (by omega) (by omega)
  have e : ∀ c : Nat, c < 9223372036854775808 → (BitVec.ofInt 64 (c : Int)).toNat = c := fun c hc => by
    rw [BitVec.ofInt_natCast, BitVec.toNat_ofNat]; exact Nat.mod_eq_of_lt (by omega)
  show IntKind.i64.wrap ((BitVec.ofInt 64 (a : Int) ||| BitVec.ofInt 64 (b : Int)).toNat : Int) = _
  rw [BitVec.toNat_or, e a ha, e b hb, IntKind.wrap_i64]
  omega
theorem or_add {N y k : Nat} (hN : N < 2 ^ (7 * k)) : N ||| y * 2 ^ (7 * k) = N + y * 2 ^ (7 * k) := by
  have := Nat.shiftLeft_add_eq_or_of_lt hN y
  rw [Nat.shiftLeft_eq] at this
  rw [Nat.or_comm, ← this, Nat.add_comm]
theorem pow7 (k : Nat) : 128 ^ k = 2 ^ (7 * k) := by rw [Nat.pow_mul]
/-- What a round's arithmetic makes. -/
theorem round_or {N x k : Nat} (hk : k < 5) (hN : N < 128 ^ k) (hx : x < 256) : ∃ Z : Nat, ((x % 128 : Nat) : Int) * 2 ^ (7 * k) = (Z : Int) ∧ Z ≤ 34359738368 ∧ bits .or .i64 (N : Int) (Z : Int) = ((N + x % 128 * 128 ^ k : Nat) : Int) ∧ N + x % 128 * 128 ^ k < 128 ^ (k + 1) ∧ N + x % 128 * 128 ^ k ≤ 34359738368 := by
  have hp : 128 ^ k ≤ 268435456 := by
    have := Nat.pow_le_pow_right (n := 128) (by omega) (show k ≤ 4 by omega)
    omega
  have hm : x % 128 * 128 ^ k ≤ 127 * 128 ^ k := Nat.mul_le_mul_right _ (by omega)
  have hs : 128 ^ (k + 1) = 128 * 128 ^ k := by rw [Nat.pow_succ, Nat.mul_comm]
  refine ⟨x % 128 * 128 ^ k, by rw [pow7]; simp, by omega, ?_, by omega, by omega⟩
  rw [i64_or_nat _ _ (by omega) (by omega), pow7, or_add (by rw [← pow7]; exact hN)]
theorem num_step {bs : List UInt8} {k N : Nat} (hk : k < bs.length) (h5 : k < 5) : numAt k N (bs.drop k) = if 128 ≤ (bs.getD k 0).toNat then numAt (k + 1) (N + (bs.getD k 0).toNat % 128 * 128 ^ k) (bs.drop (k + 1)) else if 4294967295 < N + (bs.getD k 0).toNat * 128 ^ k ∨ (0 < k ∧ (bs.getD k 0).toNat = 0) then none else some (N + (bs.getD k 0).toNat * 128 ^ k, bs.drop (k + 1)) := by
  have e : bs.drop k = bs.getD k 0 :: bs.drop (k + 1) := by
    rw [List.drop_eq_getElem_cons hk, List.getD_eq_getElem?_getD, List.getElem?_eq_getElem hk]; rfl
  have hz : (bs.getD k 0 = 0) = ((bs.getD k 0).toNat = 0) := propext ⟨fun e => by rw [e]; rfl, fun e => UInt8.toNat_inj.1 (by rw [e]; rfl)⟩
  rw [e, numAt, if_neg (by omega)]
  simp only [hz]
theorem num_end {bs : List UInt8} {k N : Nat} (h : k = min 5 bs.length) : numAt k N (bs.drop k) = none := by
  cases hd : bs.drop k with
  | nil => rfl
  | cons b r =>
    have : k < bs.length := by
      have := congrArg List.length hd
      rw [List.length_drop, List.length_cons] at this
      omega
    rw [numAt, if_pos (by omega)]
theorem rdd_set {w : World} {R : Nat} {bs : List UInt8} (h : RdIn w R (some bs)) (ds : List UInt8) (ao : Option Addr) (n cap : Nat) (hn : n = ds.length) (hB : BIn w R ao ds) (h1 : n ≤ cap) (h2 : cap ≤ 9223372036854775807) : Rdd w R (some ds) (w.setCell ⟨R, 0, none⟩ (.slice ao n cap)) := by
  obtain ⟨c1, ao0, cap0, c0, _⟩ := h.some' bs rfl
  have gx := Gx.set R 0 w (.slice ao n cap)
  subst hn
  refine ⟨⟨by simpa using h.size, fun o => by rw [World.frozen?_setCell]; exact h.fro o, fun es e => ?_, fun e => by cases e⟩, gx, (Below.refl R w).setCell (Nat.le_refl _) _⟩
  obtain rfl := Option.some.inj e
  refine ⟨(World.cell?_setCell_other _ _ _ _ (fun e => by have := congrArg Addr.off e; simp at this)).trans c1, ao, cap, World.cell?_setCell_same _ _ _ c0, hB.gx gx, h1, h2⟩
theorem bin_drop {w : World} {R b off : Nat} {bs : List UInt8} (hR : b < R) (h : Bcs w b off bs) (k : Nat) : BIn w R (some ⟨b, off + k, none⟩) (bs.drop k) := by
  refine .inr ⟨b, off + k, rfl, hR, h.size, fun i hi => ?_⟩
  rw [List.length_drop] at hi
  have := h.at' (k + i) (by omega)
  rw [Nat.add_assoc, this]
  simp [List.getD_eq_getElem?_getD]
set_option maxHeartbeats 4000000 in
set_option maxRecDepth 100000 in
theorem number_some {w : World} {R : Nat} {bs : List UInt8} (h : RdIn w R (some bs)) :
    Calls Tryz.prog 68 #[.pointer (some ⟨R, 0, none⟩)] w fun e w' => e = .returned (.int .i64 (nmV (some bs))) ∧ Rdd w R (nmR (some bs)) w' := by
  obtain ⟨c1, ao, cap, c0, hB, hlc, hcm⟩ := h.some' bs rfl
  have hsz := h.size
  have f0 := h.fro 0
  have HH := Lib.hid h
  have HB := Lib.hid hB
  have HN : Hid (∀ o, num bs = o → nmV (some bs) = nmP o ∧ nmR (some bs) = nmQ o) := Lib.hid (fun o e => by rw [nmV_eq, nmR_eq, e]; exact ⟨rfl, rfl⟩)
  have hlen : (bs.length : Int) ≤ 9223372036854775807 := by omega
  have hlc' : (bs.length : Int) ≤ cap := by omega
  have hcm' : (cap : Int) ≤ 9223372036854775807 := by omega
  clear h hB
  obtain ⟨J, hJ⟩ : ∃ J : Nat, J = min 5 bs.length := ⟨_, rfl⟩
  have hmin : min (5 : Int) bs.length = (J : Int) := by omega
  have hmax : max (J : Int) 0 = (J : Int) := by omega
  have j1 : (J : Int) ≤ bs.length := by omega
  have j2 : (J : Int) ≤ cap := by omega
  have j3 : (J : Int) ≤ 5 := by omega
  have HJ := Lib.hid hJ
  clear hJ
  go_enter Tryz.func68, Tryz.ntmps68
  go_wp2_with fail
  go_quiet (fail)
  go_wp2
  have KN : Kp w (w.drewN nq) := (Kp.refl w).drewN nq
  revert KN
  generalize w.drewN nq = w1
  intro KN
  have HR1 := Lib.hid (HH.out.kp KN)
  have HB1 := Lib.hid (HB.out.gx (Gx.of_kp KN))
  have gx1 := Gx.of_kp (B := R) KN
  have be1 : Below R w w1 := KN.below.mono (by omega)
  have d0 := (KN.cells R 0 hsz).trans c0
  have d1 := (KN.cells R 1 hsz).trans c1
  have f1 := HR1.out.fro 0
  have hsz1 := HR1.out.size
  clear KN hmin hmax c0 c1 f0
  go_loop [3, 18] (fun n i => ∃ (k N : Nat), k ≤ J ∧ i = .int .i64 k ∧ n = .int .i64 N ∧ N < 128 ^ k ∧ Hid (numAt k N (bs.drop k) = num bs)) (fun _ i => J - (intOf i).toNat)
  case atStart => exact ⟨0, 0, Nat.zero_le _, rfl, rfl, by simp, rfl⟩
  case round =>
    obtain ⟨k, N, hk, rfl, rfl, hN, hnum⟩ := hrel
    by_cases hlt : k < J
    · have hkl : k < bs.length := by omega
      obtain ⟨b, off, hao, hbR, hBc⟩ : ∃ b off, ao = some ⟨b, off, none⟩ ∧ b < R ∧ Bcs w1 b off bs := by
        rcases HB1.out with h0 | h1
        · omega
        · exact h1
      subst hao
      have x0 := hBc.at' k hkl
      have hbs := hBc.size
      have hlt8 := (bs.getD k 0).toNat_lt
      have hst := num_step (N := N) hkl (by omega)
      rw [hnum.out] at hst
      have HRD : Hid (∀ ao' n' cap', n' = (bs.drop (k + 1)).length → BIn w1 R ao' (bs.drop (k + 1)) → n' ≤ cap' → cap' ≤ 9223372036854775807 → Rdd w1 R (some (bs.drop (k + 1))) (w1.setCell ⟨R, 0, none⟩ (.slice ao' n' cap'))) := Lib.hid (fun ao' n' cap' a b c d => rdd_set HR1.out _ ao' n' cap' a b c d)
      have HBD : Hid (BIn w1 R (some ⟨b, off + (k + 1), none⟩) (bs.drop (k + 1))) := Lib.hid (bin_drop hbR hBc (k + 1))
      have HDL : Hid ((bs.drop (k + 1)).length = bs.length - (k + 1)) := Lib.hid (List.length_drop ..)
      have HD1 : Hid (numAt (k + 1) (N + (bs.getD k 0).toNat % 128 * 128 ^ k) (bs.drop (k + 1)) = numAt (k + 1) (N + (bs.getD k 0).toNat % 128 * 128 ^ k) (bs.drop (k + 1))) := rfl
      generalize hx : (bs.getD k 0).toNat = x at *
      have hx256 : (x : Int) < 256 := by omega
      have hx0 : (0 : Int) ≤ (x : Int) := by omega
      obtain ⟨Z, z1, z2, z3, z4, z5⟩ := round_or (show k < 5 by omega) hN (show x < 256 by omega)
      have hand : bits .andNot .u8 (x : Int) 128 = ((x % 128 : Nat) : Int) := and_127 ⟨x, by omega⟩
      generalize hY : x % 128 = Y at *
      have hYl : (Y : Int) < 128 := by omega
      have hY0 : (0 : Int) ≤ (Y : Int) := by omega
      have hZl : (Z : Int) ≤ 34359738368 := by omega
      generalize hM : N + Y * 128 ^ k = M at *
      have HM := Lib.hid hM
      have HY := Lib.hid hY
      have HZ4 := Lib.hid z4
      have HST := Lib.hid hst
      have HX := Lib.hid hx
      have hk5 : (k : Int) ≤ 4 := by omega
      have hMl : (M : Int) ≤ 34359738368 := by omega
      have i1 : (k : Int) < J := by omega
      have i2 : (k : Int) + 1 ≤ bs.length := by omega
      have i3 : (k : Int) + 1 ≤ cap := by omega
      have HNU := Lib.hid hN
      clear hM hY hst hx z4 hnum HD1 hBc hN z2 z5
      by_cases h128 : 128 ≤ x
      · have g1 : (128 : Int) ≤ x := by omega
        have NX : Hid (numAt (k + 1) M (bs.drop (k + 1)) = num bs) := Lib.hid (by have := HST.out; rw [if_pos h128] at this; exact this.symm)
        go_wp2
        go_round
        case rel => exact ⟨k + 1, M, by omega, by go_num, rfl, HZ4.out, NX.out⟩
        case measure => simp [intOf]; omega
      · have g1 : (x : Int) < 128 := by omega
        have eMx : M = N + x * 128 ^ k := by rw [← HM.out, ← HY.out, Nat.mod_eq_of_lt (by omega)]
        have h2 := HST.out
        rw [if_neg h128, ← eMx] at h2
        have H2 := Lib.hid h2
        clear h2 eMx
        by_cases hbad : 4294967295 < M ∨ (0 < k ∧ x = 0)
        · have hno : num bs = none := by rw [H2.out, if_pos hbad]
          have HV := Lib.hid (HN.out _ hno)
          have HBAD := Lib.hid hbad
          clear hno hbad
          by_cases hb1 : 4294967295 < M
          · have g2 : (4294967295 : Int) < M := by omega
            go_wp2_with (go_at_call 100; refine (fail_any HR1.out).mono ?_; rintro e w4 ⟨rfl, hd⟩)
            go_ret
            exact ⟨ret_int (by rw [HV.out.1]; rfl), by rw [HV.out.2]; exact hd.rd, gx1.trans hd.gx, be1.trans hd.be⟩
          · have g2 : (M : Int) ≤ 4294967295 := by omega
            have g3 : (0 : Int) < k := by have := HBAD.out; omega
            have hx00 : x = 0 := by have := HBAD.out; omega
            have g4 : ((x : Int) == 0) = true := by rw [hx00]; rfl
            clear hx00
            go_wp2_with (go_at_call 100; refine (fail_any HR1.out).mono ?_; rintro e w4 ⟨rfl, hd⟩)
            go_ret
            exact ⟨ret_int (by rw [HV.out.1]; rfl), by rw [HV.out.2]; exact hd.rd, gx1.trans hd.gx, be1.trans hd.be⟩
        · have hyes : num bs = some (M, bs.drop (k + 1)) := by rw [H2.out, if_neg hbad]
          have HV := Lib.hid (HN.out _ hyes)
          have g2 : (M : Int) ≤ 4294967295 := by omega
          have HBAD := Lib.hid hbad
          clear hyes hbad
          have FIN : Hid (∀ v W, W = w1.setCell ⟨R, 0, none⟩ v → (∃ ao' n' cap', v = .slice ao' n' cap' ∧ n' = (bs.drop (k + 1)).length ∧ BIn w1 R ao' (bs.drop (k + 1)) ∧ n' ≤ cap' ∧ cap' ≤ 9223372036854775807) → Rdd w R (nmR (some bs)) W) := Lib.hid (by
            rintro v W rfl ⟨ao', n', cap', rfl, a, b, c, d⟩
            have := HRD.out ao' n' cap' a b c d
            rw [HV.out.2]
            exact ⟨this.rd, gx1.trans this.gx, be1.trans this.be⟩)
          by_cases hk0 : k = 0
          · have hk0' : (k : Int) ≤ 0 := by omega
            clear hk0
            by_cases hce : cap = k + 1
            · have hl0 : bs.length = k + 1 := by omega
              have HDZ : Hid ((bs.drop (k + 1)).length = 0) := Lib.hid (by rw [HDL.out]; omega)
              have hge : (cap : Int) ≤ (k : Int) + 1 := by omega
              clear hce hl0
              go_wp2
              go_ret
              exact ⟨ret_int (by rw [HV.out.1]; rfl), FIN.out _ _ rfl ⟨_, _, _, rfl, by have := HDZ.out; have := HDL.out; omega, .inl HDZ.out, by have := HDZ.out; have := HDL.out; omega, by omega⟩⟩
            · have hcl : (k : Int) + 1 < cap := by omega
              go_wp2
              go_ret
              exact ⟨ret_int (by rw [HV.out.1]; rfl), FIN.out _ _ rfl ⟨_, _, _, rfl, by rw [HDL.out], HBD.out, by omega, by omega⟩⟩
          · have hk0' : (0 : Int) < k := by omega
            have hx00 : ((x : Int) == 0) = false := by
              rw [beq_eq_false_iff_ne]
              intro e
              exact HBAD.out (.inr ⟨by omega, by omega⟩)
            clear hk0
            by_cases hce : cap = k + 1
            · have hl0 : bs.length = k + 1 := by omega
              have HDZ : Hid ((bs.drop (k + 1)).length = 0) := Lib.hid (by rw [HDL.out]; omega)
              have hge : (cap : Int) ≤ (k : Int) + 1 := by omega
              clear hce hl0
              go_wp2
              go_ret
              exact ⟨ret_int (by rw [HV.out.1]; rfl), FIN.out _ _ rfl ⟨_, _, _, rfl, by have := HDZ.out; have := HDL.out; omega, .inl HDZ.out, by have := HDZ.out; have := HDL.out; omega, by omega⟩⟩
            · have hcl : (k : Int) + 1 < cap := by omega
              go_wp2
              go_ret
              exact ⟨ret_int (by rw [HV.out.1]; rfl), FIN.out _ _ rfl ⟨_, _, _, rfl, by rw [HDL.out], HBD.out, by omega, by omega⟩⟩
    · have hkj : k = J := by omega
      subst hkj
      have hno : num bs = none := by rw [← hnum.out]; exact num_end HJ.out
      have HV := Lib.hid (HN.out _ hno)
      clear hno
      go_wp2_with (go_at_call 100; refine (fail_any HR1.out).mono ?_; rintro e w4 ⟨rfl, hd⟩)
      go_ret
      exact ⟨ret_int (by rw [HV.out.1]; rfl), by rw [HV.out.2]; exact hd.rd, gx1.trans hd.gx, be1.trans hd.be⟩
set_option maxHeartbeats 1000000 in
theorem number_none {w : World} {R : Nat} (h : RdIn w R none) :
    Calls Tryz.prog 68 #[.pointer (some ⟨R, 0, none⟩)] w fun e w' => e = .returned (.int .i64 0) ∧ Rdd w R none w' := by
  obtain ⟨c1, c0⟩ := h.none' rfl
  have hsz := h.size
  have HH := Lib.hid h
  clear h
  go_enter Tryz.func68, Tryz.ntmps68
  go_wp2_with fail
  go_quiet (fail)
  go_wp2
  have KN : Kp w (w.drewN nq) := (Kp.refl w).drewN nq
  revert KN
  generalize w.drewN nq = w1
  intro KN
  have HR1 := Lib.hid (HH.out.kp KN)
  have gx1 := Gx.of_kp (B := R) KN
  have be1 : Below R w w1 := KN.below.mono (by omega)
  clear KN
  refine wp_loop_rounds 1 ?_
  rw [rounds_succ]
  go_wp2_with (go_at_call 100; refine (fail_any HR1.out).mono ?_; rintro e w4 ⟨rfl, hd⟩)
  go_ret
  exact ⟨rfl, hd.rd, gx1.trans hd.gx, be1.trans hd.be⟩
theorem number_any {w : World} {R : Nat} {s : Rd} (h : RdIn w R s) :
    Calls Tryz.prog 68 #[.pointer (some ⟨R, 0, none⟩)] w fun e w' => e = .returned (.int .i64 (nmV s)) ∧ Rdd w R (nmR s) w' := by
  cases s with
  | none => exact number_none h
  | some bs => exact number_some h
theorem upTo_any {w : World} {R : Nat} {s : Rd} (h : RdIn w R s) (most : Nat) :
    Calls Tryz.prog 99 #[.pointer (some ⟨R, 0, none⟩), .int .i64 most] w fun e w' => e = .returned (.int .i64 (upV most s)) ∧ Rdd w R (upR most s) w' := by
  have HH := Lib.hid h
  clear h
  by_cases hm : most < nmV s
  · have e1 : upV most s = 0 := by unfold upV; rw [if_pos hm]
    have e2 : upR most s = none := by unfold upR; rw [if_pos hm]
    rw [e1, e2]
    have hm' : (most : Int) < nmV s := by omega
    have HN := Lib.hid (number_any HH.out)
    generalize nmV s = q at *
    generalize nmR s = t at *
    clear e1 e2 hm
    go_enter Tryz.func99, Tryz.ntmps99
    go_wp2_with fail
    refine HN.out.mono ?_
    rintro e w1 ⟨rfl, h1⟩
    go_wp2_with fail
    refine (fail_any h1.rd).mono ?_
    rintro e w2 ⟨rfl, h2⟩
    go_wp2
    go_ret
    exact ⟨rfl, h1.trans h2⟩
  · have e1 : upV most s = nmV s := by unfold upV; rw [if_neg hm]
    have e2 : upR most s = nmR s := by unfold upR; rw [if_neg hm]
    rw [e1, e2]
    have hm' : (nmV s : Int) ≤ most := by omega
    have HN := Lib.hid (number_any HH.out)
    generalize nmV s = q at *
    generalize nmR s = t at *
    clear e1 e2 hm
    go_enter Tryz.func99, Tryz.ntmps99
    go_wp2_with fail
    refine HN.out.mono ?_
    rintro e w1 ⟨rfl, h1⟩
    go_wp2
    go_ret
    exact ⟨rfl, h1⟩
theorem rdd_kp {w w' : World} {R : Nat} {s : Rd} (h : RdIn w R s) (k : Kp w w') : Rdd w R s w' := ⟨h.kp k, Gx.of_kp k, k.below.mono (Nat.le_of_lt h.size)⟩
theorem Rdd.kp {w w1 w2 : World} {R : Nat} {s : Rd} (h : Rdd w R s w1) (k : Kp w1 w2) : Rdd w R s w2 := h.trans (rdd_kp h.rd k)
/-- A store into a block that is younger than the call. -/
theorem Rdd.set {w w1 : World} {R : Nat} {s : Rd} (h : Rdd w R s w1) {B : Nat} (hB : w.heap.size ≤ B) (hR : R < w.heap.size) (o : Nat) (v : Value) : Rdd w R s (w1.setCell ⟨B, o, none⟩ v) := by
  have hne : B ≠ R := by omega
  have far : ∀ q, (w1.setCell ⟨B, o, none⟩ v).cell? ⟨R, q, none⟩ = w1.cell? ⟨R, q, none⟩ := fun q => World.cell?_setCell_other _ _ _ _ (fun e => hne (congrArg Addr.block e))
  have be : Below R w1 (w1.setCell ⟨B, o, none⟩ v) := (Below.refl R w1).setCell (by show R ≤ B; omega) v
  refine ⟨⟨by simpa using h.rd.size, fun q => by rw [World.frozen?_setCell]; exact h.rd.fro q, fun bs e => ?_, fun e => ⟨(far 1).trans (h.rd.none' e).1, (far 0).trans (h.rd.none' e).2⟩⟩, ⟨by simpa using h.gx.size, fun k hk hkR => ?_⟩, h.be.trans be⟩
  · obtain ⟨a, ao, cap, b, c, d⟩ := h.rd.some' bs e
    refine ⟨(far 1).trans a, ao, cap, (far 0).trans b, ?_, d⟩
    rcases c with c | ⟨b0, off, e1, n, g⟩
    · exact .inl c
    · exact .inr ⟨b0, off, e1, n, by simpa using g.size, fun i hi => (be.cell (p := ⟨b0, off + i, none⟩) n).trans (g.at' i hi)⟩
  · rw [Below.heap_setCell w1 ⟨B, o, none⟩ v k (by show k ≠ B; omega)]
    exact h.gx.block k hk hkR
end Im
end Go.Proofs.YtaeblnlbelebkaaGreatDoor
