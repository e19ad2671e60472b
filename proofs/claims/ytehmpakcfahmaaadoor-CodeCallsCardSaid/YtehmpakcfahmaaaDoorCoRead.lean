/-
  WALKS: package code, numbers and instructions read from texts. Own work.
-/
import Derived.Test.YtehmpakcfahmaaaDoorCoText
import Derived.Test.YtehmpakcfahmaaaDoorCoFind
namespace Go.Proofs.YtehmpakcfahmaaaDoor
namespace Co
open Go.RowKit Go
set_option linter.unusedVariables false

theorem parseM_bd (M : Nat) : ∀ (l : List UInt8) (acc u : Nat), acc ≤ M → Lib.parseUintM M acc l = .ok u → u ≤ M
  | [], acc, u, h, e => by simp only [Lib.parseUintM] at e; injection e with e; omega
  | c :: r, acc, u, h, e => by
    simp only [Lib.parseUintM] at e
    split at e
    · split at e
      · cases e
      · split at e
        · cases e
        · exact parseM_bd M r _ u (by omega) e
    · cases e
theorem parseB_bd {l : List UInt8} {u : Nat} (h : Lib.parseUintB 32 l = .ok u) : u ≤ 4294967295 := by
  unfold Lib.parseUintB at h
  split at h
  · cases h
  · exact parseM_bd _ _ _ _ (by omega) h

theorem scan_5 {w : World} (hE : Env w) (t : List UInt8) :
    Calls Tryd.prog 41 #[.int .i64 5, .string (bytesOf t)] w fun e w' => e = .returned (.int .i64 (scn 5 t)) ∧ Kp w w' := by
  have e : scn 5 t = fnd signL 19 t := rfl
  rw [e]
  go_enter Tryd.func41, Tryd.ntmps41
  go_wp2_with (go_at_call 40; refine (find_sign hE t).mono ?_; rintro e w1 ⟨rfl, k1⟩)
  go_ret
  exact ⟨rfl, k1⟩
theorem scan_6 {w : World} (hE : Env w) (t : List UInt8) :
    Calls Tryd.prog 41 #[.int .i64 6, .string (bytesOf t)] w fun e w' => e = .returned (.int .i64 (scn 6 t)) ∧ Kp w w' := by
  have e : scn 6 t = fnd nameL 3 t := rfl
  rw [e]
  go_enter Tryd.func41, Tryd.ntmps41
  go_wp2_with (go_at_call 40; refine (find_name hE t).mono ?_; rintro e w1 ⟨rfl, k1⟩)
  go_ret
  exact ⟨rfl, k1⟩
theorem scan_num {w : World} (hE : Env w) (k : Int) (t : List UInt8) (h5 : (k == 5) = false) (h6 : (k == 6) = false) (ht : t.length ≤ 1000) :
    Calls Tryd.prog 41 #[.int .i64 k, .string (bytesOf t)] w fun e w' => e = .returned (.int .i64 (scn k t)) ∧ Kp w w' := by
  have n5 : k ≠ 5 := by simpa using h5
  have n6 : k ≠ 6 := by simpa using h6
  have hs : (bytesOf t).size ≤ 1000 := by rw [bytesOf_size]; exact ht
  cases hp : Lib.parseUintB 32 t with
  | ok u =>
    have e : scn k t = u := by unfold scn; rw [if_neg n5, if_neg n6, hp]
    have hu := parseB_bd hp
    have cP := Tryd.strconv_ParseUint_10_at32_ok (bytesOf t) (by omega) u (by rw [bytesOf_list]; exact hp) w
    rw [e]
    clear n5 n6 hp e
    go_enter Tryd.func41, Tryd.ntmps41
    go_wp2_with (go_at_call 47; refine cP.mono ?_; rintro e w1 ⟨rfl, hw⟩; have HW := Lib.hid hw; clear hw)
    go_ret
    refine ⟨rfl, ?_⟩
    rcases HW.out with rfl | rfl
    · exact Kp.refl _
    · exact ⟨Lib.bytesWorld_below _ _ _⟩
  | «syntax» =>
    have e : scn k t = -1 := by unfold scn; rw [if_neg n5, if_neg n6, hp]
    obtain ⟨tp, p, hv⟩ := hE.esyn
    have cP := Tryd.strconv_ParseUint_10_at32_syntax_var (bytesOf t) (by omega) (by rw [bytesOf_list]; exact hp) tp p w hv
    rw [e]
    clear n5 n6 hp e hv
    go_enter Tryd.func41, Tryd.ntmps41
    go_wp2_with (go_at_call 47; refine cP.mono ?_; rintro e w1 ⟨N, rfl, _, _, hb⟩)
    go_ret
    exact ⟨rfl, ⟨hb⟩⟩
  | range =>
    have e : scn k t = -1 := by unfold scn; rw [if_neg n5, if_neg n6, hp]
    obtain ⟨tp, p, hv⟩ := hE.erng
    have cP := Tryd.strconv_ParseUint_10_at32_range_var (bytesOf t) (by omega) (by rw [bytesOf_list]; exact hp) tp p w hv
    rw [e]
    clear n5 n6 hp e hv
    go_enter Tryd.func41, Tryd.ntmps41
    go_wp2_with (go_at_call 47; refine cP.mono ?_; rintro e w1 ⟨N, rfl, _, _, hb⟩)
    go_ret
    exact ⟨rfl, ⟨hb⟩⟩
theorem scan_any {w : World} (hE : Env w) (k : Int) (t : List UInt8) (ht : t.length ≤ 1000) :
    Calls Tryd.prog 41 #[.int .i64 k, .string (bytesOf t)] w fun e w' => e = .returned (.int .i64 (scn k t)) ∧ Kp w w' := by
  by_cases h5 : k = 5
  · subst h5; exact scan_5 hE t
  by_cases h6 : k = 6
  · subst h6; exact scan_6 hE t
  exact scan_num hE k t (by simpa using h5) (by simpa using h6) ht

/-- A slice of texts: none, or its cells. -/
structure Scs (w : World) (b off : Nat) (l : List (List UInt8)) : Prop where
  size : b < w.heap.size
  at' : ∀ i, i < l.length → w.cell? ⟨b, off + i, none⟩ = some (.string (bytesOf (l.getD i [])))
def SIn (w : World) (ao : Option Addr) (l : List (List UInt8)) : Prop := l = [] ∨ ∃ b off, ao = some ⟨b, off, none⟩ ∧ Scs w b off l
theorem Scs.kp {w w' : World} {b off : Nat} {l : List (List UInt8)} (h : Scs w b off l) (k : Kp w w') : Scs w' b off l :=
  ⟨Nat.lt_of_lt_of_le h.size k.size, fun i hi => (k.cells _ _ h.size).trans (h.at' i hi)⟩
theorem SIn.kp {w w' : World} {ao : Option Addr} {l : List (List UInt8)} (h : SIn w ao l) (k : Kp w w') : SIn w' ao l := by
  rcases h with h | ⟨b, off, h, g⟩
  · exact .inl h
  · exact .inr ⟨b, off, h, g.kp k⟩

/-- Three numbers in a block of one's own. -/
structure Nums (w : World) (B : Nat) (f : Nat → Int) : Prop where
  size : B < w.heap.size
  cell : ∀ j, j < 3 → w.cell? ⟨B, j, none⟩ = some (.int .i64 (f j))
  fro : ∀ j, w.frozen? ⟨B, j, none⟩ = false
theorem Nums.kp {w w' : World} {B : Nat} {f : Nat → Int} (h : Nums w B f) (k : Kp w w') : Nums w' B f :=
  ⟨Nat.lt_of_lt_of_le h.size k.size, fun j hj => (k.cells _ _ h.size).trans (h.cell j hj), fun j => (k.fros _ _ h.size).trans (h.fro j)⟩
theorem Nums.set {w : World} {B : Nat} {f : Nat → Int} (h : Nums w B f) {i : Nat} (hi : i < 3) (v : Int) : Nums (w.setCell ⟨B, i, none⟩ (.int .i64 v)) B (fun j => if j = i then v else f j) where
  size := by simpa using h.size
  cell := fun j hj => by
    by_cases e : j = i
    · subst e
      rw [World.cell?_setCell_same (h := h.cell j hj), if_pos rfl]
    · rw [World.cell?_setCell_other (h := by simp only [ne_eq, Addr.mk.injEq, true_and, and_true]; omega), h.cell j hj, if_neg e]
  fro := fun j => by rw [World.frozen?_setCell]; exact h.fro j
theorem Nums.ext {w : World} {B : Nat} {f g : Nat → Int} (h : Nums w B f) (e : ∀ j, j < 3 → f j = g j) : Nums w B g :=
  ⟨h.size, fun j hj => by rw [h.cell j hj, e j hj], h.fro⟩

def numF (op : Int) (l : List (List UInt8)) (j : Nat) : Int := numAt (sel3 (rowAt op).a (rowAt op).b (rowAt op).c j) (j + 1) l
theorem rd_cons {h : List UInt8} {r : List (List UInt8)} : rd (h :: r) = ⟨opOf h, numF (opOf h) (h :: r) 0, numF (opOf h) (h :: r) 1, numF (opOf h) (h :: r) 2⟩ := rfl

theorem read_nil (w : World) (ao : Option Addr) (cap : Nat) :
    Calls Tryd.prog 26 #[.slice ao 0 cap] w fun e w' => e = .returned (.agg #[.int .i64 0, .int .i64 0, .int .i64 0, .int .i64 0]) ∧ Kp w w' := by
  go_enter Tryd.func26, Tryd.ntmps26
  go_wp2
  exact bodyPost_ret (v := .agg #[.int .i64 0, .int .i64 0, .int .i64 0, .int .i64 0]) (by simp [results, Tryd.results26, go_sem]) rfl ⟨rfl, (Kp.refl w).alloc _ _⟩
set_option maxHeartbeats 2000000 in
set_option maxRecDepth 100000 in
theorem read_some {w : World} (hE : Env w) (b off n cap : Nat) (h : List UInt8) (r : List (List UInt8)) (hl : (h :: r).length = n) (hv : Scs w b off (h :: r)) (hn : n ≤ 1000) (ht : ∀ i, ((h :: r).getD i []).length ≤ 1000) (op x y z : Int) (ho : opOf h = op)
    (hx : numF op (h :: r) 0 = x) (hy : numF op (h :: r) 1 = y) (hz : numF op (h :: r) 2 = z) :
    Calls Tryd.prog 26 #[.slice (some ⟨b, off, none⟩) n cap] w fun e w' => e = .returned (.agg #[.int .i64 op, .int .i64 x, .int .i64 y, .int .i64 z]) ∧ Kp w w' := by
  have hn0 : 0 < n := by rw [← hl]; simp
  have hne : (n == 0) = false := by simp; omega
  have c0 : w.cell? ⟨b, off, none⟩ = some (.string (bytesOf h)) := hv.at' 0 (by simp)
  have hbs := hv.size
  generalize hr : rowAt op = rw0
  obtain ⟨nm, ka, kb, kc, tk, gv, jm, sp⟩ := rw0
  have hnf : ∀ j, numF op (h :: r) j = numAt (sel3 ka kb kc j) (j + 1) (h :: r) := fun j => by unfold numF; rw [hr]
  have HNF := Lib.hid hnf
  have HO := Lib.hid ho
  have HR := Lib.hid hr
  have HX := Lib.hid hx
  have HY := Lib.hid hy
  have HZ := Lib.hid hz
  have HV := Lib.hid hv
  have HT := Lib.hid ht
  have HL := Lib.hid hl
  clear ho hr hx hy hz hv ht hnf hl
  go_enter Tryd.func26, Tryd.ntmps26
  go_wp2_with fail
  refine (find_op (hE.kept ((Kp.refl w).alloc _ _)) h).mono ?_
  rintro e w1 ⟨rfl, k1⟩
  have eo : fnd opL 24 h = op := HO.out
  rw [eo]
  clear eo
  have hz1 := size_alloc k1
  have kk1 := ((Kp.refl w).alloc _ _).trans k1
  go_wp2_with fail
  refine (rowOf_any (hE.kept (kk1.alloc _ _)).rows op nm ka kb kc tk gv jm sp HR.out).mono ?_
  rintro e w2 ⟨rfl, k2⟩
  have kk2 := (kk1.alloc _ _).trans k2
  go_wp2_with fail
  refine (kinds_any w2 (bytesOf nm) ka kb kc tk gv jm sp).mono ?_
  rintro e w3 ⟨rfl, k3⟩
  have N0 : Nums (w1.alloc (.cells #[.int .i64 0, .int .i64 0, .int .i64 0] 51)) w1.heap.size (fun _ => 0) := ⟨by simp, fun j hj => by
    obtain rfl | rfl | rfl : j = 0 ∨ j = 1 ∨ j = 2 := by omega
    · simp
    · simp
    · simp, fun j => by simp⟩
  have N3 := (N0.kp k2).kp k3
  have K1 := ((Kp.refl w1).alloc (#[.int .i64 0, .int .i64 0, .int .i64 0]) 51).trans (k2.trans k3)
  have KA : Kp (w.alloc (.cells #[.int .i64 0, .int .i64 0, .int .i64 0, .int .i64 0] 27)) w3 := k1.trans K1
  have hB1 : (w.alloc (.cells #[.int .i64 0, .int .i64 0, .int .i64 0, .int .i64 0] 27)).heap.size ≤ w1.heap.size := k1.size
  have hRz : w.heap.size < (w.alloc (.cells #[.int .i64 0, .int .i64 0, .int .i64 0, .int .i64 0] 27)).heap.size := by simp
  have hR : ∀ j, j < 4 → (w.alloc (.cells #[.int .i64 0, .int .i64 0, .int .i64 0, .int .i64 0] 27)).cell? ⟨w.heap.size, j, none⟩ = some (.int .i64 0) := fun j hj => by
    obtain rfl | rfl | rfl | rfl : j = 0 ∨ j = 1 ∨ j = 2 ∨ j = 3 := by omega
    all_goals simp
  have hRf : ∀ j, (w.alloc (.cells #[.int .i64 0, .int .i64 0, .int .i64 0, .int .i64 0] 27)).frozen? ⟨w.heap.size, j, none⟩ = false := fun j => by simp
  have kwa : Kp w (w.alloc (.cells #[.int .i64 0, .int .i64 0, .int .i64 0, .int .i64 0] 27)) := (Kp.refl w).alloc _ _
  clear N0 k1 k2 k3 kk1 kk2 K1
  generalize hB : w1.heap.size = B at *
  generalize hwa : w.alloc (.cells #[.int .i64 0, .int .i64 0, .int .i64 0, .int .i64 0] 27) = wa at *
  have HRC := Lib.hid hR
  have HRF := Lib.hid hRf
  clear hB hwa hR hRf c0 hz1
  go_wp2
  go_loopw [18] (fun i' wr => ∃ k : Nat, k ≤ 3 ∧ i' = .int .i64 k ∧ Nums wr B (fun j => if j < k then numAt (sel3 ka kb kc j) (j + 1) (h :: r) else 0) ∧ Kp wa wr) (fun i' _ => 3 - (intOf i').toNat)
  case atStart => exact ⟨0, by omega, rfl, N3.ext (fun j hj => by rw [if_neg (by omega)]), KA⟩
  case round =>
    obtain ⟨k, hk, rfl, NN, kr⟩ := hrel
    by_cases hlt : k < 3
    · have hix := fun W => sel_ix ka kb kc k W hlt
      have hkz : (k : Int) < 3 := by omega
      have step : ∀ v, v = numAt (sel3 ka kb kc k) (k + 1) (h :: r) → ∀ j, j < 3 → (if j = k then v else if j < k then numAt (sel3 ka kb kc j) (j + 1) (h :: r) else 0) = if j < k + 1 then numAt (sel3 ka kb kc j) (j + 1) (h :: r) else 0 := fun v hv j hj => by
        by_cases e : j = k
        · subst e; rw [if_pos rfl, if_pos (by omega), hv]
        · rw [if_neg e]
          by_cases e2 : j < k
          · rw [if_pos e2, if_pos (by omega)]
          · rw [if_neg e2, if_neg (by omega)]
      have stay : numAt (sel3 ka kb kc k) (k + 1) (h :: r) = 0 → ∀ j, j < 3 → (if j < k then numAt (sel3 ka kb kc j) (j + 1) (h :: r) else 0) = if j < k + 1 then numAt (sel3 ka kb kc j) (j + 1) (h :: r) else 0 := fun hv j hj => by
        by_cases e : j = k
        · subst e; rw [if_neg (by omega), if_pos (by omega), hv]
        · by_cases e2 : j < k
          · rw [if_pos e2, if_pos (by omega)]
          · rw [if_neg e2, if_neg (by omega)]
      have STEP := Lib.hid step
      have STAY := Lib.hid stay
      clear step stay
      by_cases h0 : sel3 ka kb kc k = 0
      · have b0 : (sel3 ka kb kc k != 0) = false := by simp [h0]
        have e : numAt (sel3 ka kb kc k) (k + 1) (h :: r) = 0 := by unfold numAt; rw [if_neg (by simp [h0])]
        have E := Lib.hid e
        clear e h0
        go_wp2
        go_roundw
        case rel => exact ⟨k + 1, by omega, by go_num, NN.ext (STAY.out E.out), kr⟩
        case measure => simp [intOf]; omega
      · have b0 : (sel3 ka kb kc k != 0) = true := by simp [h0]
        by_cases hkn : k + 1 < n
        · have hknz : (k : Int) + 1 < (n : Int) := by omega
          have e : numAt (sel3 ka kb kc k) (k + 1) (h :: r) = scn (sel3 ka kb kc k) ((h :: r).getD (k + 1) []) := by unfold numAt; rw [if_pos ⟨h0, by rw [HL.out]; exact hkn⟩]
          have hcell : wr.cell? ⟨b, off + (k + 1), none⟩ = some (.string (bytesOf ((h :: r).getD (k + 1) []))) := (kr.cells _ _ (Nat.lt_of_lt_of_le hbs kwa.size)).trans ((kwa.cells _ _ hbs).trans (HV.out.at' (k + 1) (by rw [HL.out]; exact hkn)))
          have E := Lib.hid e
          have hlen := HT.out (k + 1)
          have HLEN := Lib.hid hlen
          clear e h0 hlen
          generalize sel3 ka kb kc k = K at *
          generalize (h :: r).getD (k + 1) [] = pk at *
          go_wp2_with fail
          refine (scan_any (hE.kept (kwa.trans kr)) K pk HLEN.out).mono ?_
          rintro e w5 ⟨rfl, k5⟩
          have N5 := NN.kp k5
          have hc5 := N5.cell k hlt
          have hf5 := N5.fro k
          have hs5 := N5.size
          have kr5 := kr.trans k5
          have HN5 := Lib.hid N5
          clear N5 hcell
          go_wp2
          go_roundw
          case rel => exact ⟨k + 1, by omega, by go_num, (HN5.out.set hlt (scn K pk)).ext (STEP.out _ E.out.symm), kr5.setCell hB1 _⟩
          case measure => simp [intOf]; omega
        · have hknz : (n : Int) ≤ (k : Int) + 1 := by omega
          have hkd : decide ((k : Int) + 1 < (n : Int)) = false := by simp; omega
          have e : numAt (sel3 ka kb kc k) (k + 1) (h :: r) = 0 := by unfold numAt; rw [if_neg (by rw [HL.out]; omega)]
          have E := Lib.hid e
          clear e h0
          go_wp2
          go_roundw
          case rel => exact ⟨k + 1, by omega, by go_num, NN.ext (STAY.out E.out), kr⟩
          case measure => simp [intOf]; omega
    · obtain rfl : k = 3 := by omega
      have f0 : wr.cell? ⟨B, 0, none⟩ = some (.int .i64 x) := by rw [NN.cell 0 (by omega), if_pos (by omega), ← HX.out, HNF.out]
      have f1 : wr.cell? ⟨B, 1, none⟩ = some (.int .i64 y) := by rw [NN.cell 1 (by omega), if_pos (by omega), ← HY.out, HNF.out]
      have f2 : wr.cell? ⟨B, 2, none⟩ = some (.int .i64 z) := by rw [NN.cell 2 (by omega), if_pos (by omega), ← HZ.out, HNF.out]
      have g0 : wr.cell? ⟨w.heap.size, 0, none⟩ = some (.int .i64 0) := (kr.cells _ _ hRz).trans (HRC.out 0 (by omega))
      have g1 : wr.cell? ⟨w.heap.size, 1, none⟩ = some (.int .i64 0) := (kr.cells _ _ hRz).trans (HRC.out 1 (by omega))
      have g2 : wr.cell? ⟨w.heap.size, 2, none⟩ = some (.int .i64 0) := (kr.cells _ _ hRz).trans (HRC.out 2 (by omega))
      have g3 : wr.cell? ⟨w.heap.size, 3, none⟩ = some (.int .i64 0) := (kr.cells _ _ hRz).trans (HRC.out 3 (by omega))
      have u0 : ∀ j, wr.frozen? ⟨w.heap.size, j, none⟩ = false := fun j => (kr.fros _ _ hRz).trans (HRF.out j)
      have kw := kwa.trans kr
      go_wp2
      exact bodyPost_ret (v := .agg #[.int .i64 op, .int .i64 x, .int .i64 y, .int .i64 z]) (by simp [results, Tryd.results26, go_sem, g0, g1, g2, g3]) rfl ⟨rfl, (((kw.setCell (Nat.le_refl _) _).setCell (Nat.le_refl _) _).setCell (Nat.le_refl _) _).setCell (Nat.le_refl _) _⟩
theorem read_any {w : World} (hE : Env w) (ao : Option Addr) (cap : Nat) (l : List (List UInt8)) (hv : SIn w ao l) (hn : l.length ≤ 1000) (ht : ∀ i, (l.getD i []).length ≤ 1000) (i : In) (hi : rd l = i) :
    Calls Tryd.prog 26 #[.slice ao l.length cap] w fun e w' => e = .returned (.agg #[.int .i64 i.op, .int .i64 i.a, .int .i64 i.b, .int .i64 i.c]) ∧ Kp w w' := by
  subst hi
  cases l with
  | nil => exact read_nil w ao cap
  | cons h r =>
    rcases hv with hv | ⟨b, off, rfl, hv⟩
    · cases hv
    · exact read_some hE b off _ cap h r rfl hv hn ht _ _ _ _ rfl rfl rfl rfl
end Co
end Go.Proofs.YtehmpakcfahmaaaDoor
