/-
  WALKS: Take of package lines. Own work.
-/
import Derived.Test.YtlhbpklilfabnaaDoorLinTake
namespace Go.Proofs.YtlhbpklilfabnaaDoor
namespace Ln
open Go.RowKit Go
set_option linter.unusedVariables false

/-- The locals of Take behind k rounds: the best so far in block B, whether there is one in the next. -/
structure Bst (w : World) (B : Nat) (X : Value) (wr : World) (o : Option Nat) : Prop where
  kp : Kp w wr
  lo : w.heap.size < B
  size : B + 2 ≤ wr.heap.size
  b : wr.cell? ⟨B, 0, none⟩ = some (.int .i64 (oi o))
  f : wr.cell? ⟨B + 1, 0, none⟩ = some (.bool (ob o))
  fb : wr.frozen? ⟨B, 0, none⟩ = false
  ff : wr.frozen? ⟨B + 1, 0, none⟩ = false
  x : wr.cell? ⟨w.heap.size, 0, none⟩ = some X
theorem Bst.on {w wr w' : World} {B : Nat} {X : Value} {o : Option Nat} (h : Bst w B X wr o) (k : Kp wr w') : Bst w B X w' o :=
  ⟨h.kp.trans k, h.lo, Nat.le_trans h.size k.size, (k.cells _ _ (by have := h.size; omega)).trans h.b, (k.cells _ _ (by have := h.size; omega)).trans h.f, (k.fro (by have := h.size; simp; omega)).trans h.fb, (k.fro (by have := h.size; simp; omega)).trans h.ff, (k.cells _ _ (by have := h.size; have := h.lo; omega)).trans h.x⟩
theorem Bst.put {w wr : World} {B : Nat} {X : Value} {o : Option Nat} (h : Bst w B X wr o) (k : Nat) : Bst w B X ((wr.setCell ⟨B, 0, none⟩ (.int .i64 k)).setCell ⟨B + 1, 0, none⟩ (.bool true)) (some k) := by
  have hs := h.size
  have hl := h.lo
  have e : ((wr.setCell ⟨B, 0, none⟩ (.int .i64 k)).cell? ⟨B + 1, 0, none⟩) = wr.cell? ⟨B + 1, 0, none⟩ := World.cell?_setCell_far _ _ _ _ (by simp)
  refine ⟨(h.kp.setCell (by simp; omega) _).setCell (by simp; omega) _, hl, by simpa using hs, ?_, ?_, ?_, ?_, ?_⟩
  · rw [World.cell?_setCell_far _ _ _ _ (by simp)]; exact World.cell?_setCell_same _ _ _ h.b
  · exact World.cell?_setCell_same _ _ _ (e.trans h.f)
  · rw [World.frozen?_setCell, World.frozen?_setCell]; exact h.fb
  · rw [World.frozen?_setCell, World.frozen?_setCell]; exact h.ff
  · rw [World.cell?_setCell_far _ _ _ _ (by simp; omega), World.cell?_setCell_far _ _ _ _ (by simp; omega)]; exact h.x
theorem Bst.start {w w1 : World} {X : Value} (k : Kp w w1) (hs : w.heap.size < w1.heap.size) (hx : w1.cell? ⟨w.heap.size, 0, none⟩ = some X) : Bst w w1.heap.size X ((w1.alloc (.cells #[.int .i64 0] 3)).alloc (.cells #[.bool false] 4)) none :=
  ⟨(k.alloc _ _).alloc _ _, hs, by simp, by simp [oi], by simp [ob], by simp, by simp, by rw [((Kp.refl w1).alloc _ _).alloc _ _ |>.cells _ _ hs]; exact hx⟩

theorem max_floor (lv ac : Int) : ∃ F, (if lv < ac then ac else lv) = F ∧ ∀ q, F < q ↔ lv < q ∧ ac < q := by
  refine ⟨_, rfl, fun q => ?_⟩
  split <;> omega
theorem rdy_has {p e R lv ac F : Int} (HR : ∀ x, hasB R x = (hasB p x && hasB e x)) (HF : ∀ q, F < q ↔ lv < q ∧ ac < q) (v : Vc) : rdy p e lv ac v = (hasB R v.l && decide (F < v.p)) := by
  unfold rdy
  rw [HR, Bool.and_assoc, ← Bool.decide_and]
  congr 1
  rw [decide_eq_decide]; exact (HF _).symm

set_option maxHeartbeats 1000000 in
theorem take_yes (p e lv ac : Int) (ao : Option Addr) (n cap : Nat) (vs : Nat → Vc) (w : World) (hv : VIn w ao vs n) (hn : n ≤ maxLen) (hp : 0 ≤ p) (hp' : p < 4294967296) (he : 0 ≤ e) (he' : e < 4294967296) (hc : chk vs n = 0) :
    Calls Tryd.prog 15 #[.int .u32 p, .int .u32 e, .int .i64 lv, .int .i64 ac, .slice ao n cap] w
      fun e' w' => e' = .returned (.tuple #[.int .i64 (oi (best (rdy p e lv ac) vs n)), .bool (ob (best (rdy p e lv ac) vs n))]) ∧ Kp w w' := by
  have hv1 := hv.kp ((Kp.refl w).alloc #[.slice ao n cap] 28)
  obtain ⟨h32, hg⟩ := chk_zero.1 hc
  have hck : Calls Tryd.prog 14 #[.slice ao n cap] (w.alloc (.cells #[.slice ao n cap] 28)) fun e w' => e = .returned (.int .i64 0) ∧ Kp (w.alloc (.cells #[.slice ao n cap] 28)) w' := by
    have := check_any ao n cap vs _ hv1 hn
    rwa [hc] at this
  have hR := and_bd hp hp' he he'
  have HR' := hasB_and hp hp' he he'
  obtain ⟨R, hRe⟩ : ∃ R, bits .and .u32 p e = R := ⟨_, rfl⟩
  rw [hRe] at hR HR'
  obtain ⟨hR0, hR1⟩ := hR
  obtain ⟨F, hF, HF'⟩ := max_floor lv ac
  have HQ := Lib.hid (rdy_has HR' HF')
  clear HR' HF'
  obtain ⟨r, hr⟩ : ∃ r, r = rdy p e lv ac := ⟨_, rfl⟩
  rw [← hr] at HQ ⊢
  clear hr hc hv1 hg
  go_enter Tryd.func15, Tryd.ntmps15
  go_wp2_with fail
  refine hck.mono ?_
  rintro e1 w1 ⟨rfl, hk1⟩
  clear hck
  have hz1 : w.heap.size < w1.heap.size := by have := hk1.size; simp at this; omega
  have hbox : w1.cell? ⟨w.heap.size, 0, none⟩ = some (.slice ao n cap) := by rw [hk1.cells _ _ (by simp)]; simp
  have hst := Lib.hid (Bst.start (((Kp.refl w).alloc _ _).trans hk1) hz1 hbox)
  clear hk1
  go_wp2
  have hn' : n ≤ 9223372036854775807 := by omega
  go_loopw [31] (fun i wr => ∃ (k : Nat) (o : Option Nat), k ≤ n ∧ i = .int .i64 k ∧ best r vs k = o ∧ Bst w w1.heap.size (.slice ao n cap) wr o) (fun i _ => n - (intOf i).toNat)
  case atStart => exact ⟨0, none, Nat.zero_le _, rfl, rfl, hst.out⟩
  case round =>
    obtain ⟨k, o, hk, rfl, ho, hb⟩ := hrel
    have HO := Lib.hid ho
    have HB := Lib.hid hb
    clear ho hb
    by_cases hlt : k < n
    · obtain ⟨b, off, hao, hvc⟩ := (hv.kp HB.out.kp).at hlt
      subst hao
      have cl := hvc.l k hlt
      have cp := hvc.p k hlt
      have cf := hvc.f k hlt
      have HV := Lib.hid (hvc.kp ((Kp.refl wr).alloc #[.int .i64 (vs k).l, .int .i64 (vs k).p, .int .i64 (vs k).f] 35))
      have HA := Lib.hid (HB.out.on ((Kp.refl wr).alloc #[.int .i64 (vs k).l, .int .i64 (vs k).p, .int .i64 (vs k).f] 35))
      clear hvc
      have hrk := HQ.out (vs k)
      cases hhb : hasB R (vs k).l with
      | false =>
        have HN := Lib.hid (show r (vs k) = false by rw [hrk, hhb]; rfl)
        clear hrk
        go_wp2_with (go_at_call 13; refine (has_any R (vs k).l _ hR0 hR1).mono ?_; rintro e w' ⟨rfl, rfl⟩)
        go_roundw
        case rel => exact ⟨k + 1, o, by omega, by go_num, by rw [best_no HN.out]; exact HO.out, HA.out⟩
        case measure => simp [intOf]; omega
      | true =>
        by_cases hFp : F < (vs k).p
        · have HY := Lib.hid (show r (vs k) = true by rw [hrk, hhb]; simpa using hFp)
          clear hrk
          cases o with
          | none =>
            have hf1 := HA.out.f
            have hfs : w1.heap.size + 1 < (wr.alloc (.cells #[.int .i64 (vs k).l, .int .i64 (vs k).p, .int .i64 (vs k).f] 35)).heap.size := by have := HA.out.size; omega
            have HC := Lib.hid (clo_first (vs k) (w1.heap.size + 1) w.heap.size w1.heap.size _ hf1 hfs)
            clear hf1 hfs
            go_wp2_with (first | (go_at_call 13; refine (has_any R (vs k).l _ hR0 hR1).mono ?_; rintro e w' ⟨rfl, rfl⟩) | (go_at_call 28; refine HC.out.mono ?_; rintro e w2 ⟨rfl, hk2⟩; have h2 := HA.out.on hk2; have g1 := h2.b; have g2 := h2.f; have g3 := h2.fb; have g4 := h2.ff; have H2 := Lib.hid h2; clear h2))
            go_roundw
            case rel => exact ⟨k + 1, some k, by omega, by go_num, best_first HY.out HO.out, H2.out.put k⟩
            case measure => simp [intOf]; omega
          | some c =>
            have hcn : c < n := by have := (best_spec HO.out).1; omega
            have hf1 := HA.out.f
            have hf2 := HA.out.b
            have hf3 := HA.out.x
            have hs1 := HA.out.size
            have hs2 := HA.out.lo
            have HC := Lib.hid (clo_next (vs k) (w1.heap.size + 1) w.heap.size w1.heap.size b off n cap c vs _ hf1 (by omega) hf3 (by omega) hf2 (by omega) hcn HV.out)
            clear hf1 hf2 hf3 hs1 hs2
            cases hbe : beB (vs k) (vs c) with
            | true =>
              rw [hbe] at HC
              go_wp2_with (first | (go_at_call 13; refine (has_any R (vs k).l _ hR0 hR1).mono ?_; rintro e w' ⟨rfl, rfl⟩) | (go_at_call 28; refine HC.out.mono ?_; rintro e w2 ⟨rfl, hk2⟩; have h2 := HA.out.on hk2; have g1 := h2.b; have g2 := h2.f; have g3 := h2.fb; have g4 := h2.ff; have H2 := Lib.hid h2; clear h2))
              go_roundw
              case rel => exact ⟨k + 1, some k, by omega, by go_num, best_new HY.out HO.out hbe, H2.out.put k⟩
              case measure => simp [intOf]; omega
            | false =>
              rw [hbe] at HC
              go_wp2_with (first | (go_at_call 13; refine (has_any R (vs k).l _ hR0 hR1).mono ?_; rintro e w' ⟨rfl, rfl⟩) | (go_at_call 28; refine HC.out.mono ?_; rintro e w2 ⟨rfl, hk2⟩; have H2 := Lib.hid (HA.out.on hk2)))
              go_roundw
              case rel => exact ⟨k + 1, some c, by omega, by go_num, best_old HY.out HO.out hbe, H2.out⟩
              case measure => simp [intOf]; omega
        · have HN := Lib.hid (show r (vs k) = false by rw [hrk, hhb]; simpa using hFp)
          clear hrk
          go_wp2_with (go_at_call 13; refine (has_any R (vs k).l _ hR0 hR1).mono ?_; rintro e w' ⟨rfl, rfl⟩)
          go_roundw
          case rel => exact ⟨k + 1, o, by omega, by go_num, by rw [best_no HN.out]; exact HO.out, HA.out⟩
          case measure => simp [intOf]; omega
    · obtain rfl : k = n := by omega
      have hb1 := HB.out.b
      have hb2 := HB.out.f
      go_wp2
      go_quiet (fail)
      go_wp2
      go_ret2
      exact ⟨ret2_ib (by rw [HO.out]) (by rw [HO.out]), HB.out.kp.drewN _⟩
theorem take_not (p e lv ac : Int) (ao : Option Addr) (n cap : Nat) (vs : Nat → Vc) (w : World) (hv : VIn w ao vs n) (hn : n ≤ maxLen) (hc : ¬ chk vs n = 0) :
    Calls Tryd.prog 15 #[.int .u32 p, .int .u32 e, .int .i64 lv, .int .i64 ac, .slice ao n cap] w
      fun e' w' => e' = .returned (.tuple #[.int .i64 0, .bool false]) ∧ Kp w w' := by
  have hv1 := hv.kp ((Kp.refl w).alloc #[.slice ao n cap] 28)
  have hck := check_any ao n cap vs _ hv1 hn
  have hne : (chk vs n != 0) = true := by simpa using hc
  clear hc hv1
  go_enter Tryd.func15, Tryd.ntmps15
  go_wp2_with fail
  refine hck.mono ?_
  rintro e1 w1 ⟨rfl, hk1⟩
  clear hck
  go_wp2
  go_ret2
  exact ⟨rfl, ((Kp.refl w).alloc _ _).trans hk1⟩
theorem take_any (p e lv ac : Int) (ao : Option Addr) (n cap : Nat) (vs : Nat → Vc) (w : World) (hv : VIn w ao vs n) (hn : n ≤ maxLen) (hp : 0 ≤ p) (hp' : p < 4294967296) (he : 0 ≤ e) (he' : e < 4294967296) :
    Calls Tryd.prog 15 #[.int .u32 p, .int .u32 e, .int .i64 lv, .int .i64 ac, .slice ao n cap] w
      fun e' w' => e' = .returned (.tuple #[.int .i64 (oi (tk p e lv ac vs n)), .bool (ob (tk p e lv ac vs n))]) ∧ Kp w w' := by
  by_cases hc : chk vs n = 0
  · obtain ⟨h32, hg⟩ := chk_zero.1 hc
    rw [tk_ok h32 hg]
    exact take_yes p e lv ac ao n cap vs w hv hn hp hp' he he' hc
  · rw [tk_no hc]
    exact take_not p e lv ac ao n cap vs w hv hn hc
end Ln
end Go.Proofs.YtlhbpklilfabnaaDoor
