/-
  WALKS: package image, numbers as bytes: put, access. Own work.
-/
import Derived.Test.YtaeblnlbelebkaaGreatDoorImCalls
import Derived.Test.YtaeblnlbelebkaaGreatDoorImBytes
import Derived.Maps.AppendAt
import Derived.Laws.Shifts
import Derived.Outline
namespace Go.Proofs.YtaeblnlbelebkaaGreatDoor
namespace Im
open Go.RowKit Go
open Co (Kp ret_int ret_bool ret2_int In in0 IIn Ics Wf)
open Ln (VIn Vcs)
set_option linter.unusedVariables false

theorem info_u8 : (Tryz.prog.info? 5).map (fun i => (i.zero, i.size, i.bytes)) = some (some (.int .u8 0), 1, 1) := by kernel_rfl
/-- Bytes, as cells. -/
def byc (l : List UInt8) : List Value := l.map fun b => Value.int .u8 (b.toNat : Int)
theorem byc_snoc (l : List UInt8) (x : UInt8) : byc (l ++ [x]) = byc l ++ [.int .u8 (x.toNat : Int)] := by simp [byc]
/-- A call's own bytes. -/
def Ow (w : World) (B : Nat) (v : Value) (l : List UInt8) : Prop := w.ownsRow B 5 1 v l.length (byc l)
/-- What put answers. -/
def PutP (w : World) (B : Nat) (l : List UInt8) (e : Ending) (w' : World) : Prop := ∃ v, e = .returned v ∧ Ow w' B v l ∧ Below B w w'
theorem or_128 : ∀ x : Fin 256, bits .or .u8 (x.val : Int) 128 = ((x.val % 128 + 128 : Nat) : Int) := by decide +kernel
theorem news_one (w : World) (x : Value) (T : TypeId) : ∀ (j : Nat) (u : Value), [x][j]? = some u → (w.alloc (.cells #[x] T)).cell? ((⟨w.heap.size, 0, none⟩ : Addr).add j) = some u := by
  intro j u hj
  match j, hj with
  | 0, hj => simp at hj; subst hj; simp [Addr.add]
theorem one_int (k : IntKind) (x : Int) : ∀ u ∈ [Value.int k x], u.oneCell' = true := by intro u hu; simp at hu; subst hu; rfl
/-- After an append to one's own bytes. -/
theorem ow_step {w w' : World} {B T : Nat} {u u' : Value} {L : List UInt8} {c : UInt8} (hO : Ow w B u L) (hB : B ≤ w.heap.size) {x : Value}
    (hown' : w'.ownsRow B 5 1 u' (L.length + 1) (byc L ++ [Value.int .u8 (c.toNat : Int)])) (hgrow : (w.alloc (.cells #[x] T)).grownBy w' u.ownBlock)
    (hat : u'.ownBlock = u.ownBlock ∨ u'.ownBlock = some (w.heap.size + 1)) :
    Ow w' B u' (L ++ [c]) ∧ Below B w w' ∧ (∀ b, b < w.heap.size → u.ownBlock ≠ some b → (∀ o, w'.cell? ⟨b, o, none⟩ = w.cell? ⟨b, o, none⟩) ∧ u'.ownBlock ≠ some b) := by
  refine ⟨?_, ((Below.refl B w).alloc hB _).grown hgrow (by simp; omega) (fun q hq => (hO.lt q hq).1), fun b hb hnb => ⟨fun o => ?_, ?_⟩⟩
  · unfold Ow; rw [byc_snoc, List.length_append]; exact hown'
  · rw [World.cell?_of_block (w := w.alloc (.cells #[x] T)) (a := ⟨b, o, none⟩) (hgrow.block b (by simp; omega) (fun e => hnb e.symm))]
    exact World.cell?_of_block (w := w) (a := ⟨b, o, none⟩) (Below.heap_alloc w _ b hb)
  · rcases hat with hat | hat
    · rw [hat]; exact hnb
    · rw [hat]; simp only [ne_eq, Option.some.injEq]; omega
theorem vints_len : ∀ (k : Nat) (xs : Nat → Int), (∀ q, q < k → 0 ≤ xs q ∧ xs q ≤ 9223372036854775807) → (vints ((List.range k).map xs)).length ≤ 10 * k
  | 0, xs, _ => by simp [vints]
  | k + 1, xs, h => by
    rw [List.range_succ, List.map_append, vints_append, List.length_append, List.map_cons, List.map_nil, vints_one]
    have a := vints_len k xs fun q hq => h q (by omega)
    have b := vint_len10 (n := (xs k).toNat) (by have := h k (by omega); omega)
    omega
set_option maxHeartbeats 4000000 in
set_option maxRecDepth 100000 in
theorem put_any {w : World} {B : Nat} {v : Value} {l : List UInt8} (hO : Ow w B v l) (ao : Option Addr) (n cap : Nat) (xs : Nat → Int) (hI : IIn w ao xs n) (hne : ∀ a, ao = some a → 0 < n → v.ownBlock ≠ some a.block) (hB : B ≤ w.heap.size)
    (hx : ∀ k, k < n → 0 ≤ xs k ∧ xs k ≤ 9223372036854775807) (hlen : l.length + 10 * n ≤ 1099511627776) :
    Calls Tryz.prog 62 #[v, .slice ao n cap] w (PutP w B (l ++ vints ((List.range n).map xs))) := by
  obtain ⟨i0, hi, hz0, hz1, hz2⟩ := info_parts info_u8
  have HI := Lib.hid hI
  have HX := Lib.hid hx
  have HNE := Lib.hid hne
  have hn : (n : Int) ≤ 9223372036854775807 := by omega
  clear hI hx hne
  go_enter Tryz.func62, Tryz.ntmps62
  go_wp2
  go_loopw [0, 9] (fun u i wr => ∃ k : Nat, k ≤ n ∧ i = .int .i64 k ∧ Ow wr B u (l ++ vints ((List.range k).map xs)) ∧ IIn wr ao xs n ∧ (∀ a, ao = some a → 0 < n → u.ownBlock ≠ some a.block) ∧ Below B w wr) (fun _ i _ => n - (intOf i).toNat)
  case atStart => exact ⟨0, Nat.zero_le _, rfl, by simpa [vints] using hO, HI.out, HNE.out, Below.refl _ _⟩
  case round =>
    obtain ⟨k, hk, rfl, hown, hin, hnb, kr⟩ := hrel
    obtain ⟨wo, rfl⟩ : ∃ wo : World, wo = wr := ⟨_, rfl⟩
    by_cases hlt : k < n
    · obtain ⟨b, off, hbo, hIc⟩ := IIn.at hin hlt
      subst hbo
      have x0 := hIc.at' k hlt
      have hbs := hIc.size
      obtain ⟨y0, y1⟩ := HX.out k hlt
      have hXE : xs k = xs k := rfl
      generalize hxk : xs k = x at *
      clear hXE
      obtain ⟨N, rfl⟩ := Int.eq_ofNat_of_zero_le y0
      have hLl : (l ++ vints ((List.range k).map xs)).length ≤ l.length + 10 * k := by
        rw [List.length_append]
        have : (vints ((List.range k).map xs)).length ≤ 10 * k := vints_len k xs (fun q hq => HX.out q (by omega))
        omega
      have hfin : vints ((List.range (k + 1)).map xs) = vints ((List.range k).map xs) ++ vint N := by
        rw [List.range_succ, List.map_append, vints_append, List.map_cons, List.map_nil, vints_one, hxk, Int.toNat_natCast]
      have HFIN := Lib.hid hfin
      clear hfin
      generalize hL : l ++ vints ((List.range k).map xs) = L at *
      have HL := Lib.hid hL
      clear hL
      have HN10 : (vint N).length ≤ 10 := vint_len10 (by omega)
      clear hIc
      go_wp2
      go_loopw [0, 6] (fun u nn wr => ∃ (M : Nat) (pre : List UInt8), nn = .int .i64 M ∧ M ≤ N ∧ Hid (pre ++ vint M = vint N) ∧ Ow wr B u (L ++ pre) ∧ IIn wr (some ⟨b, off, none⟩) xs n ∧ (∀ a, some (⟨b, off, none⟩ : Addr) = some a → 0 < n → u.ownBlock ≠ some a.block) ∧ Below B w wr) (fun _ nn _ => (intOf nn).toNat)
      case atStart => exact ⟨N, [], rfl, Nat.le_refl _, rfl, by simpa using hown, hin, hnb, kr⟩
      case round =>
        obtain ⟨M, pre, rfl, hMN, hpre, hown2, hin2, hnb2, kr2⟩ := hrel
        have hpl : pre.length ≤ 10 := by have := congrArg List.length hpre.out; rw [List.length_append] at this; omega
        have hll : (L ++ pre).length ≤ 2199023255552 := by rw [List.length_append]; omega
        obtain ⟨hin2s, hin2c⟩ : b < wr.heap.size ∧ ∀ i, i < n → wr.cell? ⟨b, off + i, none⟩ = some (.int .i64 (xs i)) := by
          rcases hin2 with h0 | ⟨b', off', e, g⟩
          · omega
          · simp only [Option.some.injEq, Addr.mk.injEq, and_true] at e
            obtain ⟨rfl, rfl⟩ := e
            exact ⟨g.size, g.at'⟩
        have m0 : (M : Int) ≤ 9223372036854775807 := by omega
        by_cases hM : 128 ≤ M
        · have hM' : (128 : Int) ≤ M := by omega
          have hb1 : bits .or .u8 ((M : Int) % 256) 128 = ((UInt8.ofNat (M % 128 + 128)).toNat : Int) := by
            have := or_128 ⟨M % 256, by omega⟩
            simp only at this
            rw [toNat_ofNat (by omega), show ((M : Int) % 256) = ((M % 256 : Nat) : Int) by omega, this]
            omega
          have hnext : pre ++ [UInt8.ofNat (M % 128 + 128)] ++ vint (M / 128) = vint N := by
            rw [← hpre.out, vint_big hM]; simp
          have HNX := Lib.hid hnext
          clear hnext
          generalize UInt8.ofNat (M % 128 + 128) = c at *
          have hwB : B ≤ wr.heap.size := Nat.le_trans hB kr2.size
          have hown3 : wr.ownsRow B 5 1 _ (L ++ pre).length (byc (L ++ pre)) := hown2
          go_wp2_with (at_builtin; refine wpList_append_own_at _ rfl _ _ 30 rfl B 5 i0 (.int .u8 0) 1 1 Tryz.underlying30 hi hz0 hz1 hz2 rfl (by decide) _ _ _ rfl (hown3.alloc _) ⟨wr.heap.size, 0, none⟩ 1 1 [.int .u8 (c.toNat : Int)] rfl rfl (news_one _ _ _) (one_int _ _) (by unfold maxLen; omega) (by omega) (by simp; omega) ?_)
          intro v' w3 hown' hgrow _ hat
          rw [← List.length_append] at hown'
          obtain ⟨hO3, hB3, hF3⟩ := ow_step hown2 hwB hown' hgrow hat
          have hkeep := hF3 b hin2s (hnb2 _ rfl (by omega))
          have hin3 : IIn w3 (some ⟨b, off, none⟩) xs n := .inr ⟨b, off, rfl, Nat.lt_of_lt_of_le hin2s hB3.size, fun i hi => (hkeep.1 _).trans (hin2c i hi)⟩
          rw [List.append_assoc] at hO3
          have HO3 := Lib.hid hO3
          have HI3 := Lib.hid hin3
          have HB3 := Lib.hid (kr2.trans hB3)
          have HK3 := Lib.hid hkeep.2
          clear hown' hgrow hat hO3 hin3 hkeep hF3 hB3 hown2 hown3 hin2 hin2c
          go_wp2
          go_roundw
          case rel => exact ⟨M / 128, pre ++ [c], by go_num, by omega, HNX.out, HO3.out, HI3.out, fun a e _ => by cases e; exact HK3.out, HB3.out⟩
          case measure => simp [intOf]; omega
        · have hM' : (M : Int) < 128 := by omega
          have hv : pre ++ [UInt8.ofNat M] = vint N := by rw [← hpre.out, vint_small (by omega)]
          have HB2 : Hid ((M : Int) = ((UInt8.ofNat M).toNat : Int)) := Lib.hid (by rw [toNat_ofNat (by omega)])
          have HV := Lib.hid hv
          have hwB : B ≤ wr.heap.size := Nat.le_trans hB kr2.size
          have hown3 : wr.ownsRow B 5 1 _ (L ++ pre).length (byc (L ++ pre)) := hown2
          clear hv
          generalize UInt8.ofNat M = c at *
          go_wp2_with (at_builtin; refine wpList_append_own_at _ rfl _ _ 30 rfl B 5 i0 (.int .u8 0) 1 1 Tryz.underlying30 hi hz0 hz1 hz2 rfl (by decide) _ _ _ rfl (hown3.alloc _) ⟨wr.heap.size, 0, none⟩ 1 1 [.int .u8 (M : Int)] rfl rfl (news_one _ _ _) (one_int _ _) (by unfold maxLen; omega) (by omega) (by simp; omega) ?_)
          intro v' w3 hown' hgrow _ hat
          rw [HB2.out] at hown'
          rw [← List.length_append] at hown'
          obtain ⟨hO3, hB3, hF3⟩ := ow_step hown2 hwB hown' hgrow hat
          have hkeep := hF3 b hin2s (hnb2 _ rfl (by omega))
          have hin3 : IIn w3 (some ⟨b, off, none⟩) xs n := .inr ⟨b, off, rfl, Nat.lt_of_lt_of_le hin2s hB3.size, fun i hi => (hkeep.1 _).trans (hin2c i hi)⟩
          rw [List.append_assoc, HV.out, ← HL.out, List.append_assoc, ← HFIN.out] at hO3
          have HO3 := Lib.hid hO3
          have HI3 := Lib.hid hin3
          have HB3 := Lib.hid (kr2.trans hB3)
          have HK3 := Lib.hid hkeep.2
          clear hown' hgrow hat hO3 hin3 hkeep hF3 hB3 hown2 hown3 hin2 hin2c
          go_wp2
          go_roundw
          case rel => exact ⟨k + 1, by omega, by go_num, HO3.out, HI3.out, fun a e _ => by cases e; exact HK3.out, HB3.out⟩
          case measure => simp [intOf]; omega
    · obtain rfl : k = n := by omega
      go_wp2
      go_ret
      exact ⟨_, rfl, hown, kr⟩
theorem vints_le : ∀ (ys : List Int), (∀ y ∈ ys, 0 ≤ y ∧ y ≤ 9223372036854775807) → (vints ys).length ≤ 10 * ys.length
  | [], _ => by simp [vints]
  | y :: ys, h => by
    rw [vints_cons, List.length_append, List.length_cons]
    have a := vints_le ys fun z hz => h z (by simp [hz])
    have b := vint_len10 (n := y.toNat) (by have := h y (by simp); omega)
    omega
theorem range_getD (ys : List Int) : (List.range ys.length).map (fun k => ys.getD k 0) = ys := by
  apply List.ext_getElem?
  intro i
  by_cases h : i < ys.length
  · rw [List.getElem?_map, List.getElem?_range h, Option.map_some, List.getElem?_eq_getElem h, List.getD_eq_getElem?_getD, List.getElem?_eq_getElem h, Option.getD_some]
  · rw [List.getElem?_eq_none (by simp; omega), List.getElem?_eq_none (by omega)]
theorem _root_.Go.Proofs.YtaeblnlbelebkaaGreatDoor.Co.Kp.trans' {w w1 w2 : World} (k : Kp w w1) (b : Below w.heap.size w1 w2) (h : w.heap.size ≤ w1.heap.size) : Kp w w2 := ⟨k.below.trans b⟩
/-- put of a row of numbers that lies elsewhere. -/
theorem put_row {w : World} {B : Nat} {v : Value} {l : List UInt8} (hO : Ow w B v l) (ao : Option Addr) (cap : Nat) (L : List Int) (hI : IIn w ao (fun j => L.getD j 0) L.length) (hne : ∀ a, ao = some a → 0 < L.length → v.ownBlock ≠ some a.block) (hB : B ≤ w.heap.size) (hx : ∀ y ∈ L, 0 ≤ y ∧ y ≤ 9223372036854775807) (hlen : l.length + 10 * L.length ≤ 1099511627776) :
    Calls Tryz.prog 62 #[v, .slice ao L.length cap] w (PutP w B (l ++ vints L)) := by
  have hp := put_any hO ao L.length cap _ hI hne hB (fun k hk => hx _ (by
    show L.getD k 0 ∈ L
    rw [List.getD_eq_getElem?_getD, List.getElem?_eq_getElem hk]; exact List.getElem_mem hk)) hlen
  rw [range_getD] at hp
  exact hp
/-- put of numbers that lie in a block of their own. -/
theorem put_h {w : World} {B : Nat} {v : Value} {l : List UInt8} (hO : Ow w B v l) (hB : B ≤ w.heap.size) (ys : List Int) (H : Nat) (hH : H < w.heap.size) (hne : v.ownBlock ≠ some H) (hc : ∀ i, i < ys.length → w.cell? ⟨H, i, none⟩ = some (.int .i64 (ys.getD i 0)))
    (hx : ∀ y ∈ ys, 0 ≤ y ∧ y ≤ 9223372036854775807) (hlen : l.length + 10 * ys.length ≤ 1099511627776) :
    Calls Tryz.prog 62 #[v, .slice (some ⟨H, 0, none⟩) ys.length ys.length] w (PutP w B (l ++ vints ys)) := by
  have hI : IIn w (some ⟨H, 0, none⟩) (fun k => ys.getD k 0) ys.length := .inr ⟨_, 0, rfl, hH, fun i hi => by rw [Nat.zero_add]; exact hc i hi⟩
  have hp := put_any hO (some ⟨H, 0, none⟩) ys.length ys.length _ hI (fun a e _ => by cases e; exact hne) hB (fun k hk => hx _ (by
    show ys.getD k 0 ∈ ys
    rw [List.getD_eq_getElem?_getD, List.getElem?_eq_getElem hk]; exact List.getElem_mem hk)) hlen
  rw [range_getD] at hp
  exact hp
/-- The bytes of a call lie below a block that was made behind them. -/
theorem Ow.ne {w : World} {B : Nat} {v : Value} {l : List UInt8} (hO : Ow w B v l) {H : Nat} (hH : w.heap.size ≤ H) : v.ownBlock ≠ some H := fun g => by have := (hO.lt _ g).2; omega
theorem Ow.kp {w w' : World} {B : Nat} {v : Value} {l : List UInt8} (hO : Ow w B v l) (k : Kp w w') : Ow w' B v l := own_kp hO k
theorem put_1 {w w0 : World} {B : Nat} {v : Value} {l : List UInt8} (h0 : Ow w0 B v l) (k0 : Kp w0 w) (hB : B ≤ w0.heap.size) (a : Int) (H : Nat) (hH : w0.heap.size ≤ H) (hs : H < w.heap.size) (c0 : w.cell? ⟨H, 0, none⟩ = some (.int .i64 a))
    (ha : 0 ≤ a ∧ a ≤ 9223372036854775807) (hlen : l.length ≤ 549755813888) :
    Calls Tryz.prog 62 #[v, .slice (some ⟨H, 0, none⟩) 1 1] w (PutP w B (l ++ vints [a])) :=
  put_h (h0.kp k0) (Nat.le_trans hB k0.size) [a] H hs (h0.ne hH) (fun i hi => by
    match i, hi with
    | 0, _ => exact c0) (by intro y hy; simp at hy; subst hy; exact ha) (by simp; omega)
theorem put_2 {w w0 : World} {B : Nat} {v : Value} {l : List UInt8} (h0 : Ow w0 B v l) (k0 : Kp w0 w) (hB : B ≤ w0.heap.size) (a b : Int) (H : Nat) (hH : w0.heap.size ≤ H) (hs : H < w.heap.size) (c0 : w.cell? ⟨H, 0, none⟩ = some (.int .i64 a)) (c1 : w.cell? ⟨H, 1, none⟩ = some (.int .i64 b))
    (ha : 0 ≤ a ∧ a ≤ 9223372036854775807) (hb : 0 ≤ b ∧ b ≤ 9223372036854775807) (hlen : l.length ≤ 549755813888) :
    Calls Tryz.prog 62 #[v, .slice (some ⟨H, 0, none⟩) 2 2] w (PutP w B (l ++ vints [a, b])) :=
  put_h (h0.kp k0) (Nat.le_trans hB k0.size) [a, b] H hs (h0.ne hH) (fun i hi => by
    match i, hi with
    | 0, _ => exact c0
    | 1, _ => exact c1) (by intro y hy; simp at hy; rcases hy with rfl | rfl <;> assumption) (by simp; omega)
theorem put_3 {w w0 : World} {B : Nat} {v : Value} {l : List UInt8} (h0 : Ow w0 B v l) (k0 : Kp w0 w) (hB : B ≤ w0.heap.size) (a b c : Int) (H : Nat) (hH : w0.heap.size ≤ H) (hs : H < w.heap.size) (c0 : w.cell? ⟨H, 0, none⟩ = some (.int .i64 a)) (c1 : w.cell? ⟨H, 1, none⟩ = some (.int .i64 b)) (c2 : w.cell? ⟨H, 2, none⟩ = some (.int .i64 c))
    (ha : 0 ≤ a ∧ a ≤ 9223372036854775807) (hb : 0 ≤ b ∧ b ≤ 9223372036854775807) (hc : 0 ≤ c ∧ c ≤ 9223372036854775807) (hlen : l.length ≤ 549755813888) :
    Calls Tryz.prog 62 #[v, .slice (some ⟨H, 0, none⟩) 3 3] w (PutP w B (l ++ vints [a, b, c])) :=
  put_h (h0.kp k0) (Nat.le_trans hB k0.size) [a, b, c] H hs (h0.ne hH) (fun i hi => by
    match i, hi with
    | 0, _ => exact c0
    | 1, _ => exact c1
    | 2, _ => exact c2) (by intro y hy; simp at hy; rcases hy with rfl | rfl | rfl <;> assumption) (by simp; omega)
theorem put_4 {w w0 : World} {B : Nat} {v : Value} {l : List UInt8} (h0 : Ow w0 B v l) (k0 : Kp w0 w) (hB : B ≤ w0.heap.size) (a b c d : Int) (H : Nat) (hH : w0.heap.size ≤ H) (hs : H < w.heap.size) (c0 : w.cell? ⟨H, 0, none⟩ = some (.int .i64 a)) (c1 : w.cell? ⟨H, 1, none⟩ = some (.int .i64 b)) (c2 : w.cell? ⟨H, 2, none⟩ = some (.int .i64 c)) (c3 : w.cell? ⟨H, 3, none⟩ = some (.int .i64 d))
    (ha : 0 ≤ a ∧ a ≤ 9223372036854775807) (hb : 0 ≤ b ∧ b ≤ 9223372036854775807) (hc : 0 ≤ c ∧ c ≤ 9223372036854775807) (hd : 0 ≤ d ∧ d ≤ 9223372036854775807) (hlen : l.length ≤ 549755813888) :
    Calls Tryz.prog 62 #[v, .slice (some ⟨H, 0, none⟩) 4 4] w (PutP w B (l ++ vints [a, b, c, d])) :=
  put_h (h0.kp k0) (Nat.le_trans hB k0.size) [a, b, c, d] H hs (h0.ne hH) (fun i hi => by
    match i, hi with
    | 0, _ => exact c0
    | 1, _ => exact c1
    | 2, _ => exact c2
    | 3, _ => exact c3) (by intro y hy; simp at hy; rcases hy with rfl | rfl | rfl | rfl <;> assumption) (by simp; omega)

theorem access_any (a b : Bool) (w : World) : Calls Tryz.prog 63 #[.agg #[.bool a, .bool b]] w fun e w' => e = .returned (.int .i64 (acc ⟨a, b⟩)) ∧ Kp w w' := by
  cases a <;> cases b
  all_goals
    go_enter Tryz.func63, Tryz.ntmps63
    go_wp2
    go_ret
    exact ⟨rfl, (Kp.refl w).alloc _ _⟩
end Im
end Go.Proofs.YtaeblnlbelebkaaGreatDoor
