/-
  WALKS: the document's own answers of layer 5: the number of a text. Own work.
-/
import Derived.Test.YtlgkcjhoaecekaaDoorLxRefW
import Derived.Test.YtlgkcjhoaecekaaDoorLxWord
import Derived.Test.YtlgkcjhoaecekaaDoorLxNum
namespace Go.Proofs.YtlgkcjhoaecekaaDoor
namespace Lx
open Go.RowKit Go
set_option linter.unusedVariables false

theorem rval_snoc (q : Nat) (a : List UInt8) (b : UInt8) : val q (a ++ [b]) = val q a * q + dig b := by
  unfold val
  rw [List.foldl_append]
  rfl
theorem val_le (q : Nat) (hq : 1 ≤ q) (a b : List UInt8) : val q a ≤ val q (a ++ b) := by
  rw [val_app]
  have : val q a * 1 ≤ val q a * q ^ b.length := Nat.mul_le_mul_left _ (Nat.one_le_pow _ _ hq)
  omega
theorem rval_take (q : Nat) (hq : 1 ≤ q) (t : List UInt8) (k : Nat) : val q (t.take k) ≤ val q t := by
  have := val_le q hq (t.take k) (t.drop k)
  rwa [List.take_append_drop] at this
theorem val_step (q : Nat) {t : List UInt8} {k : Nat} (h : k < t.length) : val q (t.take (k + 1)) = val q (t.take k) * q + dig t[k] := by
  rw [take_end h, rval_snoc]
theorem dig_dg {b : UInt8} (h : isDg b = true) : (dig b : Int) = (b.toNat : Int) - 48 ∧ 48 ≤ b.toNat ∧ b.toNat ≤ 57 := by
  unfold dig
  rw [if_pos h]
  unfold isDg at h
  simp at h
  omega
theorem dig_hx {b : UInt8} (h : isDg b = false) (h2 : isHx b = true) : (dig b : Int) = (b.toNat : Int) - 87 ∧ 97 ≤ b.toNat ∧ b.toNat ≤ 102 := by
  unfold isHx at h2
  rw [h] at h2
  unfold dig
  rw [if_neg (by simp [h])]
  simp at h2
  omega
theorem hx_not {b : UInt8} (h : isDg b = false) (h2 : isHx b = false) : b.toNat < 97 ∨ 102 < b.toNat := by
  unfold isHx at h2
  rw [h] at h2
  simp at h2
  omega
theorem hx_dg {b : UInt8} (h : isDg b = true) : isHx b = true := by unfold isHx; rw [h]; rfl
theorem all_no {p : UInt8 → Bool} {t : List UInt8} {k : Nat} (hk : k < t.length) (h : p t[k] = false) : t.all p = false := by
  rw [← Bool.not_eq_true, List.all_eq_true]
  intro g
  have := g _ (List.getElem_mem hk)
  rw [h] at this
  cases this
theorem all_yes {p : UInt8 → Bool} {t : List UInt8} (h : ∀ j (hj : j < t.length), p t[j] = true) : t.all p = true := by
  rw [List.all_eq_true]
  intro x hx
  obtain ⟨j, hj, rfl⟩ := List.getElem_of_mem hx
  exact h j hj
/-- A number's text behind its prefix: the number, and whether there is one. -/
def numV (q : Nat) (p : UInt8 → Bool) (t : List UInt8) : Int := if t.all p = true ∧ val q t ≤ 4294967295 then (val q t : Nat) else 0
def numB (q : Nat) (p : UInt8 → Bool) (t : List UInt8) : Bool := decide (t ≠ []) && t.all p && decide (val q t ≤ 4294967295)
theorem numV_bad {q : Nat} {p : UInt8 → Bool} {t : List UInt8} (h : t.all p = false ∨ 4294967295 < val q t) : numV q p t = 0 ∧ numB q p t = false := by
  unfold numV numB
  rcases h with h | h
  · rw [h, if_neg (by simp)]; simp
  · rw [if_neg (by omega)]
    refine ⟨rfl, ?_⟩
    rw [decide_eq_false (by omega : ¬ val q t ≤ 4294967295), Bool.and_false]
theorem numV_ok {q : Nat} {p : UInt8 → Bool} {t : List UInt8} (h : t.all p = true) (h2 : val q t ≤ 4294967295) : numV q p t = (val q t : Nat) ∧ numB q p t = decide (0 < t.length) := by
  unfold numV numB
  rw [if_pos ⟨h, h2⟩, h]
  refine ⟨rfl, ?_⟩
  rw [decide_eq_true h2, Bool.and_true, Bool.and_true, Bool.eq_iff_iff]
  simp [List.length_pos_iff]
theorem ret2_ub {a b : Int} {c d : Bool} (h : a = b) (g : c = d) : Ending.returned (.tuple #[.int .u32 a, .bool c]) = .returned (.tuple #[.int .u32 b, .bool d]) := by rw [h, g]

set_option maxHeartbeats 8000000 in
set_option maxRecDepth 100000 in
theorem rNumber_hex (s t : List UInt8) (hl : s.length ≤ 65536) (hp : [48, 120].isPrefixOf s = true) (ht : s.drop 2 = t) (w : World) (v : Int) (b : Bool) (hv : numV 16 isHx t = v) (hb : numB 16 isHx t = b) :
    Calls Tryd.prog 54 #[.string (bytesOf s)] w fun e w' => e = .returned (.tuple #[.int .u32 v, .bool b]) ∧ Kp w w' := by
  have hs2 : 2 ≤ (bytesOf s).size := by
    rw [bytesOf_size]
    cases s with
    | nil => cases hp
    | cons x s1 => cases s1 with
      | nil => simp [List.isPrefixOf] at hp
      | cons y r => simp
  have HEX : Hid ((bytesOf s).extract 2 (bytesOf s).size = bytesOf t) := Lib.hid (by rw [ext_end, ht])
  have hm : ((bytesOf s).size : Int) ≤ 65536 := by rw [bytesOf_size]; omega
  have htl : t.length ≤ 65536 := by rw [← ht, List.length_drop]; omega
  have HHP : Hid (∀ W, Calls Tryd.prog 28 #[.string (bytesOf s), .string ⟨#[48, 120]⟩] W fun e w' => e = .returned (.bool true) ∧ w' = W) := Lib.hid (fun W => hasPrefix_any s [48, 120] W true hp)
  have hz : (bytesOf t).size = t.length := bytesOf_size t
  have hmt : ((bytesOf t).size : Int) ≤ 65536 := by rw [hz]; omega
  have HZ := Lib.hid hz
  have HBAD := Lib.hid (fun (g : t.all isHx = false ∨ 4294967295 < val 16 t) => (And.intro (hv.symm.trans (numV_bad g).1) (hb.symm.trans (numV_bad g).2) : v = 0 ∧ b = false))
  have HOK := Lib.hid (fun (g : t.all isHx = true) (g2 : val 16 t ≤ 4294967295) => (And.intro (hv.symm.trans (numV_ok g g2).1) (hb.symm.trans (numV_ok g g2).2) : v = (val 16 t : Nat) ∧ b = decide (0 < t.length)))
  clear hz hv hb htl hp hl ht
  go_enter Tryd.func54, Tryd.ntmps54
  go_wp2_with fail
  refine (HHP.out _).mono ?_
  rintro e w1 ⟨rfl, rfl⟩
  go_wp2_with fail
  go_quiet (fail)
  have hex := HEX.out
  go_wp2_with fail
  rw [hex]
  clear hex HEX hm hs2
  go_loop [6] (fun i => ∃ k : Nat, k ≤ (bytesOf t).size ∧ i = .int .i64 k ∧ Hid (∀ j (hj : j < t.length), j < k → isHx t[j] = true)) (fun i => (bytesOf t).size - (intOf i).toNat)
  case atStart => exact ⟨0, Nat.zero_le _, rfl, Lib.hid (fun j hj h => absurd h (Nat.not_lt_zero _))⟩
  case round =>
    obtain ⟨k, hk, rfl, hall⟩ := hrel
    by_cases hlt : k < (bytesOf t).size
    · have hb := byte_at t k hlt (by rw [← HZ.out]; exact hlt)
      have HB := Lib.hid hb
      clear hb
      have STOP : Hid (isHx (bytesOf t)[k] = false → v = 0 ∧ b = false) := Lib.hid (fun g => HBAD.out (.inl (all_no (k := k) (by rw [← HZ.out]; exact hlt) (by rw [← HB.out]; exact g))))
      have GO : Hid (isHx (bytesOf t)[k] = true → ∀ j (hj : j < t.length), j < k + 1 → isHx t[j] = true) := Lib.hid (fun g j hj h => by
        by_cases e : j = k
        · subst e; rw [← HB.out]; exact g
        · exact hall.out j hj (by omega))
      obtain ⟨x, hx⟩ : ∃ x, (bytesOf t)[k] = x := ⟨_, rfl⟩
      have HX := Lib.hid hx
      obtain ⟨pd, hpd⟩ : ∃ p, isDg x = p := ⟨_, rfl⟩
      have HD := Lib.hid (fun W => rDigit_any (bytesOf t)[k] W pd (by rw [hx]; exact hpd))
      have HPD := Lib.hid hpd
      clear hpd hx
      cases pd with
      | true =>
        go_wp2_with fail
        refine (HD.out _).mono ?_
        rintro e w1 ⟨rfl, rfl⟩
        go_wp2
        go_round
        case rel => exact ⟨k + 1, by omega, by go_num, Lib.hid (GO.out (by rw [HX.out]; exact hx_dg HPD.out))⟩
        case measure => simp [intOf]; omega
      | false =>
        cases hpx : isHx x with
        | true =>
          have hr := (dig_hx HPD.out hpx).2
          have HPX := Lib.hid hpx
          clear hpx
          rw [← HX.out] at hr
          go_wp2_with fail
          refine (HD.out _).mono ?_
          rintro e w1 ⟨rfl, rfl⟩
          go_wp2
          go_round
          case rel => exact ⟨k + 1, by omega, by go_num, Lib.hid (GO.out (by rw [HX.out]; exact HPX.out))⟩
          case measure => simp [intOf]; omega
        | false =>
          have hr := hx_not HPD.out hpx
          obtain ⟨ev, eb⟩ := STOP.out (by rw [HX.out]; exact hpx)
          have HEV := Lib.hid (And.intro ev eb)
          clear hpx ev eb
          rcases hr with hr | hr
          all_goals
            rw [← HX.out] at hr
            go_wp2_with fail
            refine (HD.out _).mono ?_
            rintro e w1 ⟨rfl, rfl⟩
            go_wp2
            go_ret2
            exact ⟨ret2_ub HEV.out.1.symm HEV.out.2.symm, (Kp.refl _).drewN _⟩
    · obtain rfl : k = (bytesOf t).size := by omega
      have HALL : Hid (∀ j (hj : j < t.length), isHx t[j] = true) := Lib.hid (fun j hj => hall.out j hj (by rw [HZ.out]; exact hj))
      clear hall
      go_wp2_with fail
      go_loop [7, 8, 9] (fun n i d => ∃ (k : Nat) (a : Nat), k ≤ (bytesOf t).size ∧ i = .int .i64 k ∧ n = .int .u64 a ∧ a ≤ 4294967295 ∧ Hid (val 16 (t.take k) = a)) (fun _ i _ => (bytesOf t).size - (intOf i).toNat)
      case atStart => exact ⟨0, 0, Nat.zero_le _, rfl, rfl, by omega, Lib.hid rfl⟩
      case round =>
        obtain ⟨k, a, hk, rfl, rfl, ha, hva⟩ := hrel
        by_cases hlt : k < (bytesOf t).size
        · have hb := byte_at t k hlt (by rw [← HZ.out]; exact hlt)
          have hkt : k < t.length := by rw [← HZ.out]; exact hlt
          have hpx := HALL.out k hkt
          rw [← hb] at hpx
          have hst := val_step 16 hkt
          rw [← hb, hva.out] at hst
          have HST := Lib.hid hst
          have HBIG : Hid (4294967295 < a * 16 + dig (bytesOf t)[k] → v = 0 ∧ b = false) := Lib.hid (fun g => HBAD.out (.inr (by
            have := rval_take 16 (by decide) t (k + 1)
            rw [HST.out] at this
            omega)))
          clear hb hst
          obtain ⟨x, hx⟩ : ∃ x, (bytesOf t)[k] = x := ⟨_, rfl⟩
          rw [hx] at hpx HST HBIG
          have HX := Lib.hid hx
          obtain ⟨pd, hpd⟩ : ∃ p, isDg x = p := ⟨_, rfl⟩
          have HD := Lib.hid (fun W => rDigit_any (bytesOf t)[k] W pd (by rw [hx]; exact hpd))
          cases pd with
          | true =>
            have hdv := dig_dg hpd
            have HDV := Lib.hid hdv.1
            have x1 := hdv.2
            rw [← hx] at x1
            clear hdv hpd hpx hx
            go_wp2_with fail
            refine (HD.out _).mono ?_
            rintro e w1 ⟨rfl, rfl⟩
            by_cases hg : (4294967296 : Int) ≤ a * 16 + ((bytesOf t)[k].toNat - 48)
            · have hgb := HBIG.out (by have := HDV.out; rw [← HX.out] at this; rw [← HX.out]; omega)
              have HGB := Lib.hid hgb
              clear hgb
              go_wp2
              go_ret2
              exact ⟨ret2_ub HGB.out.1.symm HGB.out.2.symm, (Kp.refl _).drewN _⟩
            · go_wp2
              go_round
              case rel => exact ⟨k + 1, a * 16 + dig x, by omega, by go_num, by congr 1; have := HDV.out; rw [← HX.out] at this ⊢; push_cast; omega, by have := HDV.out; rw [← HX.out] at this ⊢; omega, HST⟩
              case measure => simp [intOf]; omega
          | false =>
            have hdv := dig_hx hpd hpx
            have HDV := Lib.hid hdv.1
            have x1 := hdv.2
            rw [← hx] at x1
            clear hdv hpd hpx hx
            go_wp2_with fail
            refine (HD.out _).mono ?_
            rintro e w1 ⟨rfl, rfl⟩
            by_cases hg : (4294967296 : Int) ≤ a * 16 + ((bytesOf t)[k].toNat - 97 + 10)
            · have hgb := HBIG.out (by have := HDV.out; rw [← HX.out] at this; rw [← HX.out]; omega)
              have HGB := Lib.hid hgb
              clear hgb
              go_wp2
              go_ret2
              exact ⟨ret2_ub HGB.out.1.symm HGB.out.2.symm, (Kp.refl _).drewN _⟩
            · go_wp2
              go_round
              case rel => exact ⟨k + 1, a * 16 + dig x, by omega, by go_num, by congr 1; have := HDV.out; rw [← HX.out] at this ⊢; push_cast; omega, by have := HDV.out; rw [← HX.out] at this ⊢; omega, HST⟩
              case measure => simp [intOf]; omega
        · obtain rfl : k = (bytesOf t).size := by omega
          have hv2 := hva.out
          rw [List.take_of_length_le (by rw [HZ.out]; exact Nat.le_refl _)] at hv2
          obtain ⟨ev, eb⟩ := HOK.out (all_yes HALL.out) (by rw [hv2]; exact ha)
          rw [hv2] at ev
          have HEV := Lib.hid (And.intro ev eb)
          clear ev eb hv2
          go_wp2
          go_ret2
          exact ⟨ret2_ub (by rw [HEV.out.1]) (by first | (rw [HEV.out.2, HZ.out]; done) | simp [HEV.out.2, HZ.out]), (Kp.refl _).drewN _⟩

set_option maxHeartbeats 8000000 in
set_option maxRecDepth 100000 in
theorem rNumber_dec (s t : List UInt8) (hl : s.length ≤ 65536) (hp : [48, 120].isPrefixOf s = false) (ht : s = t) (w : World) (v : Int) (b : Bool) (hv : numV 10 isDg t = v) (hb : numB 10 isDg t = b) :
    Calls Tryd.prog 54 #[.string (bytesOf s)] w fun e w' => e = .returned (.tuple #[.int .u32 v, .bool b]) ∧ Kp w w' := by
  subst ht
  have hm : ((bytesOf s).size : Int) ≤ 65536 := by rw [bytesOf_size]; omega
  have htl := hl
  have HHP : Hid (∀ W, Calls Tryd.prog 28 #[.string (bytesOf s), .string ⟨#[48, 120]⟩] W fun e w' => e = .returned (.bool false) ∧ w' = W) := Lib.hid (fun W => hasPrefix_any s [48, 120] W false hp)
  have hz : (bytesOf s).size = s.length := bytesOf_size s
  have hmt : ((bytesOf s).size : Int) ≤ 65536 := by rw [hz]; omega
  have HZ := Lib.hid hz
  have HBAD := Lib.hid (fun (g : s.all isDg = false ∨ 4294967295 < val 10 s) => (And.intro (hv.symm.trans (numV_bad g).1) (hb.symm.trans (numV_bad g).2) : v = 0 ∧ b = false))
  have HOK := Lib.hid (fun (g : s.all isDg = true) (g2 : val 10 s ≤ 4294967295) => (And.intro (hv.symm.trans (numV_ok g g2).1) (hb.symm.trans (numV_ok g g2).2) : v = (val 10 s : Nat) ∧ b = decide (0 < s.length)))
  clear hz hv hb htl hp hl
  go_enter Tryd.func54, Tryd.ntmps54
  go_wp2_with fail
  refine (HHP.out _).mono ?_
  rintro e w1 ⟨rfl, rfl⟩
  go_wp2_with fail
  go_loop [6] (fun i => ∃ k : Nat, k ≤ (bytesOf s).size ∧ i = .int .i64 k ∧ Hid (∀ j (hj : j < s.length), j < k → isDg s[j] = true)) (fun i => (bytesOf s).size - (intOf i).toNat)
  case atStart => exact ⟨0, Nat.zero_le _, rfl, Lib.hid (fun j hj h => absurd h (Nat.not_lt_zero _))⟩
  case round =>
    obtain ⟨k, hk, rfl, hall⟩ := hrel
    by_cases hlt : k < (bytesOf s).size
    · have hb := byte_at s k hlt (by rw [← HZ.out]; exact hlt)
      have HB := Lib.hid hb
      clear hb
      have STOP : Hid (isDg (bytesOf s)[k] = false → v = 0 ∧ b = false) := Lib.hid (fun g => HBAD.out (.inl (all_no (k := k) (by rw [← HZ.out]; exact hlt) (by rw [← HB.out]; exact g))))
      have GO : Hid (isDg (bytesOf s)[k] = true → ∀ j (hj : j < s.length), j < k + 1 → isDg s[j] = true) := Lib.hid (fun g j hj h => by
        by_cases e : j = k
        · subst e; rw [← HB.out]; exact g
        · exact hall.out j hj (by omega))
      obtain ⟨x, hx⟩ : ∃ x, (bytesOf s)[k] = x := ⟨_, rfl⟩
      have HX := Lib.hid hx
      obtain ⟨pd, hpd⟩ : ∃ p, isDg x = p := ⟨_, rfl⟩
      have HD := Lib.hid (fun W => rDigit_any (bytesOf s)[k] W pd (by rw [hx]; exact hpd))
      have HPD := Lib.hid hpd
      clear hpd hx
      cases pd with
      | true =>
        go_wp2_with fail
        refine (HD.out _).mono ?_
        rintro e w1 ⟨rfl, rfl⟩
        go_wp2
        go_round
        case rel => exact ⟨k + 1, by omega, by go_num, Lib.hid (GO.out (by rw [HX.out]; exact HPD.out))⟩
        case measure => simp [intOf]; omega
      | false =>
        obtain ⟨ev, eb⟩ := STOP.out (by rw [HX.out]; exact HPD.out)
        have HEV := Lib.hid (And.intro ev eb)
        clear ev eb
        go_wp2_with fail
        refine (HD.out _).mono ?_
        rintro e w1 ⟨rfl, rfl⟩
        go_wp2
        go_ret2
        exact ⟨ret2_ub HEV.out.1.symm HEV.out.2.symm, Kp.refl _⟩
    · obtain rfl : k = (bytesOf s).size := by omega
      have HALL : Hid (∀ j (hj : j < s.length), isDg s[j] = true) := Lib.hid (fun j hj => hall.out j hj (by rw [HZ.out]; exact hj))
      clear hall
      go_wp2_with fail
      go_loop [7, 8, 9] (fun n i d => ∃ (k : Nat) (a : Nat), k ≤ (bytesOf s).size ∧ i = .int .i64 k ∧ n = .int .u64 a ∧ a ≤ 4294967295 ∧ Hid (val 10 (s.take k) = a)) (fun _ i _ => (bytesOf s).size - (intOf i).toNat)
      case atStart => exact ⟨0, 0, Nat.zero_le _, rfl, rfl, by omega, Lib.hid rfl⟩
      case round =>
        obtain ⟨k, a, hk, rfl, rfl, ha, hva⟩ := hrel
        by_cases hlt : k < (bytesOf s).size
        · have hb := byte_at s k hlt (by rw [← HZ.out]; exact hlt)
          have hkt : k < s.length := by rw [← HZ.out]; exact hlt
          have hpx := HALL.out k hkt
          rw [← hb] at hpx
          have hst := val_step 10 hkt
          rw [← hb, hva.out] at hst
          have HST := Lib.hid hst
          have HBIG : Hid (4294967295 < a * 10 + dig (bytesOf s)[k] → v = 0 ∧ b = false) := Lib.hid (fun g => HBAD.out (.inr (by
            have := rval_take 10 (by decide) s (k + 1)
            rw [HST.out] at this
            omega)))
          clear hb hst
          obtain ⟨x, hx⟩ : ∃ x, (bytesOf s)[k] = x := ⟨_, rfl⟩
          rw [hx] at hpx HST HBIG
          have HX := Lib.hid hx
          obtain ⟨pd, hpd⟩ : ∃ p, isDg x = p := ⟨_, rfl⟩
          have HD := Lib.hid (fun W => rDigit_any (bytesOf s)[k] W pd (by rw [hx]; exact hpd))
          cases pd with
          | true =>
            have hdv := dig_dg hpd
            have HDV := Lib.hid hdv.1
            have x1 := hdv.2
            rw [← hx] at x1
            clear hdv hpd hpx hx
            go_wp2_with fail
            refine (HD.out _).mono ?_
            rintro e w1 ⟨rfl, rfl⟩
            by_cases hg : (4294967296 : Int) ≤ a * 10 + ((bytesOf s)[k].toNat - 48)
            · have hgb := HBIG.out (by have := HDV.out; rw [← HX.out] at this; rw [← HX.out]; omega)
              have HGB := Lib.hid hgb
              clear hgb
              go_wp2
              go_ret2
              exact ⟨ret2_ub HGB.out.1.symm HGB.out.2.symm, Kp.refl _⟩
            · go_wp2
              go_round
              case rel => exact ⟨k + 1, a * 10 + dig x, by omega, by go_num, by congr 1; have := HDV.out; rw [← HX.out] at this ⊢; push_cast; omega, by have := HDV.out; rw [← HX.out] at this ⊢; omega, HST⟩
              case measure => simp [intOf]; omega
          | false =>
            rw [hpd] at hpx
            cases hpx
        · obtain rfl : k = (bytesOf s).size := by omega
          have hv2 := hva.out
          rw [List.take_of_length_le (by rw [HZ.out]; exact Nat.le_refl _)] at hv2
          obtain ⟨ev, eb⟩ := HOK.out (all_yes HALL.out) (by rw [hv2]; exact ha)
          rw [hv2] at ev
          have HEV := Lib.hid (And.intro ev eb)
          clear ev eb hv2
          go_wp2
          go_ret2
          exact ⟨ret2_ub (by rw [HEV.out.1]) (by first | (rw [HEV.out.2, HZ.out]; done) | simp [HEV.out.2, HZ.out]), Kp.refl _⟩
end Lx
end Go.Proofs.YtlgkcjhoaecekaaDoor
