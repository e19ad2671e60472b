/-
  WALKS: the document's own answers of layer 5: sorts of bytes, keywords, signs, Kind, Line. Own work.
-/
import Derived.Test.YtlgkcjhoaecekaaDoorLxRefF
import Derived.Test.YtlgkcjhoaecekaaDoorLxFn
import Derived.Test.YtlgkcjhoaecekaaDoorLxRd
namespace Go.Proofs.YtlgkcjhoaecekaaDoor
namespace Lx
open Go.RowKit Go
set_option linter.unusedVariables false

theorem rDigit_any : SrtC 31 isDg := by
  intro b w r hr
  rw [isDg_i] at hr
  obtain ⟨h0, h1⟩ := u8_lo b
  generalize (b.toNat : Int) = x at *
  have HR := Lib.hid hr
  clear hr
  by_cases a1 : 48 ≤ x
  all_goals
    go_enter Tryd.func31, Tryd.ntmps31
    go_wp2
    go_ret
    exact ⟨ret_bool (by rw [← HR.out]; rw [Bool.eq_iff_iff]; simp <;> omega), rfl⟩
theorem rLetter_any : SrtC 30 stW := by
  intro b w r hr
  rw [stW_i] at hr
  obtain ⟨h0, h1⟩ := u8_lo b
  generalize (b.toNat : Int) = x at *
  have HR := Lib.hid hr
  clear hr
  by_cases a1 : 97 ≤ x
  · by_cases a2 : x ≤ 122
    all_goals
      go_enter Tryd.func30, Tryd.ntmps30
      go_wp2
      go_ret
      exact ⟨ret_bool (by rw [← HR.out]; rw [Bool.eq_iff_iff]; simp <;> omega), rfl⟩
  · go_enter Tryd.func30, Tryd.ntmps30
    go_wp2
    go_ret
    exact ⟨ret_bool (by rw [← HR.out]; rw [Bool.eq_iff_iff]; simp <;> omega), rfl⟩
/-- A row of texts in memory. -/
structure Sw (w : World) (b : Nat) (l : List (List UInt8)) : Prop where
  size : b < w.heap.size
  at' : ∀ i, i < l.length → w.cell? ⟨b, i, none⟩ = some (.string (bytesOf (l.getD i [])))
theorem Sw.kp {w w' : World} {b : Nat} {l : List (List UInt8)} (h : Sw w b l) (k : Kp w w') : Sw w' b l :=
  ⟨Nat.lt_of_lt_of_le h.size k.size, fun i hi => (k.cells b i h.size).trans (h.at' i hi)⟩
set_option maxHeartbeats 2000000 in
set_option maxRecDepth 100000 in
theorem rKeys_any (w : World) : Calls Tryd.prog 32 #[] w fun e w' => ∃ b, e = .returned (.slice (some ⟨b, 0, none⟩) 21 21) ∧ Sw w' b keyL ∧ Kp w w' := by
  go_enter Tryd.func32, Tryd.ntmps32
  go_wp2
  go_ret
  refine ⟨_, rfl, ⟨by simp, fun i hi => ?_⟩, (Kp.refl w).alloc _ _⟩
  have hi' : i < 21 := hi
  have hcase : i = 0 ∨ i = 1 ∨ i = 2 ∨ i = 3 ∨ i = 4 ∨ i = 5 ∨ i = 6 ∨ i = 7 ∨ i = 8 ∨ i = 9 ∨ i = 10 ∨ i = 11 ∨ i = 12 ∨ i = 13 ∨ i = 14 ∨ i = 15 ∨ i = 16 ∨ i = 17 ∨ i = 18 ∨ i = 19 ∨ i = 20 := by omega
  rcases hcase with rfl | rfl | rfl | rfl | rfl | rfl | rfl | rfl | rfl | rfl | rfl | rfl | rfl | rfl | rfl | rfl | rfl | rfl | rfl | rfl | rfl
  all_goals (simp; rfl)
set_option maxHeartbeats 2000000 in
set_option maxRecDepth 100000 in
theorem rSigns_any (w : World) : Calls Tryd.prog 55 #[] w fun e w' => ∃ b, e = .returned (.slice (some ⟨b, 0, none⟩) 27 27) ∧ Sw w' b sgnL ∧ Kp w w' := by
  go_enter Tryd.func55, Tryd.ntmps55
  go_wp2
  go_ret
  refine ⟨_, rfl, ⟨by simp, fun i hi => ?_⟩, (Kp.refl w).alloc _ _⟩
  have hi' : i < 27 := hi
  have hcase : i = 0 ∨ i = 1 ∨ i = 2 ∨ i = 3 ∨ i = 4 ∨ i = 5 ∨ i = 6 ∨ i = 7 ∨ i = 8 ∨ i = 9 ∨ i = 10 ∨ i = 11 ∨ i = 12 ∨ i = 13 ∨ i = 14 ∨ i = 15 ∨ i = 16 ∨ i = 17 ∨ i = 18 ∨ i = 19 ∨ i = 20 ∨ i = 21 ∨ i = 22 ∨ i = 23 ∨ i = 24 ∨ i = 25 ∨ i = 26 := by omega
  rcases hcase with rfl | rfl | rfl | rfl | rfl | rfl | rfl | rfl | rfl | rfl | rfl | rfl | rfl | rfl | rfl | rfl | rfl | rfl | rfl | rfl | rfl | rfl | rfl | rfl | rfl | rfl | rfl
  all_goals (simp; rfl)

theorem take_end {s : List UInt8} {k : Nat} (h : k < s.length) : s.take (k + 1) = s.take k ++ [s[k]] := by
  rw [List.take_add_one, List.getElem?_eq_getElem h]; rfl
/-! ### Kind -/
theorem wd_stop {s : List UInt8} {k : Nat} (hk : k < s.length) (h : if k = 0 then stW s[k] = false else inW s[k] = false) : isWd s = false := by
  cases s with
  | nil => simp at hk
  | cons b r =>
    unfold isWd
    simp only
    by_cases h0 : k = 0
    · subst h0
      rw [if_pos rfl] at h
      rw [show stW b = false from h]
      rfl
    · rw [if_neg h0] at h
      have : (b :: r).all inW = false := by
        rw [← Bool.not_eq_true, List.all_eq_true]
        intro g
        have := g _ (List.getElem_mem hk)
        rw [h] at this
        cases this
      rw [this, Bool.and_false]
theorem wd_all {s : List UInt8} (hs : s ≠ []) (h : ∀ j (hj : j < s.length), (if j = 0 then stW s[j] = true else inW s[j] = true)) : isWd s = true := by
  cases s with
  | nil => exact absurd rfl hs
  | cons b r =>
    unfold isWd
    have h0 : stW b = true := by
      have := h 0 (by simp)
      rwa [if_pos rfl] at this
    simp only [h0, Bool.true_and]
    rw [List.all_eq_true]
    intro x hx
    obtain ⟨j, hj, rfl⟩ := List.getElem_of_mem hx
    have := h j hj
    split at this
    · unfold inW; rw [this]; rfl
    · exact this
theorem beq_list (a b : List UInt8) : ((bytesOf a).toList == (bytesOf b).toList) = decide (a = b) := by
  rw [bytesOf_toList, bytesOf_toList, Bool.eq_iff_iff]
  simp
theorem kind_at {s : List UInt8} {k : Nat} (hk : k < keyL.length) (h : keyL.getD k [] = s) : kindW s = 2 := by
  unfold kindW
  rw [if_pos]
  rw [List.contains_iff_mem, ← h]
  rw [List.getD_eq_getElem?_getD, List.getElem?_eq_getElem hk]
  exact List.getElem_mem hk
theorem kind_no {s : List UInt8} (h : ∀ k, k < keyL.length → keyL.getD k [] ≠ s) : kindW s = 1 := by
  unfold kindW
  rw [if_neg]
  rw [Bool.not_eq_true, ← Bool.not_eq_true, List.contains_iff_mem]
  intro hm
  obtain ⟨j, hj, e⟩ := List.getElem_of_mem hm
  refine h j hj ?_
  rw [List.getD_eq_getElem?_getD, List.getElem?_eq_getElem hj]
  exact e
set_option maxHeartbeats 4000000 in
set_option maxRecDepth 100000 in
theorem rKind_any (s : List UInt8) (hl : s.length ≤ 65536) (w : World) (q : Int) (hq : kindA s = q) :
    Calls Tryd.prog 16 #[.string (bytesOf s)] w fun e w' => e = .returned (.int .i64 q) ∧ Kp w w' := by
  have hsz : (bytesOf s).size = s.length := bytesOf_size s
  have HZ := Lib.hid hsz
  have hm : ((bytesOf s).size : Int) ≤ 65536 := by rw [hsz]; omega
  have HQ := Lib.hid hq
  clear hsz hq hl
  go_enter Tryd.func16, Tryd.ntmps16
  go_wp2_with fail
  go_loop [3] (fun i => ∃ k : Nat, k ≤ (bytesOf s).size ∧ i = .int .i64 k ∧ Hid (∀ j (hj : j < s.length), j < k → (if j = 0 then stW s[j] = true else inW s[j] = true))) (fun i => (bytesOf s).size - (intOf i).toNat)
  case atStart => exact ⟨0, Nat.zero_le _, rfl, Lib.hid (fun j hj h => absurd h (Nat.not_lt_zero _))⟩
  case round =>
    obtain ⟨k, hk, rfl, hall⟩ := hrel
    by_cases hlt : k < (bytesOf s).size
    · obtain ⟨x, hx⟩ : ∃ x, (bytesOf s)[k] = x := ⟨_, rfl⟩
      have hsx : s[k]'(by rw [← HZ.out]; exact hlt) = x := (byte_at s k hlt (by rw [← HZ.out]; exact hlt)).symm.trans hx
      obtain ⟨p1, hp1⟩ : ∃ p, stW x = p := ⟨_, rfl⟩
      obtain ⟨p2, hp2⟩ : ∃ p, isDg x = p := ⟨_, rfl⟩
      have HC1 := Lib.hid (fun W => rLetter_any (bytesOf s)[k] W p1 (by rw [hx]; exact hp1))
      have HC2 := Lib.hid (fun W => rDigit_any (bytesOf s)[k] W p2 (by rw [hx]; exact hp2))
      have HST : Hid (p1 = false → (k = 0 ∨ p2 = false) → kindA s = 0) := Lib.hid (fun a b => by
        unfold kindA
        rw [wd_stop (k := k) (by rw [← HZ.out]; exact hlt) ?_]
        · rfl
        · rw [hsx]
          split
          · rw [hp1, a]
          · unfold inW; rw [hp1, hp2, a, b.resolve_left (by assumption)]; rfl)
      have HGO : Hid ((p1 = true ∨ (k ≠ 0 ∧ p2 = true)) → ∀ j (hj : j < s.length), j < k + 1 → (if j = 0 then stW s[j] = true else inW s[j] = true)) := Lib.hid (fun a j hj h => by
        by_cases e : j = k
        · subst e
          rw [hsx]
          split
          · rcases a with a | a
            · rw [hp1, a]
            · exact absurd (by assumption) a.1
          · unfold inW; rw [hp1, hp2]; rcases a with a | a <;> simp [a]
        · exact hall.out j hj (by omega))
      clear hx hsx hp1 hp2
      cases p1 with
      | true =>
        go_wp2_with fail
        refine (HC1.out _).mono ?_
        rintro e w1 ⟨rfl, rfl⟩
        go_wp2
        go_round
        case rel => exact ⟨k + 1, by omega, by go_num, Lib.hid (HGO.out (by simp))⟩
        case measure => simp [intOf]; omega
      | false =>
        by_cases hk0 : k = 0
        · subst hk0
          rw [show ((0 : Nat) : Int) = 0 from rfl]
          go_wp2_with fail
          refine (HC1.out _).mono ?_
          rintro e w1 ⟨rfl, rfl⟩
          go_wp2
          go_ret
          exact ⟨ret_int (by rw [← HQ.out, HST.out (by simp) (by simp)]), Kp.refl _⟩
        · have hk1 : ((k : Int) == 0) = false := by simp; omega
          cases p2 with
          | true =>
            go_wp2_with fail
            refine (HC1.out _).mono ?_
            rintro e w1 ⟨rfl, rfl⟩
            go_wp2_with fail
            refine (HC2.out _).mono ?_
            rintro e w1 ⟨rfl, rfl⟩
            go_wp2
            go_round
            case rel => exact ⟨k + 1, by omega, by go_num, Lib.hid (HGO.out (by simp [hk0]))⟩
            case measure => simp [intOf]; omega
          | false =>
            go_wp2_with fail
            refine (HC1.out _).mono ?_
            rintro e w1 ⟨rfl, rfl⟩
            go_wp2_with fail
            refine (HC2.out _).mono ?_
            rintro e w1 ⟨rfl, rfl⟩
            go_wp2
            go_ret
            exact ⟨ret_int (by rw [← HQ.out, HST.out (by simp) (by simp)]), Kp.refl _⟩
    · obtain rfl : k = (bytesOf s).size := by omega
      by_cases h0 : s = []
      · subst h0
        have be : (bytesOf []).toList.isEmpty = true := by rw [bytesOf_toList]; rfl
        go_wp2
        go_ret
        exact ⟨ret_int (by rw [← HQ.out]; rfl), Kp.refl _⟩
      · have be : (bytesOf s).toList.isEmpty = false := by
          rw [bytesOf_toList]
          cases s with
          | nil => exact absurd rfl h0
          | cons _ _ => rfl
        have hk : kindW s = q := by
          rw [← HQ.out]
          unfold kindA
          rw [wd_all h0 (fun j hj => hall.out j hj (by rw [HZ.out]; exact hj))]
          rfl
        have HK := Lib.hid hk
        clear hk hall h0
        go_wp2_with fail
        refine (rKeys_any _).mono ?_
        rintro e w1 ⟨b, rfl, S1, k1⟩
        have HS1 := Lib.hid S1
        have zb := S1.size
        clear S1
        go_wp2_with fail
        go_loop [5] (fun i => ∃ n : Nat, n ≤ 21 ∧ i = .int .i64 n ∧ Hid (∀ j, j < n → keyL.getD j [] ≠ s)) (fun i => 21 - (intOf i).toNat)
        case atStart => exact ⟨0, Nat.zero_le _, rfl, Lib.hid (fun j h => absurd h (Nat.not_lt_zero _))⟩
        case round =>
          obtain ⟨n, hn, rfl, hno⟩ := hrel
          by_cases hn1 : n < 21
          · have cx := HS1.out.at' n hn1
            have hn2 : (n : Int) < 21 := by omega
            have HKL := Lib.hid (kind_at (s := s) (k := n) hn1)
            obtain ⟨x, hx⟩ : ∃ x, keyL.getD n [] = x := ⟨_, rfl⟩
            rw [hx] at cx HKL
            have HX := Lib.hid hx
            have hbe := beq_list x s
            clear hx
            by_cases hxs : x = s
            · have hb2 : ((bytesOf x).toList == (bytesOf s).toList) = true := by rw [hbe]; simp [hxs]
              have HXS := Lib.hid hxs
              clear hbe hxs
              go_wp2
              go_ret
              exact ⟨ret_int (by rw [← HK.out, HKL.out HXS.out]), k1⟩
            · have hb2 : ((bytesOf x).toList == (bytesOf s).toList) = false := by rw [hbe]; simp [hxs]
              have HXS := Lib.hid hxs
              clear hbe hxs
              go_wp2
              go_round
              case rel => exact ⟨n + 1, by omega, by go_num, Lib.hid (fun j h => by
                by_cases e : j = n
                · subst e; rw [HX.out]; exact HXS.out
                · exact hno.out j (by omega))⟩
              case measure => simp [intOf]; omega
          · obtain rfl : n = 21 := by omega
            go_wp2
            go_ret
            exact ⟨ret_int (by rw [← HK.out, kind_no hno.out]), k1⟩
end Lx
end Go.Proofs.YtlgkcjhoaecekaaDoor
