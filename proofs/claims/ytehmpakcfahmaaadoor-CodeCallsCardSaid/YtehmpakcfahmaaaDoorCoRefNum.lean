/-
  WALKS: the document's own answers of layer 3: the number that a piece stands for. Own work.
-/
import Derived.Test.YtehmpakcfahmaaaDoorCoRefWord
import Derived.Test.YtehmpakcfahmaaaDoorCoFind
import Derived.Test.YtehmpakcfahmaaaDoorCoParse
namespace Go.Proofs.YtehmpakcfahmaaaDoor
namespace Co
open Go.RowKit Go
set_option linter.unusedVariables false

/-- Decimal digits, read from the left; -1: another byte. -/
def digF : List UInt8 → Int → Int
  | [], acc => acc
  | c :: r, acc => if c.toNat < 48 ∨ 57 < c.toNat then -1 else digF r (10 * acc + c.toNat - 48)
def numD (t : List UInt8) : Int := if t = [] ∨ 12 < t.length ∨ (1 < t.length ∧ t.getD 0 0 = 48) then -1 else digF t 0
/-- The number that a piece stands for, by the reference's kinds. -/
def numR (k : Int) (t : List UInt8) : Int := if k = 5 then fndFrom signL t 19 1 else if k = 6 then fndFrom nameL t 19 1 else numD t

theorem dig_snoc (d : UInt8) : ∀ (l : List UInt8) (acc : Int), (∀ b ∈ l, ¬ (b.toNat < 48 ∨ 57 < b.toNat)) → digF (l ++ [d]) acc = digF [d] (digF l acc)
  | [], acc, _ => rfl
  | c :: r, acc, h => by
    have hc := h c List.mem_cons_self
    rw [List.cons_append]
    show (if _ then _ else _) = digF [d] (if _ then _ else _)
    rw [if_neg hc, if_neg hc]
    exact dig_snoc d r _ (fun b hb => h b (List.mem_cons_of_mem _ hb))
theorem dec_digits : ∀ (u : Nat), ∀ b ∈ Lib.decDigits u, ¬ (b.toNat < 48 ∨ 57 < b.toNat) := by
  intro u
  induction u using Nat.strongRecOn with
  | _ u ih =>
    intro b hb
    rw [Lib.decDigits] at hb
    split at hb
    · simp at hb; subst hb; simp; omega
    · rw [List.mem_append] at hb
      rcases hb with hb | hb
      · exact ih _ (by omega) b hb
      · simp at hb; subst hb; simp; omega
theorem dig_dec : ∀ (u : Nat), digF (Lib.decDigits u) 0 = u := by
  intro u
  induction u using Nat.strongRecOn with
  | _ u ih =>
    rw [Lib.decDigits]
    split
    · rename_i h
      have e : (UInt8.ofNat (48 + u)).toNat = 48 + u := by simp; omega
      show (if _ then _ else _) = _
      rw [e, if_neg (by omega)]
      show 10 * (0 : Int) + _ - 48 = _
      omega
    · rename_i h
      have e : (UInt8.ofNat (48 + u % 10)).toNat = 48 + u % 10 := by simp; omega
      rw [dig_snoc _ _ _ (dec_digits _), ih (u / 10) (by omega)]
      show (if _ then _ else _) = _
      rw [e, if_neg (by omega)]
      show 10 * _ + _ - 48 = _
      omega
theorem dec_head : ∀ (u : Nat), 1 ≤ u → (Lib.decDigits u).getD 0 0 ≠ 48 := by
  intro u
  induction u using Nat.strongRecOn with
  | _ u ih =>
    intro hu
    rw [Lib.decDigits]
    split
    · rename_i h
      intro e
      have := congrArg UInt8.toNat e
      simp at this
      omega
    · rename_i h
      have hne := dec_ne (u / 10)
      have := ih (u / 10) (by omega) (by omega)
      rw [List.getD_eq_getElem?_getD, List.getElem?_append_left (by cases hd : Lib.decDigits (u / 10) with | nil => exact absurd hd hne | cons _ _ => simp), ← List.getD_eq_getElem?_getD]
      exact this
theorem dec_one {u : Nat} (h : 1 < (Lib.decDigits u).length) : 1 ≤ u := by
  by_cases hu : u = 0
  · subst hu; rw [Lib.decDigits_one (by decide)] at h; simp at h
  · omega
theorem numD_itoa {n : Int} (h0 : 0 ≤ n) (h1 : n ≤ 4294967295) : numD (Lib.itoa n) = n := by
  have e : Lib.itoa n = Lib.decDigits n.toNat := by unfold Lib.itoa; rw [if_neg (by omega)]
  have hl := itoa_len (n := n) (m := 9) h0 (by omega)
  unfold numD
  rw [if_neg]
  · rw [e, dig_dec]; omega
  · rintro (h | h | ⟨h, h'⟩)
    · rw [e] at h; exact dec_ne _ h
    · omega
    · rw [e] at h h'
      exact dec_head _ (dec_one h) h'
theorem num_sign : ∀ n : Fin 20, 1 ≤ n.val → fndFrom signL (signL n.val) 19 1 = n.val := by decide +kernel
theorem num_name : ∀ n : Fin 4, 1 ≤ n.val → fndFrom nameL (nameL n.val) 19 1 = n.val := by decide +kernel

theorem numR_bd (k : Int) (t : List UInt8) : -1 ≤ fndFrom signL t 19 1 ∧ fndFrom signL t 19 1 ≤ 20 ∧ -1 ≤ fndFrom nameL t 19 1 ∧ fndFrom nameL t 19 1 ≤ 20 := by
  have a := fndFrom_bd signL t 19 1 (by omega)
  have b := fndFrom_bd nameL t 19 1 (by omega)
  omega

set_option maxHeartbeats 2000000 in
set_option maxRecDepth 100000 in
theorem number_sign (t : List UInt8) (w : World) :
    Calls Tryd.prog 30 #[.int .i64 5, .string (bytesOf t)] w fun e w' => e = .returned (.int .i64 (fndFrom signL t 19 1)) ∧ Kp w w' := by
  go_enter Tryd.func30, Tryd.ntmps30
  go_wp2
  go_loopw [5] (fun i wr => ∃ (n : Int) (m : Nat), i = .int .i64 n ∧ 1 ≤ n ∧ n + m = 20 ∧ fndFrom signL t 19 1 = fndFrom signL t m n ∧ Kp w wr) (fun i _ => (20 - intOf i).toNat)
  case atStart => exact ⟨1, 19, rfl, by omega, by omega, rfl, Kp.refl _⟩
  case round =>
    obtain ⟨n, m, rfl, h1, hm, hf, kr⟩ := hrel
    have HF := Lib.hid hf
    clear hf
    by_cases hlt : n < 20
    · obtain ⟨m', rfl⟩ : ∃ m', m = m' + 1 := ⟨m - 1, by omega⟩
      have hb := beq_bytes (signL n) t
      by_cases hc : signL n = t
      · have b : ((bytesOf (signL n)).toList == (bytesOf t).toList) = true := by rw [hb]; simp [hc]
        have HC := Lib.hid hc
        clear hb hc
        go_wp2_with (go_at_call 34; refine (rSign_any _ _).mono ?_; rintro e w1 ⟨rfl, k1⟩; have kr := kr.trans k1)
        go_ret
        exact ⟨ret_int (by rw [HF.out, fndFrom_stop _ HC.out]), kr⟩
      · have b : ((bytesOf (signL n)).toList == (bytesOf t).toList) = false := by rw [hb]; simp [hc]
        have HC := Lib.hid hc
        clear hb hc
        go_wp2_with (go_at_call 34; refine (rSign_any _ _).mono ?_; rintro e w1 ⟨rfl, k1⟩; have kr := kr.trans k1)
        go_roundw
        case rel => exact ⟨n + 1, m', by go_num, by omega, by omega, by rw [HF.out, fndFrom_next _ HC.out], kr⟩
        case measure => simp [intOf]; omega
    · obtain rfl : n = 20 := by omega
      obtain rfl : m = 0 := by omega
      cases hbe : (bytesOf t).toList.isEmpty
      all_goals
        go_wp2
        go_ret
        exact ⟨ret_int (by rw [HF.out]; rfl), kr⟩

set_option maxHeartbeats 2000000 in
set_option maxRecDepth 100000 in
theorem number_name (t : List UInt8) (w : World) :
    Calls Tryd.prog 30 #[.int .i64 6, .string (bytesOf t)] w fun e w' => e = .returned (.int .i64 (fndFrom nameL t 19 1)) ∧ Kp w w' := by
  go_enter Tryd.func30, Tryd.ntmps30
  go_wp2
  go_loopw [5] (fun i wr => ∃ (n : Int) (m : Nat), i = .int .i64 n ∧ 1 ≤ n ∧ n + m = 20 ∧ fndFrom nameL t 19 1 = fndFrom nameL t m n ∧ Kp w wr) (fun i _ => (20 - intOf i).toNat)
  case atStart => exact ⟨1, 19, rfl, by omega, by omega, rfl, Kp.refl _⟩
  case round =>
    obtain ⟨n, m, rfl, h1, hm, hf, kr⟩ := hrel
    have HF := Lib.hid hf
    clear hf
    by_cases hlt : n < 20
    · obtain ⟨m', rfl⟩ : ∃ m', m = m' + 1 := ⟨m - 1, by omega⟩
      have hb := beq_bytes (nameL n) t
      by_cases hc : nameL n = t
      · have b : ((bytesOf (nameL n)).toList == (bytesOf t).toList) = true := by rw [hb]; simp [hc]
        have HC := Lib.hid hc
        clear hb hc
        go_wp2_with (go_at_call 35; refine (rName_any _ _).mono ?_; rintro e w1 ⟨rfl, k1⟩; have kr := kr.trans k1)
        go_ret
        exact ⟨ret_int (by rw [HF.out, fndFrom_stop _ HC.out]), kr⟩
      · have b : ((bytesOf (nameL n)).toList == (bytesOf t).toList) = false := by rw [hb]; simp [hc]
        have HC := Lib.hid hc
        clear hb hc
        go_wp2_with (go_at_call 35; refine (rName_any _ _).mono ?_; rintro e w1 ⟨rfl, k1⟩; have kr := kr.trans k1)
        go_roundw
        case rel => exact ⟨n + 1, m', by go_num, by omega, by omega, by rw [HF.out, fndFrom_next _ HC.out], kr⟩
        case measure => simp [intOf]; omega
    · obtain rfl : n = 20 := by omega
      obtain rfl : m = 0 := by omega
      cases hbe : (bytesOf t).toList.isEmpty
      all_goals
        go_wp2
        go_ret
        exact ⟨ret_int (by rw [HF.out]; rfl), kr⟩

theorem dig_neg_stop {c : UInt8} {r : List UInt8} {acc : Int} (h : c.toNat < 48 ∨ 57 < c.toNat) : digF (c :: r) acc = -1 := by
  show (if _ then _ else _) = _
  rw [if_pos h]
theorem dig_next {c : UInt8} {r : List UInt8} {acc : Int} (h : ¬ (c.toNat < 48 ∨ 57 < c.toNat)) : digF (c :: r) acc = digF r (10 * acc + c.toNat - 48) := by
  show (if _ then _ else _) = _
  rw [if_neg h]
theorem drop_get (s : ByteArray) (k : Nat) (h : k < s.size) : s.data.toList.drop k = s[k] :: s.data.toList.drop (k + 1) := by
  rw [List.drop_eq_getElem_cons (by simpa using h)]; rfl

set_option maxHeartbeats 2000000 in
set_option maxRecDepth 100000 in
/-- The digits' loop and what stands before it, for a kind that is neither operator. -/
theorem number_num (k : Int) (t : List UInt8) (w : World) (h5 : (k == 5) = false) (h6 : (k == 6) = false) (ht : t.length ≤ 1000) :
    Calls Tryd.prog 30 #[.int .i64 k, .string (bytesOf t)] w fun e w' => e = .returned (.int .i64 (numD t)) ∧ Kp w w' := by
  have hsz : (bytesOf t).size = t.length := bytesOf_size t
  have HSZ := Lib.hid hsz
  have hs1 : (bytesOf t).size ≤ 1000 := by omega
  clear hsz
  go_enter Tryd.func30, Tryd.ntmps30
  go_wp2
  go_loop [5] (fun i => ∃ n : Int, i = .int .i64 n ∧ 1 ≤ n ∧ n ≤ 20) (fun i => (20 - intOf i).toNat)
  case atStart => exact ⟨1, rfl, by omega, by omega⟩
  case round =>
    obtain ⟨n, rfl, h1, h2⟩ := hrel
    by_cases hlt : n < 20
    · go_wp2
      go_round
      case rel => exact ⟨n + 1, by go_num, by omega, by omega⟩
      case measure => simp [intOf]; omega
    · obtain rfl : n = 20 := by omega
      by_cases h0 : t = []
      · subst h0
        have be : (bytesOf []).toList.isEmpty = true := isEmpty_yes rfl
        go_wp2
        go_ret
        exact ⟨rfl, Kp.refl _⟩
      have be := isEmpty_no h0
      by_cases h12 : 12 < t.length
      · have hz : (12 : Int) < ((bytesOf t).size : Int) := by rw [HSZ.out]; omega
        have e : numD t = -1 := by unfold numD; rw [if_pos (.inr (.inl h12))]
        have E := Lib.hid e
        clear e h0 h12
        go_wp2
        go_ret
        exact ⟨ret_int (by rw [E.out]), Kp.refl _⟩
      have hz : ((bytesOf t).size : Int) ≤ 12 := by rw [HSZ.out]; omega
      have hpos : 0 < (bytesOf t).size := by
        rw [HSZ.out]
        cases t with
        | nil => exact absurd rfl h0
        | cons _ _ => simp
      have hg0 : t.getD 0 0 = (bytesOf t)[0] := by
        have : t[0]? = some ((bytesOf t)[0]) := by
          rw [List.getElem?_eq_getElem (by rw [← HSZ.out]; exact hpos)]; rfl
        rw [List.getD_eq_getElem?_getD, this]; rfl
      by_cases hlead : 1 < t.length ∧ t.getD 0 0 = 48
      · have hz1 : (1 : Int) < ((bytesOf t).size : Int) := by rw [HSZ.out]; omega
        have hb0 : (((bytesOf t)[0].toNat : Int) == 48) = true := by rw [← hg0, hlead.2]; decide
        have e : numD t = -1 := by unfold numD; rw [if_pos (.inr (.inr hlead))]
        have E := Lib.hid e
        clear e h0 h12 hlead hg0
        go_wp2
        go_ret
        exact ⟨ret_int (by rw [E.out]), Kp.refl _⟩
      have e : numD t = digF t 0 := by
        unfold numD
        rw [if_neg]
        rintro (h | h | h)
        · exact h0 h
        · exact h12 h
        · exact hlead h
      have E := Lib.hid e
      clear e
      by_cases hone : t.length ≤ 1
      · have hz1 : ((bytesOf t).size : Int) ≤ 1 := by rw [HSZ.out]; omega
        clear hlead hg0 h0 h12 hone
        go_wp2
        go_loop [6, 7] (fun acc i => ∃ (j a : Nat), j ≤ (bytesOf t).size ∧ i = .int .i64 j ∧ acc = .int .i64 a ∧ a < 10 ^ j ∧ digF t 0 = digF (t.drop j) a) (fun _ i => (bytesOf t).size - (intOf i).toNat)
        case atStart => exact ⟨0, 0, by omega, rfl, rfl, by decide, rfl⟩
        case round =>
          obtain ⟨j, a, hj, rfl, rfl, ha, hd⟩ := hrel
          by_cases hlt : j < (bytesOf t).size
          · have hp : (10 : Nat) ^ j ≤ 10 ^ 11 := Nat.pow_le_pow_right (by decide) (by omega)
            have hp2 : (10 : Nat) ^ 11 = 100000000000 := by decide
            have hps : (10 : Nat) ^ (j + 1) = 10 * 10 ^ j := by rw [Nat.pow_succ, Nat.mul_comm]
            have ha2 : a < 100000000000 := by omega
            have hdr : t.drop j = (bytesOf t)[j] :: t.drop (j + 1) := drop_get (bytesOf t) j hlt
            rw [hdr] at hd
            have HPS := Lib.hid hps
            have HA := Lib.hid ha
            clear hdr hp hp2 hps ha
            have hc255 := (bytesOf t)[j].toNat_lt
            by_cases hlo : (bytesOf t)[j].toNat < 48
            · have hd2 := hd.trans (dig_neg_stop (.inl hlo))
              have HD := Lib.hid hd2
              have hlz : ((bytesOf t)[j].toNat : Int) < 48 := by omega
              clear hd hd2 hlo
              go_wp2
              go_ret
              exact ⟨ret_int (by rw [E.out, HD.out]), Kp.refl _⟩
            · by_cases hhi : 57 < (bytesOf t)[j].toNat
              · have hd2 := hd.trans (dig_neg_stop (.inr hhi))
                have HD := Lib.hid hd2
                have hlz : (48 : Int) ≤ ((bytesOf t)[j].toNat : Int) := by omega
                have hhz : (57 : Int) < ((bytesOf t)[j].toNat : Int) := by omega
                clear hd hd2 hlo hhi
                go_wp2
                go_ret
                exact ⟨ret_int (by rw [E.out, HD.out]), Kp.refl _⟩
              · have hd2 := hd.trans (dig_next (by omega))
                have HD := Lib.hid hd2
                have hlz : (48 : Int) ≤ ((bytesOf t)[j].toNat : Int) := by omega
                have hhz : ((bytesOf t)[j].toNat : Int) ≤ 57 := by omega
                clear hd hd2 hlo hhi
                generalize hcc : (bytesOf t)[j].toNat = cc at *
                go_wp2
                go_round
                case rel => exact ⟨j + 1, 10 * a + cc - 48, by omega, by go_num, by go_num, by have := HPS.out; have := HA.out; omega, by rw [HD.out]; congr 1; omega⟩
                case measure => simp [intOf]; omega
          · have hnil : t.drop j = [] := List.drop_eq_nil_of_le (by rw [← HSZ.out]; omega)
            rw [hnil] at hd
            have HD := Lib.hid hd
            have hjd : decide ((j : Int) < ((bytesOf t).size : Int)) = false := by simp; omega
            clear hnil hd
            go_wp2
            go_ret
            exact ⟨ret_int (by rw [E.out, HD.out]; rfl), Kp.refl _⟩
      · have hz1 : (1 : Int) < ((bytesOf t).size : Int) := by rw [HSZ.out]; omega
        have hb0 : (((bytesOf t)[0].toNat : Int) == 48) = false := by
          have h1 : (bytesOf t)[0].toNat ≠ 48 := fun h => hlead ⟨by omega, by rw [hg0]; exact UInt8.toNat_inj.1 h⟩
          simp only [beq_eq_false_iff_ne, ne_eq]; omega
        clear hlead hg0 h0 h12 hone
        go_wp2
        go_loop [6, 7] (fun acc i => ∃ (j a : Nat), j ≤ (bytesOf t).size ∧ i = .int .i64 j ∧ acc = .int .i64 a ∧ a < 10 ^ j ∧ digF t 0 = digF (t.drop j) a) (fun _ i => (bytesOf t).size - (intOf i).toNat)
        case atStart => exact ⟨0, 0, by omega, rfl, rfl, by decide, rfl⟩
        case round =>
          obtain ⟨j, a, hj, rfl, rfl, ha, hd⟩ := hrel
          by_cases hlt : j < (bytesOf t).size
          · have hp : (10 : Nat) ^ j ≤ 10 ^ 11 := Nat.pow_le_pow_right (by decide) (by omega)
            have hp2 : (10 : Nat) ^ 11 = 100000000000 := by decide
            have hps : (10 : Nat) ^ (j + 1) = 10 * 10 ^ j := by rw [Nat.pow_succ, Nat.mul_comm]
            have ha2 : a < 100000000000 := by omega
            have hdr : t.drop j = (bytesOf t)[j] :: t.drop (j + 1) := drop_get (bytesOf t) j hlt
            rw [hdr] at hd
            have HPS := Lib.hid hps
            have HA := Lib.hid ha
            clear hdr hp hp2 hps ha
            have hc255 := (bytesOf t)[j].toNat_lt
            by_cases hlo : (bytesOf t)[j].toNat < 48
            · have hd2 := hd.trans (dig_neg_stop (.inl hlo))
              have HD := Lib.hid hd2
              have hlz : ((bytesOf t)[j].toNat : Int) < 48 := by omega
              clear hd hd2 hlo
              go_wp2
              go_ret
              exact ⟨ret_int (by rw [E.out, HD.out]), Kp.refl _⟩
            · by_cases hhi : 57 < (bytesOf t)[j].toNat
              · have hd2 := hd.trans (dig_neg_stop (.inr hhi))
                have HD := Lib.hid hd2
                have hlz : (48 : Int) ≤ ((bytesOf t)[j].toNat : Int) := by omega
                have hhz : (57 : Int) < ((bytesOf t)[j].toNat : Int) := by omega
                clear hd hd2 hlo hhi
                go_wp2
                go_ret
                exact ⟨ret_int (by rw [E.out, HD.out]), Kp.refl _⟩
              · have hd2 := hd.trans (dig_next (by omega))
                have HD := Lib.hid hd2
                have hlz : (48 : Int) ≤ ((bytesOf t)[j].toNat : Int) := by omega
                have hhz : ((bytesOf t)[j].toNat : Int) ≤ 57 := by omega
                clear hd hd2 hlo hhi
                generalize hcc : (bytesOf t)[j].toNat = cc at *
                go_wp2
                go_round
                case rel => exact ⟨j + 1, 10 * a + cc - 48, by omega, by go_num, by go_num, by have := HPS.out; have := HA.out; omega, by rw [HD.out]; congr 1; omega⟩
                case measure => simp [intOf]; omega
          · have hnil : t.drop j = [] := List.drop_eq_nil_of_le (by rw [← HSZ.out]; omega)
            rw [hnil] at hd
            have HD := Lib.hid hd
            have hjd : decide ((j : Int) < ((bytesOf t).size : Int)) = false := by simp; omega
            clear hnil hd
            go_wp2
            go_ret
            exact ⟨ret_int (by rw [E.out, HD.out]; rfl), Kp.refl _⟩
theorem number_any (k : Int) (t : List UInt8) (w : World) (ht : t.length ≤ 1000) :
    Calls Tryd.prog 30 #[.int .i64 k, .string (bytesOf t)] w fun e w' => e = .returned (.int .i64 (numR k t)) ∧ Kp w w' := by
  unfold numR
  by_cases h5 : k = 5
  · subst h5; rw [if_pos rfl]; exact number_sign t w
  by_cases h6 : k = 6
  · subst h6; rw [if_neg (by decide), if_pos rfl]; exact number_name t w
  rw [if_neg h5, if_neg h6]
  exact number_num k t w (by simpa using h5) (by simpa using h6) ht
theorem digF_bd : ∀ (l : List UInt8) (acc : Int), 0 ≤ acc → -1 ≤ digF l acc ∧ digF l acc < (acc + 1) * 10 ^ l.length
  | [], acc, h => by simp [digF]; omega
  | c :: r, acc, h => by
    have hp : (0 : Int) < 10 ^ r.length := Int.pow_pos (by decide)
    have hp1 : (0 : Int) < 10 ^ (c :: r).length := Int.pow_pos (by decide)
    show -1 ≤ (if _ then _ else _) ∧ (if _ then _ else _) < _
    split
    · exact ⟨by omega, by have := Int.mul_pos (show 0 < acc + 1 by omega) hp1; omega⟩
    · rename_i hc
      have ih := digF_bd r (10 * acc + c.toNat - 48) (by omega)
      refine ⟨ih.1, Int.lt_of_lt_of_le ih.2 ?_⟩
      have e : (10 : Int) ^ (c :: r).length = 10 * 10 ^ r.length := by rw [List.length_cons, Int.pow_succ, Int.mul_comm]
      rw [e, ← Int.mul_assoc]
      exact Int.mul_le_mul_of_nonneg_right (by omega) (by omega)
theorem numD_bd (t : List UInt8) : -1 ≤ numD t ∧ numD t ≤ 1000000000000 := by
  unfold numD
  split
  · omega
  · rename_i h
    have b := digF_bd t 0 (by omega)
    have hl : t.length ≤ 12 := by
      by_cases h12 : 12 < t.length
      · exact absurd (.inr (.inl h12)) h
      · omega
    have hp : (10 : Nat) ^ t.length ≤ 10 ^ 12 := Nat.pow_le_pow_right (by decide) hl
    have hp2 : (10 : Nat) ^ 12 = 1000000000000 := by decide
    have e : (10 : Int) ^ t.length = ((10 ^ t.length : Nat) : Int) := by simp
    rw [e] at b
    omega
theorem numR_bds (k : Int) (t : List UInt8) : -1 ≤ numR k t ∧ numR k t ≤ 1000000000000 := by
  have a := numR_bd k t
  have b := numD_bd t
  unfold numR
  split
  · omega
  · split <;> omega
end Co
end Go.Proofs.YtehmpakcfahmaaaDoor
