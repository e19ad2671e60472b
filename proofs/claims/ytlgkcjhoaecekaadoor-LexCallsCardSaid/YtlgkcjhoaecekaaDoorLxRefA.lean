/-
  WALKS: the document's own answers of layer 5: Join, and all tokens. Own work.
-/
import Derived.Test.YtlgkcjhoaecekaaDoorLxRefT
import Derived.Test.YtlgkcjhoaecekaaDoorLxPartsW
namespace Go.Proofs.YtlgkcjhoaecekaaDoor
namespace Lx
open Go.RowKit Go
set_option linter.unusedVariables false

theorem joinL_snoc : ∀ (xs : List (List UInt8)) (x : List UInt8), joinL (xs ++ [x]) = if xs = [] then x else joinL xs ++ 32 :: x
  | [], x => rfl
  | [a], x => by simp [joinL]
  | a :: b :: r, x => by
    have := joinL_snoc (b :: r) x
    rw [if_neg (by simp)] at this
    rw [if_neg (by simp)]
    show a ++ 32 :: joinL ((b :: r) ++ [x]) = (a ++ 32 :: joinL (b :: r)) ++ 32 :: x
    rw [this]
    simp
theorem joinL_le : ∀ (xs ys : List (List UInt8)), (joinL xs).length ≤ (joinL (xs ++ ys)).length
  | [], ys => by simp [joinL]
  | [a], [] => by simp
  | [a], y :: ys => by simp [joinL]
  | a :: b :: r, ys => by
    have := joinL_le (b :: r) ys
    show (a ++ 32 :: joinL (b :: r)).length ≤ (a ++ 32 :: joinL ((b :: r) ++ ys)).length
    simp only [List.length_append, List.length_cons] at this ⊢
    omega
set_option maxHeartbeats 4000000 in
set_option maxRecDepth 100000 in
theorem rJoin_any {w : World} {ao : Option Addr} {cap : Nat} {l : List Tk} (h : TIn w ao l) (hl : l.length ≤ 65536) (s : List UInt8) (hs : joinL (l.map (·.t)) = s) (hsl : s.length ≤ 60000) :
    Calls Tryd.prog 17 #[.slice ao l.length cap] w fun e w' => e = .returned (.string (bytesOf s)) ∧ Kp w w' := by
  have HH := Lib.hid h
  have HJ : Hid (∀ k, (joinL ((l.map (·.t)).take k)).length ≤ 60000) := Lib.hid (fun k => by
    have := joinL_le ((l.map (·.t)).take k) ((l.map (·.t)).drop k)
    rw [List.take_append_drop, hs] at this
    omega)
  have HTK : Hid (∀ k (hk : k < l.length), joinL ((l.map (·.t)).take (k + 1)) = if k = 0 then (l.getD k t0).t else joinL ((l.map (·.t)).take k) ++ 32 :: (l.getD k t0).t) := Lib.hid (fun k hk => by
    rw [List.take_add_one, List.getElem?_map, getD_some (d := t0) hk]
    show joinL ((l.map (·.t)).take k ++ [(l.getD k t0).t]) = _
    rw [joinL_snoc]
    have : (l.map (·.t)).take k = [] ↔ k = 0 := by
      constructor
      · intro e
        have := congrArg List.length e
        rw [List.length_take, List.length_map, List.length_nil] at this
        omega
      · intro e; subst e; rfl
    simp only [this])
  have HS : Hid (joinL ((l.map (·.t)).take l.length) = s) := Lib.hid (by rw [List.take_of_length_le (by simp)]; exact hs)
  obtain ⟨n, hn⟩ : ∃ n, l.length = n := ⟨_, rfl⟩
  have HN := Lib.hid hn
  rw [hn] at hl HS HTK ⊢
  have hl2 : (n : Int) ≤ 65536 := by omega
  clear h hn hs hsl
  go_enter Tryd.func17, Tryd.ntmps17
  go_wp2_with fail
  go_loopw [3, 4] (fun v i wr => ∃ (k : Nat) (a : List UInt8), k ≤ n ∧ i = .int .i64 k ∧ v = .string (bytesOf a) ∧ Hid (joinL ((l.map (·.t)).take k) = a) ∧ Kp w wr) (fun _ i _ => n - (intOf i).toNat)
  case atStart => exact ⟨0, [], Nat.zero_le _, rfl, rfl, Lib.hid rfl, Kp.refl _⟩
  case round =>
    obtain ⟨k, a, hk, rfl, rfl, ha, kr⟩ := hrel
    by_cases hlt : k < n
    · obtain ⟨b, off, hao, hc⟩ := TIn.at (HH.out.kp kr) (i := k) (by rw [HN.out]; exact hlt)
      have x1 := hc.t k (by rw [HN.out]; exact hlt)
      have y0 := hc.size
      have HT2 := Lib.hid (HTK.out k hlt)
      have HA0 : Hid (a.length ≤ 60000) := Lib.hid (by rw [← ha.out]; exact HJ.out k)
      have HA1 : Hid (joinL ((l.map (·.t)).take (k + 1)) = if k = 0 then (l.getD k t0).t else a ++ 32 :: (l.getD k t0).t) := Lib.hid (by rw [HT2.out, ha.out])
      have HA2 := Lib.hid (HJ.out (k + 1))
      have HA3 : Hid (k = 0 → a = []) := Lib.hid (fun e => by rw [← ha.out, e]; rfl)
      have hk0 : (0 : Int) ≤ (k : Int) := Int.natCast_nonneg _
      have hk1 : (k : Int) < (n : Int) := by omega
      have KR := Lib.hid kr
      clear hc kr ha HT2
      generalize (l.getD k t0).t = x at *
      subst hao
      by_cases hz : k = 0
      · subst hz
        obtain rfl := HA3.out rfl
        have ad := add_wide (P := Tryd.prog) (a := []) (b := x) wr (by have := HA2.out; rw [HA1.out, if_pos rfl] at this; simpa using (by omega : x.length ≤ 65536))
        rw [List.nil_append] at ad
        have HR : Hid (joinL ((l.map (·.t)).take (0 + 1)) = x) := Lib.hid (by rw [HA1.out, if_pos rfl])
        clear HA0 HA1 HA2 HA3
        rw [show ((0 : Nat) : Int) = 0 from rfl]
        generalize hbx : bytesOf x = bx at *
        generalize bytesOf [] = be at *
        have HBX := Lib.hid hbx
        clear hbx
        go_wp2
        go_roundw
        case rel => exact ⟨0 + 1, x, by omega, by go_num, by rw [HBX.out], HR, KR.out⟩
        case measure => simp [intOf]; omega
      · have hz1 : (0 : Int) < (k : Int) := by omega
        have hal := HA2.out
        rw [HA1.out, if_neg hz, List.length_append, List.length_cons] at hal
        have ad1 := add_wide (P := Tryd.prog) (a := a) (b := [32]) wr (by simp; omega)
        have ad2 := add_wide (P := Tryd.prog) (a := a ++ [32]) (b := x) wr (by simp; omega)
        have HR : Hid (joinL ((l.map (·.t)).take (k + 1)) = a ++ [32] ++ x) := Lib.hid (by rw [HA1.out, if_neg hz]; simp)
        clear HA0 HA1 HA2 HA3 hal
        rw [show bytesOf [32] = (⟨#[32]⟩ : ByteArray) from rfl] at ad1
        generalize a ++ [32] = a32 at *
        generalize hy : a32 ++ x = y at *
        go_wp2
        go_roundw
        case rel => exact ⟨k + 1, y, by omega, by go_num, rfl, HR, KR.out⟩
        case measure => simp [intOf]; omega
    · obtain rfl : k = n := by omega
      have HE : Hid (a = s) := Lib.hid (by rw [← ha.out, HS.out])
      go_wp2
      go_ret
      exact ⟨ret_str (by rw [HE.out]), kr⟩
/-! ### Line -/
theorem posL_end {a : List UInt8} {b : UInt8} : posL (a ++ [b]) = if b = 10 then ((posL a).1 + 1, 1) else ((posL a).1, (posL a).2 + 1) := by
  split
  · rename_i h; subst h; exact posL_nl a
  · exact posL_no (by unfold noNl; simpa using ‹_›)
theorem clamp_of {n k : Nat} {at' : Int} (hk : k ≤ n) (h1 : (k : Int) ≤ max at' 0) (h2 : at' ≤ k ∨ n ≤ k) : clampN n at' = k := by
  unfold clampN
  split
  · omega
  · split <;> omega
set_option maxHeartbeats 4000000 in
set_option maxRecDepth 100000 in
theorem rLine_any (s : List UInt8) (hl : s.length ≤ 65536) (at' : Int) (h1 : -9223372036854775808 ≤ at') (h2 : at' ≤ 9223372036854775807) (w : World) (l c : Int) (hlc : posL (s.take (clampN s.length at')) = (l, c)) :
    Calls Tryd.prog 14 #[.string (bytesOf s), .int .i64 at'] w fun e w' => e = .returned (.tuple #[.int .i64 l, .int .i64 c]) ∧ w' = w := by
  have hsz : (bytesOf s).size = s.length := bytesOf_size s
  have HZ := Lib.hid hsz
  have hm : ((bytesOf s).size : Int) ≤ 65536 := by rw [hsz]; omega
  have HLC := Lib.hid hlc
  clear hsz hlc hl
  go_enter Tryd.func14, Tryd.ntmps14
  go_wp2_with fail
  go_loop [6, 7, 8] (fun x y i => ∃ (k : Nat) (a b : Int), k ≤ (bytesOf s).size ∧ (k : Int) ≤ max at' 0 ∧ i = .int .i64 k ∧ x = .int .i64 a ∧ y = .int .i64 b ∧ 1 ≤ a ∧ a ≤ k + 1 ∧ 1 ≤ b ∧ b ≤ k + 1 ∧ Hid (posL (s.take k) = (a, b))) (fun _ _ i => (bytesOf s).size - (intOf i).toNat)
  case atStart => exact ⟨0, 1, 1, Nat.zero_le _, by omega, rfl, rfl, rfl, by omega, by omega, by omega, by omega, Lib.hid (by simp [posL, spn_nil])⟩
  case round =>
    obtain ⟨k, a, b, hk, hka, rfl, rfl, rfl, a1, a2, b1, b2, hp⟩ := hrel
    have FIN : (at' ≤ k ∨ (bytesOf s).size ≤ k) → a = l ∧ b = c := fun g => by
      have := hp.out
      have e := HLC.out
      rw [clamp_of (k := k) (by rw [← HZ.out]; exact hk) hka (by rw [← HZ.out]; exact g)] at e
      rw [e] at this
      exact ⟨(Prod.mk.inj this).1.symm, (Prod.mk.inj this).2.symm⟩
    have HF := Lib.hid FIN
    clear FIN
    by_cases ha : (k : Int) < at'
    · by_cases hlt : k < (bytesOf s).size
      · have hb := byte_at s k hlt (by rw [← HZ.out]; exact hlt)
        have NX : posL (s.take (k + 1)) = if (bytesOf s)[k] = 10 then (a + 1, 1) else (a, b + 1) := by
          rw [take_end (by rw [← HZ.out]; exact hlt), posL_end, hp.out]
          exact rfl
        have HNX := Lib.hid NX
        clear NX hb hp
        obtain ⟨x, hx⟩ : ∃ x, (bytesOf s)[k] = x := ⟨_, rfl⟩
        have HX := Lib.hid hx
        by_cases h10 : x = 10
        · have hd : (((bytesOf s)[k].toNat : Int) == 10) = true := by rw [hx, h10]; decide
          have HN2 : Hid (posL (s.take (k + 1)) = (a + 1, 1)) := Lib.hid (by rw [HNX.out, HX.out, if_pos h10])
          clear hx HNX
          go_wp2
          go_round
          case rel => exact ⟨k + 1, a + 1, 1, by omega, by omega, by go_num, by go_num, rfl, by omega, by omega, by omega, by omega, HN2⟩
          case measure => simp [intOf]; omega
        · have hd : (((bytesOf s)[k].toNat : Int) == 10) = false := by
            rw [hx]
            have : x.toNat ≠ 10 := fun e => h10 (by rw [← UInt8.toNat_inj]; exact e)
            simp
            omega
          have HN2 : Hid (posL (s.take (k + 1)) = (a, b + 1)) := Lib.hid (by rw [HNX.out, HX.out, if_neg h10])
          clear hx HNX
          go_wp2
          go_round
          case rel => exact ⟨k + 1, a, b + 1, by omega, by omega, by go_num, rfl, by go_num, by omega, by omega, by omega, by omega, HN2⟩
          case measure => simp [intOf]; omega
      · have hf := HF.out (.inr (by omega))
        obtain ⟨rfl, rfl⟩ := hf
        go_wp2
        go_ret2
        exact ⟨rfl, rfl⟩
    · have hf := HF.out (.inl (by omega))
      obtain ⟨rfl, rfl⟩ := hf
      go_wp2
      go_ret2
      exact ⟨rfl, rfl⟩
/-! ### all tokens -/
theorem drop_at {s : List UInt8} {i : Nat} (h : i < s.length) : s.drop i = s[i] :: s.drop (i + 1) := List.drop_eq_getElem_cons h
theorem hd_nl' {b : UInt8} {r : List UInt8} (h : b = 10) : hdOf (b :: r) = .nl := by rw [hd_cons, if_pos h]
theorem hd_cm' {b : UInt8} {r : List UInt8} (h1 : b ≠ 10) (h2 : isBl b = false) (h3 : [47, 47].isPrefixOf (b :: r) = true) : hdOf (b :: r) = .cm := by
  rw [hd_cons, if_neg h1, if_neg (by rw [h2]; simp), if_pos h3]
theorem hd_tk' {b : UInt8} {r : List UInt8} (h1 : b ≠ 10) (h2 : isBl b = false) (h3 : [47, 47].isPrefixOf (b :: r) = false) : IsTok (hdOf (b :: r)) := by
  rw [hd_cons, if_neg h1, if_neg (by rw [h2]; simp), if_neg (by rw [h3]; simp)]
  unfold IsTok
  repeat' split
  all_goals simp
theorem pre_pre {us : List Tk} {t : Tk} {r : Except (Int × Int) (List Tk)} : pre us (push t r) = pre (us ++ [t]) r := pre_push
theorem kind_pos {s : List UInt8} {k v : Int} {n : Nat} (h : tokR s = some (k, n, v)) : 0 ≤ k ∧ k ≤ 4 := by
  unfold tokR at h
  split at h
  · split at h
    · split at h
      · split at h
        · cases h
        · cases h; decide
      · cases h
    · cases h
      have := kindA_bd (s.take (spn inW s))
      omega
  · split at h
    · cases h
    · cases h; decide
theorem kind_ne {s : List UInt8} {k v : Int} {n : Nat} (hs : IsTok (hdOf s)) (h : tokH (hdOf s) s = some (k, n, v)) : k ≠ 0 := by
  rcases hs with e | e | e | e
  all_goals rw [e] at h
  · simp only [tokH, Option.some.injEq, Prod.mk.injEq] at h
    rw [← h.1]
    unfold kindW
    split <;> decide
  · simp only [tokH, Option.map_eq_some_iff, Prod.mk.injEq] at h
    obtain ⟨_, _, h, _⟩ := h
    rw [← h]; decide
  · simp only [tokH, Option.map_eq_some_iff, Prod.mk.injEq] at h
    obtain ⟨_, _, h, _⟩ := h
    rw [← h]; decide
  · simp only [tokH] at h
    split at h
    · cases h
    · simp only [Option.some.injEq, Prod.mk.injEq] at h
      rw [← h.1]; decide
theorem num_bd {s : List UInt8} {k v : Int} {n : Nat} (h : tokR s = some (k, n, v)) : 0 ≤ v ∧ v ≤ 4294967295 := by
  unfold tokR at h
  split at h
  · split at h
    · rw [numR_is] at h
      split at h
      · rename_i e
        split at h
        · cases h
        · cases h
          split at e
          · cases e; exact nmV_bd _
          · cases e
      · cases h
    · cases h; decide
  · split at h
    · cases h
    · cases h; decide
end Lx
end Go.Proofs.YtlgkcjhoaecekaaDoor
