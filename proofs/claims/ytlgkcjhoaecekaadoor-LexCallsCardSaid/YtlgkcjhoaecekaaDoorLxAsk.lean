/-
  WALKS: package lex, Line, Kind. Own work.
-/
import Derived.Test.YtlgkcjhoaecekaaDoorLxLives
namespace Go.Proofs.YtlgkcjhoaecekaaDoor
namespace Lx
open Go.RowKit Go
set_option linter.unusedVariables false

theorem spn_rev_no {a : List UInt8} (h : ∀ b ∈ a, noNl b = true) : spn noNl a.reverse = a.length := by
  rw [spn_all (fun b hb => h b (by simpa using hb)), List.length_reverse]
theorem spn_rev_at {a c : List UInt8} (h : ∀ b ∈ c, noNl b = true) : spn noNl (a ++ 10 :: c).reverse = c.length := by
  rw [show (a ++ 10 :: c).reverse = c.reverse ++ 10 :: a.reverse by simp, spn_nl (by decide)]
  exact spn_rev_no h
theorem last_pos (a : List UInt8) : (a.length : Int) - Lib.lastIndexByte (bytesOf a) 10 = (posL a).2 := by
  have hs : (bytesOf a).size = a.length := bytesOf_size a
  have hat : ∀ j (hj : j < a.length), ((bytesOf a).data[j]!) = a[j] := fun j hj => by
    show a.toArray[j]! = a[j]
    simp [hj]
  have no : ∀ b : UInt8, ((b.toNat : Int) ≠ 10) → noNl b = true := fun b hb => by
    rw [noNl_i]
    simpa using hb
  have spec := Lib.lastIdx_spec (bytesOf a) 10 a.length
  unfold posL Lib.lastIndexByte
  rw [hs]
  rcases spec with ⟨h1, h2⟩ | ⟨i, hi, h1, h2, h3⟩
  · rw [h1, spn_rev_no (fun b hb => by
      obtain ⟨j, hj, rfl⟩ := List.getElem_of_mem hb
      have := h2 j hj
      rw [hat j hj] at this
      exact no _ this)]
    simp only
    omega
  · rw [hat i hi] at h2
    have e : a[i] = 10 := by
      apply UInt8.toNat_inj.1
      have : (a[i].toNat : Int) = 10 := h2
      simp
      omega
    have hsplit : a = a.take i ++ 10 :: a.drop (i + 1) := by
      conv => lhs; rw [← List.take_append_drop i a, List.drop_eq_getElem_cons hi, e]
    have hsp : spn noNl a.reverse = (a.drop (i + 1)).length := by
      conv => lhs; rw [hsplit]
      exact spn_rev_at (fun b hb => by
        obtain ⟨j, hj, rfl⟩ := List.getElem_of_mem hb
        rw [List.length_drop] at hj
        have := h3 (i + 1 + j) (by omega) (by omega)
        rw [hat _ (by omega)] at this
        rw [List.getElem_drop]
        exact no _ this)
    rw [h1, hsp, List.length_drop]
    simp only
    omega
theorem count_pos (a : List UInt8) : ((Lib.countByte a 10 : Nat) : Int) + 1 = (posL a).1 := by
  unfold posL Lib.countByte
  simp only
  rw [List.count_eq_length_filter]
/-- Where an offset is. -/
def clampN (n : Nat) (at' : Int) : Nat := if at' < 0 then 0 else if (n : Int) < at' then n else at'.toNat
set_option maxHeartbeats 4000000 in
set_option maxRecDepth 100000 in
theorem Line_any (s : List UInt8) (hl : s.length ≤ 65536) (at' : Int) (h1 : -9223372036854775808 ≤ at') (h2 : at' ≤ 9223372036854775807) (w : World) (l c : Int) (hlc : posL (s.take (clampN s.length at')) = (l, c)) :
    Calls Tryd.prog 9 #[.string (bytesOf s), .int .i64 at'] w fun e w' => e = .returned (.tuple #[.int .i64 l, .int .i64 c]) ∧ w' = w := by
  obtain ⟨n, hn⟩ : ∃ n, clampN s.length at' = n := ⟨_, rfl⟩
  rw [hn] at hlc
  have hnl : n ≤ s.length := by
    rw [← hn]
    unfold clampN
    split
    · omega
    · split <;> omega
  have hsz : (bytesOf s).size = s.length := bytesOf_size s
  have hnn : (min (max at' 0) ((bytesOf s).size : Int)).toNat = n := by
    rw [hsz, ← hn]
    unfold clampN
    split
    · omega
    · split <;> omega
  have HX : Hid ((bytesOf s).extract 0 (min (max at' 0) ((bytesOf s).size : Int)).toNat = bytesOf (s.take n)) := Lib.hid (by rw [hnn, ext_ab]; simp)
  have htl : (s.take n).length = n := by rw [List.length_take]; omega
  have HC : Hid (∀ W, Calls Tryd.prog 21 #[.string (bytesOf (s.take n)), .string ⟨#[10]⟩] W fun e w' => e = .returned (.int .i64 (l - 1)) ∧ w' = W) := Lib.hid (fun W => by
    have := Tryd.strings_Count_one (bytesOf (s.take n)) 10 W
    have e := count_pos (s.take n)
    rw [hlc] at e
    simp only at e
    rw [bytesOf_list, show ((Lib.countByte (s.take n) 10 : Nat) : Int) = l - 1 by omega] at this
    exact this)
  have HI : Hid (∀ W, Calls Tryd.prog 22 #[.string (bytesOf (s.take n)), .int .u8 10] W fun e w' => e = .returned (.int .i64 ((n : Int) - c)) ∧ w' = W) := Lib.hid (fun W => by
    have := Tryd.strings_LastIndexByte (bytesOf (s.take n)) 10 (by rw [bytesOf_size, htl]; omega) W
    have e := last_pos (s.take n)
    rw [hlc, htl] at e
    simp only at e
    rw [show Lib.lastIndexByte (bytesOf (s.take n)) 10 = (n : Int) - c by omega] at this
    exact this)
  have HSZ : Hid ((bytesOf (s.take n)).size = n) := Lib.hid (by rw [bytesOf_size, htl])
  have hb := posL_one (s.take n)
  rw [hlc] at hb
  have hl1 : l ≤ 65537 := by
    have e := count_pos (s.take n)
    rw [hlc] at e
    have : Lib.countByte (s.take n) 10 ≤ n := by unfold Lib.countByte; have := List.count_le_length (a := 10) (l := s.take n); omega
    simp only at e
    omega
  have hc1 : c ≤ 65537 := by
    have : (posL (s.take n)).2 ≤ (n : Int) + 1 := by unfold posL; have := spn_le noNl (s.take n).reverse; rw [List.length_reverse, htl] at this; simp only; omega
    rw [hlc] at this
    simp only at this
    omega
  have hl0 : 1 ≤ l := hb.1
  have hc0 : 1 ≤ c := hb.2
  have hm : ((bytesOf s).size : Int) ≤ 65536 := by rw [hsz]; omega
  have hs2 : ((bytesOf (s.take n)).size : Int) = (n : Int) := by rw [HSZ.out]
  have hn0 : (n : Int) ≤ 65536 := by omega
  clear hlc hn hsz htl hb hnn
  generalize s.take n = t at *
  have HS2 := Lib.hid hs2
  have hb2 : ((bytesOf t).size : Int) ≤ 65536 := by omega
  clear hs2
  go_enter Tryd.func9, Tryd.ntmps9
  go_wp2_with fail
  rw [HX.out]
  refine (HC.out _).mono ?_
  rintro e w1 ⟨rfl, rfl⟩
  go_wp2_with fail
  refine (HI.out _).mono ?_
  rintro e w2 ⟨rfl, rfl⟩
  have hs2 := HS2.out
  go_wp2
  go_ret2
  exact ⟨ret2_int (by omega) (by omega), rfl⟩
set_option maxHeartbeats 4000000 in
set_option maxRecDepth 100000 in
theorem isWord_any (s : List UInt8) (hl : s.length ≤ 65536) (w : World) (r : Bool) (hr : isWd s = r) :
    Calls Tryd.prog 25 #[.string (bytesOf s)] w fun e w' => e = .returned (.bool r) ∧ w' = w := by
  cases s with
  | nil =>
    have he : (bytesOf []).toList.isEmpty = true := by rw [bytesOf_toList]; rfl
    have HR := Lib.hid hr
    clear hr hl
    go_enter Tryd.func25, Tryd.ntmps25
    go_wp2
    go_ret
    exact ⟨ret_bool (by rw [← HR.out]; rfl), rfl⟩
  | cons b q =>
    have he : (bytesOf (b :: q)).toList.isEmpty = false := by rw [bytesOf_toList]; rfl
    have hs0 : 0 < (bytesOf (b :: q)).size := by rw [bytesOf_size]; simp
    have hs1 : (0 : Int) < ((bytesOf (b :: q)).size : Int) := by omega
    have hb0 := first_byte (b := b) (q := q) hs0
    obtain ⟨n, hn⟩ : ∃ n, spn inW (b :: q) = n := ⟨_, rfl⟩
    have H2 : Hid (∀ W, Calls Tryd.prog 48 #[.string (bytesOf (b :: q)), .func (.func 49) #[] #[]] W fun e w' => e = .returned (.int .i64 n) ∧ w' = W) := Lib.hid (fun W => span_any inWordS _ (by omega) W n hn)
    have hall : ((b :: q).all inW = true ↔ n = (b :: q).length) := by
      rw [List.all_eq_true, ← hn]
      constructor
      · exact fun h => spn_all h
      · intro h x hx
        have := all_spn inW (b :: q) x
        rw [h, List.take_length] at this
        exact this hx
    have hsz : (bytesOf (b :: q)).size = (b :: q).length := bytesOf_size _
    have hr2 : (stW b && (b :: q).all inW) = r := hr
    have hz : ((n : Int) == ((bytesOf (b :: q)).size : Int)) = (b :: q).all inW := by
      rw [Bool.eq_iff_iff, hall, hsz]
      simp
      omega
    obtain ⟨zs, hzs⟩ : ∃ z, stW b = z := ⟨_, rfl⟩
    have HST : Hid (stW ((bytesOf (b :: q))[0]'hs0) = zs) := Lib.hid ((congrArg stW hb0).trans hzs)
    rw [hzs] at hr2
    have HR := Lib.hid hr2
    have HZ := Lib.hid hz
    generalize (b :: q).all inW = za at *
    clear hall hsz hr2 hr hzs hb0 hn hl
    generalize bytesOf (b :: q) = BS at *
    cases zs <;> cases za
    all_goals
      have hz := HZ.out
      go_enter Tryd.func25, Tryd.ntmps25
      go_wp2_with (first
        | (go_at_call 38; refine (startsWord_any BS[0] _ _ HST.out).mono ?_; rintro e w2 ⟨rfl, rfl⟩)
        | (go_at_call 48; refine (H2.out _).mono ?_; rintro e w2 ⟨rfl, rfl⟩))
      go_ret
      exact ⟨ret_bool (by rw [← HR.out]; rfl), rfl⟩
set_option maxHeartbeats 4000000 in
set_option maxRecDepth 100000 in
theorem Kind_any (s : List UInt8) (hl : s.length ≤ 65536) (w : World) (k : Int) (hk : kindA s = k) :
    Calls Tryd.prog 11 #[.string (bytesOf s)] w fun e w' => e = .returned (.int .i64 k) ∧ Kp w w' := by
  unfold kindA at hk
  have HL := Lib.hid hl
  cases hw : isWd s
  · rw [hw] at hk
    have HK := Lib.hid hk
    have HW := Lib.hid hw
    clear hk hw hl
    go_enter Tryd.func11, Tryd.ntmps11
    go_wp2_with (go_at_call 25; refine (isWord_any s HL.out _ _ HW.out).mono ?_; rintro e w2 ⟨rfl, rfl⟩)
    go_ret
    exact ⟨ret_int (by rw [← HK.out]; rfl), Kp.refl _⟩
  · rw [hw] at hk
    have HK : Hid (kindW s = k) := Lib.hid (by simpa using hk)
    have HW := Lib.hid hw
    clear hk hw hl
    go_enter Tryd.func11, Tryd.ntmps11
    go_wp2_with (first
      | (go_at_call 25; refine (isWord_any s HL.out _ _ HW.out).mono ?_; rintro e w2 ⟨rfl, rfl⟩)
      | (go_at_call 20; refine (keywords_any _).mono ?_; rintro e w3 ⟨rfl, hM, k3⟩)
      | (go_at_call 26; refine (kindOf_any hM s HL.out _ HK.out).mono ?_; rintro e w4 ⟨rfl, k4⟩))
    go_ret
    exact ⟨rfl, k3.trans k4⟩
end Lx
end Go.Proofs.YtlgkcjhoaecekaaDoor
