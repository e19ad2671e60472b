/-
  WALKS: package lex, Join. Own work.
-/
import Derived.Test.YtlgkcjhoaecekaaDoorLxAsk
namespace Go.Proofs.YtlgkcjhoaecekaaDoor
namespace Lx
open Go.RowKit Go
set_option linter.unusedVariables false

theorem join_is : ∀ xs : List (List UInt8), Lib.join xs [32] = joinL xs
  | [] => rfl
  | [x] => by rw [Lib.join_one]; rfl
  | x :: y :: r => by
    have h := join_is (y :: r)
    have e : Lib.join (x :: y :: r) [32] = x ++ ([32] ++ Lib.join (y :: r) [32]) := by simp [Lib.join, List.intercalate, List.intersperse]
    rw [e, h]
    rfl
set_option maxHeartbeats 4000000 in
set_option maxRecDepth 100000 in
theorem Join_any {w : World} {ao : Option Addr} {cap : Nat} {l : List Tk} (h : TIn w ao l) (hl : l.length ≤ 65536) (s : List UInt8) (hs : joinL (l.map (·.t)) = s) (hsl : s.length ≤ 140737488355328) :
    Calls Tryd.prog 12 #[.slice ao l.length cap] w fun e w' => e = .returned (.string (bytesOf s)) ∧ Kp w w' := by
  obtain ⟨i0, hi, hz0, hz1, hz2⟩ := info_parts info_T
  have HH := Lib.hid h
  have HLM : Hid ((l.map (·.t)).length = l.length) := Lib.hid (List.length_map ..)
  have HTK : Hid (∀ k (hk : k < l.length), ((l.map (·.t)).take (k + 1)).flatMap celT = ((l.map (·.t)).take k).flatMap celT ++ [.string (bytesOf (l.getD k t0).t)]) := Lib.hid (fun k hk => by
    rw [List.take_add_one, List.getElem?_map, getD_some (d := t0) hk]
    simp [celT])
  have HJ : Hid (∀ W ao2 cap2, l.length ≤ cap2 → SIn W ao2 (l.map (·.t)) → Calls Tryd.prog 27 #[.slice ao2 l.length cap2, .string ⟨#[32]⟩] W fun e w' => e = .returned (.string (bytesOf s)) ∧ Kp W w') := Lib.hid (fun W ao2 cap2 hcap hS => by
    rcases hS with h0 | ⟨b, off, rfl, hb, hc⟩
    · have e0 : l = [] := List.eq_nil_of_length_eq_zero (by simpa using h0)
      subst e0
      refine (Tryd.strings_Join_none ao2 cap2 _ W).mono fun e w' hh => ⟨?_, by rw [hh.2]; exact Kp.refl _⟩
      rw [hh.1, ← hs]
      rfl
    · have hmap : ((l.map (·.t)).map bytesOf).map (fun x => x.data.toList) = l.map (·.t) := by
        rw [List.map_map]
        simp [bytesOf]
      have := Tryd.strings_Join b off cap2 ((l.map (·.t)).map bytesOf) ⟨#[32]⟩ W (fun j x hx => by
        rw [List.getElem?_map, Option.map_eq_some_iff] at hx
        obtain ⟨y, hy, rfl⟩ := hx
        have hj : j < (l.map (·.t)).length := by
          rcases Nat.lt_or_ge j (l.map (·.t)).length with q | q
          · exact q
          · rw [List.getElem?_eq_none q] at hy; cases hy
        have := hc j hj
        rw [List.getD_eq_getElem?_getD, hy] at this
        exact this) hb (by simp; omega) (by simpa using hcap) (by
          rw [hmap]
          show (Lib.join (l.map (·.t)) [32]).length ≤ _
          rw [join_is, hs]
          exact hsl)
      rw [hmap, show (Lib.join (l.map (·.t)) (⟨#[32]⟩ : ByteArray).data.toList) = s from (join_is _).trans hs] at this
      have hlen : ((l.map (·.t)).map bytesOf).length = l.length := by simp
      rw [hlen] at this
      exact this.mono fun e w' hh => ⟨hh.1, ⟨hh.2⟩⟩)
  obtain ⟨n, hn⟩ : ∃ n, l.length = n := ⟨_, rfl⟩
  have HN := Lib.hid hn
  rw [hn] at hl HLM HJ ⊢
  have hl2 : (n : Int) ≤ 65536 := by omega
  clear h hn hs hsl
  go_enter Tryd.func12, Tryd.ntmps12
  go_wp2_with fail
  go_loopw [3, 8] (fun v i wr => ∃ k : Nat, k ≤ n ∧ i = .int .i64 k ∧ wr.ownsRow w.heap.size 9 1 v k (((l.map (·.t)).take k).flatMap celT) ∧ Kp w wr) (fun _ i _ => n - (intOf i).toNat)
  case atStart => exact ⟨0, Nat.zero_le _, rfl, World.ownsRow_nil _ _ _ _, Kp.refl _⟩
  case round =>
    obtain ⟨k, hk, rfl, hown, kr⟩ := hrel
    by_cases hlt : k < n
    · obtain ⟨b, off, hao, hc⟩ := TIn.at (HH.out.kp kr) (i := k) (by rw [HN.out]; exact hlt)
      have x0 := hc.k k (by rw [HN.out]; exact hlt)
      have x1 := hc.t k (by rw [HN.out]; exact hlt)
      have x2 := hc.l' k (by rw [HN.out]; exact hlt)
      have x3 := hc.c k (by rw [HN.out]; exact hlt)
      have x4 := hc.n k (by rw [HN.out]; exact hlt)
      have y0 := hc.size
      have HT2 := Lib.hid (HTK.out k (by rw [HN.out]; exact hlt))
      have hk0 : (0 : Int) ≤ (k : Int) := Int.natCast_nonneg _
      have hk1 : (k : Int) < (n : Int) := by omega
      have hwz := kr.size
      have KR := Lib.hid kr
      clear hc kr
      generalize l.getD k t0 = x at *
      obtain ⟨xk, xt, xl, xc, xn⟩ := x
      simp only at x0 x1 x2 x3 x4 HT2
      rw [hao]
      go_upto_region 5 with (fail)
      generalize hw2 : wr.alloc _ = w2
      have A2 := alloc_new_of hw2
      have hown2 := own_kp hown A2.2.1
      have d1 := A2.1 1
      simp only [List.getElem?_toArray, List.getElem?_cons_succ, List.getElem?_cons_zero] at d1
      have KR2 := Lib.hid (KR.out.trans A2.2.1)
      have hwz2 := KR2.out.size
      clear A2 hw2 x0 x1 x2 x3 x4 hown
      obtain ⟨P, hP⟩ : ∃ P, wr.heap.size = P := ⟨_, rfl⟩
      rw [hP] at d1 ⊢
      clear hP hwz
      go_wp2_with (at_builtin; refine wpList_append_own _ rfl _ _ 40 rfl w.heap.size 9 i0 (.string ⟨#[]⟩) 1 16 Tryd.underlying40 hi hz0 hz1 hz2 rfl (by decide) _ _ _ rfl (hown2.alloc _) ⟨w2.heap.size, 0, none⟩ 1 1 [.string (bytesOf xt)] rfl rfl ?c1 ?c2 ?c3 ?c4 ?c5 ?_)
      case c1 => exact cell_one_new _ _ _
      case c2 => intro u hu; simp only [List.mem_singleton] at hu; subst hu; rfl
      case c3 => unfold maxLen; omega
      case c4 => omega
      case c5 => simp; omega
      intro v' w3 hown' hgrow _
      have hk3 : Kp w w3 := kp_grown (KR2.out.alloc _ _) hgrow (fun q hq => (hown2.lt q hq).1)
      rw [← HT2.out] at hown'
      have HOW := Lib.hid hown'
      clear hgrow hown2 hown'
      go_wp2
      go_roundw
      case rel => exact ⟨k + 1, by omega, by go_num, HOW.out, hk3⟩
      case measure => simp [intOf]; omega
    · obtain rfl : k = n := by omega
      have ht : (l.map (·.t)).take k = l.map (·.t) := List.take_of_length_le (by rw [HLM.out]; omega)
      rw [ht] at hown
      obtain ⟨ao', cap', rfl, hcap, _, _⟩ := own_form hown
      have HC2 := Lib.hid (HJ.out wr ao' cap' hcap (row_T hown))
      clear hown ht
      go_wp2_with fail
      refine HC2.out.mono ?_
      rintro e w5 ⟨rfl, k5⟩
      go_wp2
      go_ret
      exact ⟨rfl, kr.trans k5⟩
end Lx
end Go.Proofs.YtlgkcjhoaecekaaDoor
