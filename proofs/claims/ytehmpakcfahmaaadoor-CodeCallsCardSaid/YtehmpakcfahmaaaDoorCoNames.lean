/-
  WALKS: package code, Names; the statement CodeNames. Own work.
-/
import Derived.Test.YtehmpakcfahmaaaDoorCoLives
import Derived.Laws.AppendOwn
namespace Go.Proofs.YtehmpakcfahmaaaDoor
namespace Co
open Go.RowKit Go
set_option linter.unusedVariables false

theorem info_string : (Tryd.prog.info? 9).map (fun i => (i.zero, i.size, i.bytes)) = some (some (.string ByteArray.empty), 1, 16) := by kernel_rfl
def namesL : List (List UInt8) := (tab.drop 1).map (·.name)
theorem namesL_len : namesL.length = 24 := rfl
theorem namesL_at : ∀ k : Fin 24, namesL[k.val]? = some (opL (k.val + 1)) := by decide +kernel
def strs (l : List (List UInt8)) : List Value := l.map fun x => Value.string (bytesOf x)
theorem own_kp {w w' : World} {base : Nat} {e : TypeId} {size : Nat} {v : Value} {n : Nat} {xs : List Value} (h : w.ownsRow base e size v n xs) (k : Kp w w') : w'.ownsRow base e size v n xs := by
  obtain ⟨h1, h2⟩ := h
  refine ⟨h1, ?_⟩
  rcases h2 with h2 | ⟨g, cap, cur, a, b, c, d⟩
  · exact .inl h2
  · refine .inr ⟨g, cap, cur, a, b, ?_, d⟩
    have hg : g < w.heap.size := by
      by_cases hs : g < w.heap.size
      · exact hs
      · rw [Array.getElem?_eq_none (by omega)] at c; cases c
    rw [k.below.block g hg]; exact c
theorem own_texts' {w : World} {B : Nat} {T : TypeId} {v : Value} {n : Nat} {l : List (List UInt8)} (h : w.ownsRow B T 1 v n (strs l)) (hn : 0 < n) : ∃ A cap, v = .slice (some ⟨A, 0, none⟩) n cap ∧ SIn w (some ⟨A, 0, none⟩) l := by
  have h0 := h
  obtain ⟨hlen, h | ⟨g, cap, cur, hv, _⟩⟩ := h
  · omega
  · subst hv
    have hl : l.length = n := by simpa [strs] using hlen
    exact ⟨g, cap, rfl, own_texts h0 hl⟩

/-- The names, as a new slice. -/
def Nms (w : World) (e : Ending) (w' : World) : Prop := ∃ A cap, e = .returned (.slice (some ⟨A, 0, none⟩) 24 cap) ∧ SIn w' (some ⟨A, 0, none⟩) namesL ∧ Kp w w'
theorem nms_of {w w' : World} {v : Value} (h : w'.ownsRow w.heap.size 9 1 v 24 (strs namesL)) (k : Kp w w') : Nms w (.returned v) w' := by
  obtain ⟨A, cap, rfl, hs⟩ := own_texts' h (by omega)
  exact ⟨A, cap, rfl, hs, k⟩
set_option maxHeartbeats 2000000 in
set_option maxRecDepth 100000 in
theorem Names_any {w : World} (hE : Env w) : Calls Tryd.prog 9 #[] w (Nms w) := by
  obtain ⟨i0, hi, hz0, hz1, hz2⟩ := info_parts info_string
  go_enter Tryd.func9, Tryd.ntmps9
  go_wp2
  go_loopw [1, 2] (fun v i wr => ∃ k : Nat, k ≤ 24 ∧ i = .int .i64 (k + 1) ∧ wr.ownsRow w.heap.size 9 1 v k (strs (namesL.take k)) ∧ Kp w wr) (fun _ i _ => 25 - (intOf i).toNat)
  case atStart => exact ⟨0, by omega, rfl, World.ownsRow_nil _ _ _ _, Kp.refl _⟩
  case round =>
    obtain ⟨k, hk, rfl, hown, kr⟩ := hrel
    by_cases hlt : k < 24
    · have hne := isEmpty_no (opL_some (n := (k : Int) + 1) (by omega))
      go_wp2_with fail
      refine (nameOf_any (hE.kept kr).rows ((k : Int) + 1)).mono ?_
      rintro e w1 ⟨rfl, k1⟩
      have kr1 := kr.trans k1
      have hown1 := own_kp hown k1
      clear hown k1
      go_wp2_with fail
      refine (nameOf_any (hE.kept kr1).rows ((k : Int) + 1)).mono ?_
      rintro e w2 ⟨rfl, k2⟩
      have kr2 := kr1.trans k2
      have hown2 := own_kp hown1 k2
      clear hown1 k2 kr1
      go_wp2_with (at_builtin; refine wpList_append_own _ rfl _ _ 22 rfl w.heap.size 9 i0 (.string ByteArray.empty) 1 16 Tryd.underlying22 hi hz0 hz1 hz2 rfl (by decide) _ _ _ rfl (hown2.alloc _) ⟨w2.heap.size, 0, none⟩ 1 1 [.string (bytesOf (opL ((k : Int) + 1)))] rfl rfl ?c1 ?c2 ?c3 ?c4 ?c5 ?_)
      case c1 =>
        intro j u hj
        match j, hj with
        | 0, hj => simp at hj; subst hj; simp [Addr.add]
      case c2 => intro u hu; simp at hu; subst hu; rfl
      case c3 => unfold maxLen; omega
      case c4 => omega
      case c5 => have := kr2.size; simp; omega
      intro v' w3 hown' hgrow _
      have hk3 : Kp w w3 := ⟨(kr2.alloc _ _).below.grown hgrow (by have := kr2.size; simp; omega) (fun q hq => (hown2.lt q hq).1)⟩
      have hown3 : w3.ownsRow w.heap.size 9 1 v' (k + 1) (strs (namesL.take (k + 1))) := by
        have e : namesL.take (k + 1) = namesL.take k ++ [opL ((k : Int) + 1)] := by
          rw [List.take_succ_eq_append_getElem (by rw [namesL_len]; exact hlt)]
          have := namesL_at ⟨k, hlt⟩
          rw [List.getElem?_eq_getElem (by rw [namesL_len]; exact hlt)] at this
          rw [Option.some.inj this]
        rw [e]
        unfold strs
        rw [List.map_append]
        exact hown'
      clear hown' hgrow hown2 hne
      go_wp2
      go_roundw
      case rel => exact ⟨k + 1, by omega, by go_num, hown3, hk3⟩
      case measure => simp [intOf]; omega
    · obtain rfl : k = 24 := by omega
      have he : (bytesOf (opL 25)).toList.isEmpty = true := isEmpty_yes rfl
      have e25 : ((24 : Nat) : Int) + 1 = 25 := by decide
      rw [e25]
      go_wp2_with fail
      refine (nameOf_any (hE.kept kr).rows 25).mono ?_
      rintro e w1 ⟨rfl, k1⟩
      go_wp2
      go_ret
      exact nms_of (by exact own_kp hown k1) (kr.trans k1)

set_option maxHeartbeats 4000000 in
set_option maxRecDepth 100000 in
theorem names_walk (w : World) (hE : Env w) : Calls Tryd.prog 3 #[] w (Yes w) := by
  go_enter Tryd.func3, Tryd.ntmps3
  go_wp2_with fail
  refine (Names_any hE).mono ?_
  rintro e w1 ⟨A, cap, rfl, s1, k1⟩
  go_wp2_with fail
  refine (Jumps_k hE k1 15 7 0 0 (Wf.small (by decide) (by decide) (by decide) (by decide)) 7 true false (by decide +kernel) (by decide +kernel) (by decide +kernel)).mono ?_
  rintro e w2 ⟨rfl, k2⟩
  have K2 := (k1.trans k2).alloc #[.int .i64 0, .int .i64 2] 3
  have S2 := (s1.kp k2).kp ((Kp.refl w2).alloc #[.int .i64 0, .int .i64 2] 3)
  clear k1 k2 s1
  go_wp2_with fail
  refine (Effect_k hE K2 17 2 0 0 (Wf.small (by decide) (by decide) (by decide) (by decide)) _ 2 2 two (two_in w2) 0 0 false (by decide +kernel) (by decide +kernel) (by decide +kernel)).mono ?_
  rintro e w3 ⟨rfl, k3⟩
  have K3 := K2.trans k3
  have S3 := S2.kp k3
  clear K2 k3 S2
  go_wp2_with fail
  refine (lives_yes (hE.kept K3)).mono ?_
  rintro e w4 ⟨rfl, k4⟩
  have K4 := K3.trans k4
  have S4 := S3.kp k4
  clear K3 k4 S3
  rcases S4 with hs | ⟨b, off, hb, ⟨sz, at'⟩⟩
  · exact absurd (congrArg List.length hs) (by decide)
  simp only [Option.some.injEq, Addr.mk.injEq, and_true] at hb
  obtain ⟨rfl, rfl⟩ := hb
  have g0 : w4.cell? ⟨A, 0, none⟩ = some (.string (bytesOf [104, 97, 108, 116])) := by
    have := at' 0 (by decide)
    rw [this]; rfl
  have g23 : w4.cell? ⟨A, 23, none⟩ = some (.string (bytesOf [101, 110, 100])) := by
    have := at' 23 (by decide)
    rw [Nat.zero_add] at this
    rw [this]; rfl
  have t0 := bytesOf_toList [104, 97, 108, 116]
  have t23 := bytesOf_toList [101, 110, 100]
  clear at'
  go_wp2_with fail
  refine (Check_k hE K4 0 0 0 0 2 (Wf.small (by decide) (by decide) (by decide) (by decide)) (by decide +kernel)).mono ?_
  rintro e w5 ⟨rfl, k5⟩
  have K5 := K4.trans k5
  go_wp2_with fail
  refine (Check_k hE K5 2 4294967295 0 0 0 (Wf.small (by decide) (by decide) (by decide) (by decide)) (by decide +kernel)).mono ?_
  rintro e w6 ⟨rfl, k6⟩
  have K6 := K5.trans k6
  go_wp2_with fail
  refine (Check_k hE K6 4 1048577 0 0 2 (Wf.small (by decide) (by decide) (by decide) (by decide)) (by decide +kernel)).mono ?_
  rintro e w7 ⟨rfl, k7⟩
  go_wp2
  go_ret
  exact ⟨rfl, K6.trans k7⟩
end Co
end Go.Proofs.YtehmpakcfahmaaaDoor
