/-
  WALKS: the document's own answers of layer 3: what stands between blanks; texts compared. Own work.
-/
import Derived.Test.YtehmpakcfahmaaaDoorCoNames
import Derived.Test.YtehmpakcfahmaaaDoorCoNumFacts
import Derived.Deep.RegionHeld3
import Derived.IntWalk
import Derived.StillTailTactics
import Derived.Outline
namespace Go.Proofs.YtehmpakcfahmaaaDoor
namespace Co
open Go.RowKit Go
set_option linter.unusedVariables false

def stepP (l : List (List UInt8)) (c : UInt8) : List (List UInt8) := if c = 32 then l ++ [[]] else l.dropLast ++ [l.getLastD [] ++ [c]]
/-- What stands between blanks. -/
def spl (t : List UInt8) : List (List UInt8) := t.foldl stepP [[]]
theorem stepP_yes {l : List (List UInt8)} {c : UInt8} (h : c = 32) : stepP l c = l ++ [[]] := by unfold stepP; rw [if_pos h]
theorem stepP_no {l : List (List UInt8)} {c : UInt8} (h : c ≠ 32) : stepP l c = l.dropLast ++ [l.getLastD [] ++ [c]] := by unfold stepP; rw [if_neg h]
/-- Pieces of at most k bytes, at least one, at most k + 1. -/
structure Okp (l : List (List UInt8)) (k : Nat) : Prop where
  pos : 1 ≤ l.length
  len : l.length ≤ k + 1
  each : ∀ p ∈ l, p.length ≤ k
theorem Okp.step {l : List (List UInt8)} {k : Nat} (h : Okp l k) (c : UInt8) : Okp (stepP l c) (k + 1) := by
  obtain ⟨h1, h2, h3⟩ := h
  unfold stepP
  split
  · refine ⟨by simp, by simp; omega, fun p hp => ?_⟩
    rw [List.mem_append] at hp
    rcases hp with hp | hp
    · have := h3 p hp; omega
    · simp at hp; subst hp; simp
  · refine ⟨by simp, by simp; omega, fun p hp => ?_⟩
    rw [List.mem_append] at hp
    rcases hp with hp | hp
    · have := h3 p (List.dropLast_subset _ hp); omega
    · simp at hp
      subst hp
      have hne : l ≠ [] := by intro e; subst e; simp at h1
      have hm : l.getLastD [] ∈ l := by
        rw [List.getLastD_eq_getLast?, List.getLast?_eq_some_getLast hne]
        exact List.getLast_mem hne
      have := h3 _ hm
      rw [List.length_append]
      simpa using this
theorem Okp.start : Okp [[]] 0 := ⟨by simp, by simp, by simp⟩
theorem last_at {l : List (List UInt8)} (h : 1 ≤ l.length) : l[l.length - 1]? = some (l.getLastD []) := by
  have hne : l ≠ [] := by intro e; subst e; simp at h
  rw [List.getLastD_eq_getLast?, ← List.getLast?_eq_getElem?, List.getLast?_eq_some_getLast hne]
  rfl
theorem strs_len (l : List (List UInt8)) : (strs l).length = l.length := by simp [strs]
theorem strs_snoc (l : List (List UInt8)) (y : List UInt8) : strs (l ++ [y]) = strs l ++ [.string (bytesOf y)] := by simp [strs]
theorem strs_last {l : List (List UInt8)} (h : 1 ≤ l.length) : (strs l)[l.length - 1]? = some (.string (bytesOf (l.getLastD []))) := by
  unfold strs; rw [List.getElem?_map, last_at h]; rfl
theorem strs_set {l : List (List UInt8)} (h : 1 ≤ l.length) (y : List UInt8) : (strs l).set (l.length - 1) (.string (bytesOf y)) = strs (l.dropLast ++ [y]) := by
  have hne : l ≠ [] := by intro e; subst e; simp at h
  have e : strs l = strs l.dropLast ++ [.string (bytesOf (l.getLast hne))] := by rw [← strs_snoc, List.dropLast_concat_getLast hne]
  rw [e, strs_snoc, List.set_append_right _ _ (by rw [strs_len, List.length_dropLast]; omega), strs_len, List.length_dropLast, Nat.sub_self]
  rfl


theorem own_slice {w : World} {B : Nat} {T : TypeId} {v : Value} {n : Nat} {xs : List Value} (h : w.ownsRow B T 1 v n xs) (hn : 0 < n) : ∃ A cap, v = .slice (some ⟨A, 0, none⟩) n cap := by
  obtain ⟨hlen, h | ⟨g, cap, cur, hv, _⟩⟩ := h
  · omega
  · exact ⟨g, cap, hv⟩
theorem byte_at (t : List UInt8) {k : Nat} (h : k < t.length) (h' : k < (bytesOf t).size) : (bytesOf t)[k]'h' = t[k] := by
  show (bytesOf t).data[k] = t[k]
  simp [bytesOf]
  rfl
theorem byte_one (t : List UInt8) {k : Nat} (h : k < t.length) : (bytesOf t).extract k (k + 1) = bytesOf [t[k]] := by
  apply ByteArray.ext
  rw [ByteArray.data_extract]
  apply Array.toList_inj.mp
  simp only [bytesOf, Array.toList_extract, List.extract]
  rw [show k + 1 - k = 1 by omega, List.drop_eq_getElem_cons h]
  rfl
theorem fold_step (t : List UInt8) {k : Nat} (h : k < t.length) : (t.take (k + 1)).foldl stepP [[]] = stepP ((t.take k).foldl stepP [[]]) t[k] := by
  rw [List.take_succ_eq_append_getElem h, List.foldl_append]; rfl

set_option maxHeartbeats 4000000 in
set_option maxRecDepth 100000 in
/-- pieces: what stands between blanks. -/
theorem pieces_any (t : List UInt8) (w : World) (ht : (bytesOf t).size ≤ 2 ^ 63 - 1) (hsm : t.length ≤ 2 ^ 40) : Calls Tryd.prog 28 #[.string (bytesOf t)] w (fun e w' => ∃ A cap, e = .returned (.slice (some ⟨A, 0, none⟩) (spl t).length cap) ∧ SIn w' (some ⟨A, 0, none⟩) (spl t) ∧ Kp w w') := by
  obtain ⟨i0, hi, hz0, hz1, hz2⟩ := info_parts info_string
  have hsz := bytesOf_size t
  go_enter Tryd.func28, Tryd.ntmps28
  go_wp2
  go_loopw [3, 4] (fun v i wr => ∃ k : Nat, k ≤ t.length ∧ i = .int .i64 k ∧ wr.ownsRow w.heap.size 9 1 v ((t.take k).foldl stepP [[]]).length (strs ((t.take k).foldl stepP [[]])) ∧ Okp ((t.take k).foldl stepP [[]]) k ∧ Kp w wr) (fun _ i _ => t.length + 1 - (intOf i).toNat)
  case atStart =>
    refine ⟨0, by omega, rfl, ?_, Okp.start, (Kp.refl w).alloc _ _⟩
    refine ⟨rfl, .inr ⟨w.heap.size, 1, #[.string (bytesOf [])], rfl, Nat.le_refl _, ?_, Nat.le_refl _, by decide, rfl, rfl⟩⟩
    exact Array.getElem?_push_size
  case round =>
    obtain ⟨k, hk, rfl, hown, hok, kr⟩ := hrel
    by_cases hlt : k < t.length
    · have hbs : k < (bytesOf t).size := by omega
      have hb := byte_at t hlt hbs
      have h1b := byte_one t hlt
      have htk := fold_step t hlt
      revert hown hok hb h1b htk
      generalize hL : (t.take k).foldl stepP [[]] = L
      generalize hcc : t[k] = c
      intro hown hok hb h1b htk
      obtain ⟨A, cap, rfl⟩ := own_slice hown hok.pos
      have h1l := hok.pos
      have h2l := hok.len
      by_cases hc : c = 32
      · have hq : ((((bytesOf t)[k]'hbs).toNat : Int) == 32) = true := by rw [hb, hc]; rfl
        rw [stepP_yes hc] at htk
        clear hb h1b
        go_wp2_with (at_builtin; refine wpList_append_own _ rfl _ _ 22 rfl w.heap.size 9 i0 (.string ByteArray.empty) 1 16 Tryd.underlying22 hi hz0 hz1 hz2 rfl (by decide) _ _ _ rfl (hown.alloc _) ⟨wr.heap.size, 0, none⟩ 1 1 [.string (bytesOf [])] rfl rfl ?c1 ?c2 ?c3 ?c4 ?c5 ?_)
        case c1 =>
          intro j u hj
          match j, hj with
          | 0, hj => simp at hj; subst hj; simp [Addr.add]; rfl
        case c2 => intro u hu; simp at hu; subst hu; rfl
        case c3 => unfold maxLen; omega
        case c4 => omega
        case c5 => have := kr.size; simp; omega
        intro v' w3 hown' hgrow _
        have hk3 : Kp w w3 := ⟨(kr.alloc _ _).below.grown hgrow (by have := kr.size; simp; omega) (fun q hq => (hown.lt q hq).1)⟩
        rw [← strs_snoc] at hown'
        have hown3 : w3.ownsRow w.heap.size 9 1 v' ((t.take (k + 1)).foldl stepP [[]]).length (strs ((t.take (k + 1)).foldl stepP [[]])) := by
          rw [htk, List.length_append]; exact hown'
        have hok3 := hok.step c
        rw [stepP_yes hc, ← htk] at hok3
        clear hown' hgrow hown htk
        go_wp2
        go_roundw
        case rel => exact ⟨k + 1, by omega, by go_num, hown3, hok3, hk3⟩
        case measure => simp [intOf]; omega
      · have hq : ((((bytesOf t)[k]'hbs).toNat : Int) == 32) = false := by
          rw [hb, beq_eq_false_iff_ne]
          intro e
          exact hc (UInt8.toNat_inj.mp (by have : c.toNat = 32 := by omega
                                           rw [this]; rfl))
        rw [stepP_no hc] at htk
        have hfr := hown.frozenAt (L.length - 1)
        have hce := hown.cellAt (L.length - 1) (by omega)
        rw [strs_last h1l] at hce
        have hok3 := hok.step c
        have hyl : (bytesOf (L.getLastD [])).size ≤ 2 ^ 40 := by
          have := hok.each _ (List.mem_of_getElem? (last_at h1l))
          rw [bytesOf_size]; omega
        have hA := (hown.lt A rfl).1
        have hstore := fun y' => ((own_kp hown ((Kp.refl wr).drew)).stored (L.length - 1) (.string (bytesOf y'))).1
        simp only [strs_set h1l] at hstore
        have hbel := fun u => kr.drew.setCell (p := ⟨A, L.length - 1, none⟩) hA u
        rw [stepP_no hc, ← htk] at hok3
        revert hce hyl hok3 htk
        generalize L.getLastD [] = y
        intro htk hce hok3 hyl
        have h1s : (bytesOf [c]).size = 1 := bytesOf_size _
        have HS := Lib.hid hstore
        have HK := Lib.hid htk
        have HP := Lib.hid hok3
        have HB := Lib.hid hbel
        clear hb hok hok3 hstore htk hown hbel
        go_wp2_with fail
        go_region
        go_wp2
        go_roundw
        case rel =>
          refine ⟨k + 1, by omega, by go_num, ?_, HP.out, HB.out _⟩
          rw [HK.out, List.length_append, List.length_dropLast]
          simp only [List.length_singleton, Nat.sub_add_cancel h1l]
          have e : bytesOf y ++ bytesOf [c] = bytesOf (y ++ [c]) := bytesOf_append _ _
          rw [e]
          exact HS.out _
        case measure => simp [intOf]; omega
    · obtain rfl : k = t.length := by omega
      rw [List.take_length] at hown hok
      obtain ⟨A, cap, rfl, hs⟩ := own_texts' hown hok.pos
      go_wp2
      go_ret
      exact ⟨A, cap, rfl, hs, kr⟩
end Co
end Go.Proofs.YtehmpakcfahmaaaDoor
