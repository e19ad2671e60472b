/-
  WALKS: the kit's Own: bytes copied. Own work.
-/
import Derived.Test.YtaeblnlbelebkaaDoorImText
import Derived.Test.YtaeblnlbelebkaaDoorImWrite
import Derived.Laws.AppendOwnNone
namespace Go.Proofs.YtaeblnlbelebkaaDoor
namespace Im
open Go.RowKit Go
open Co (Kp ret_int ret_bool ret2_int)
set_option linter.unusedVariables false

theorem info_B : (Tryd.prog.info? 5).map (fun i => (i.zero, i.size, i.bytes)) = some (some (.int .u8 0), 1, 1) := by kernel_rfl
/-- A row of bytes, as what Read takes. -/
theorem ow_in {w : World} {B : Nat} {v : Value} {l : List UInt8} (h : Ow w B v l) : ∃ ao cap, v = .slice ao l.length cap ∧ BIn w w.heap.size ao l ∧ l.length ≤ cap ∧ cap ≤ 9223372036854775807 ∧ (ao = none → cap = 0) := by
  obtain ⟨ao, cap, e, hn, hm, ha⟩ := own_form h
  refine ⟨ao, cap, e, ?_, hn, hm, ?_⟩
  · cases ao with
    | none =>
      rcases h.2 with ⟨_, h0⟩ | ⟨g, _, _, e2, _⟩
      · exact .inl h0
      · rw [e] at e2; simp at e2
    | some a =>
      obtain ⟨g, rfl, _, hg⟩ := ha a rfl
      subst e
      refine .inr ⟨g, 0, rfl, hg, hg, fun i hi => ?_⟩
      have := h.cells (g := g) rfl i _ (by unfold byc; rw [List.getElem?_map, List.getElem?_eq_getElem hi]; rfl)
      rw [show (⟨g, 0, none⟩ : Addr).add i = ⟨g, 0 + i, none⟩ by simp [Addr.add]; exact fun e => e.symm] at this
      rw [this, List.getD_eq_getElem?_getD, List.getElem?_eq_getElem hi]
      rfl
  · rintro rfl
    rcases h.2 with ⟨e2, _⟩ | ⟨g, _, _, e2, _⟩
    · rw [e] at e2; simp at e2; exact e2.2
    · rw [e] at e2; simp at e2
/-- What Own answers. -/
def OwP (w : World) (l : List UInt8) (e : Ending) (w' : World) : Prop := ∃ v, e = .returned v ∧ Ow w' w.heap.size v l ∧ Kp w w'
set_option maxHeartbeats 1000000 in
set_option maxRecDepth 100000 in
theorem Own_any {w : World} {R : Nat} {ao : Option Addr} {cap : Nat} {l : List UInt8} (hb : BIn w R ao l) (hz : ao = none → cap = 0) (hl : l.length ≤ 140737488355327) :
    Calls Tryd.prog 17 #[.slice ao l.length cap] w (OwP w l) := by
  obtain ⟨i0, hi, hz0, hz1, hz2⟩ := info_parts info_B
  have hm0 := World.ownsRow_made (base := w.heap.size) (e := 5) (size := 1) w #[] 0 (Nat.le_refl _) (by decide) rfl
  have K1 := Lib.hid ((Kp.refl w).alloc #[] 5)
  cases ao with
  | none =>
    have h0 : l.length = 0 := by
      rcases hb with h | ⟨b, off, e, _⟩
      · exact h
      · cases e
    obtain rfl := List.eq_nil_of_length_eq_zero h0
    obtain rfl := hz rfl
    clear hb h0 hl
    go_enter Tryd.func17, Tryd.ntmps17
    go_wp2_with (at_builtin; refine wpList_append_own_none rfl _ _ 45 rfl w.heap.size 5 i0 1 Tryd.underlying45 hi _ _ _ rfl hm0 rfl ?_)
    go_ret
    exact ⟨_, rfl, hm0, K1.out⟩
  | some a =>
    have HNW : Hid (∀ (j : Nat) (u : Value), (byc l)[j]? = some u → (w.alloc (.cells #[] 5)).cell? (a.add j) = some u) := Lib.hid (by
      intro j u hj
      have hjl : j < l.length := by
        rcases Nat.lt_or_ge j l.length with h | h
        · exact h
        · rw [List.getElem?_eq_none (by unfold byc; simpa using h)] at hj; cases hj
      rcases hb with h | ⟨b, off, e, _, g⟩
      · omega
      · obtain rfl := Option.some.inj e
        rw [show (⟨b, off, none⟩ : Addr).add j = ⟨b, off + j, none⟩ by simp [Addr.add]]
        rw [((Kp.refl w).alloc #[] 5).cells _ _ g.size, g.at' j hjl]
        unfold byc at hj
        rw [List.getElem?_map, List.getElem?_eq_getElem hjl] at hj
        rw [List.getD_eq_getElem?_getD, List.getElem?_eq_getElem hjl]
        exact hj)
    have ONE : Hid (∀ u ∈ byc l, u.oneCell' = true) := Lib.hid (by intro u hu; unfold byc at hu; obtain ⟨b, _, rfl⟩ := List.mem_map.1 hu; rfl)
    have HLN : Hid ((byc l).length = l.length * 1) := Lib.hid (by unfold byc; simp)
    have HL := Lib.hid hl
    have HO : Hid (∀ (v' : Value) (w' : World), w'.ownsRow w.heap.size 5 1 v' (0 + l.length) ([] ++ byc l) → Ow w' w.heap.size v' l) := Lib.hid (fun v' w' h => by rw [Nat.zero_add, List.nil_append] at h; exact h)
    clear hb hl hz
    generalize byc l = bl at *
    generalize l.length = n at *
    go_enter Tryd.func17, Tryd.ntmps17
    go_wp2_with (at_builtin; refine wpList_append_own _ rfl _ _ 45 rfl w.heap.size 5 i0 (.int .u8 0) 1 1 Tryd.underlying45 hi hz0 hz1 hz2 rfl (by decide) _ _ _ rfl hm0 a n cap bl rfl HLN.out HNW.out ONE.out (by unfold maxLen; have := HL.out; omega) (by have := HL.out; omega) (by simp) ?_)
    intro v' w3 hown' hgrow _
    have H3 := Lib.hid (HO.out _ _ (by rw [Nat.zero_add, List.nil_append]; exact hown'))
    have HK := Lib.hid (kp_grown K1.out hgrow (fun q hq => by simp [Value.ownBlock] at hq; omega))
    clear hown' hgrow
    go_wp2
    go_ret
    exact ⟨_, rfl, H3.out, HK.out⟩
end Im
end Go.Proofs.YtaeblnlbelebkaaDoor
