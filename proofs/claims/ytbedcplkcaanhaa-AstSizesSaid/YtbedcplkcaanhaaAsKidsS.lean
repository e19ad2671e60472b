/-
  WALKS: package ast: the iterators that a statement's children are. Own work.
-/
import Derived.Test.YtbedcplkcaanhaaAsEachS
import Derived.Test.YtbedcplkcaanhaaAsKids
namespace Go.Proofs.Ytbedcplkcaanhaa
namespace As
open Go.RowKit Go Rg Go.Shelf
set_option linter.unusedVariables false

def St.kids (s : St) : List St := s.th ++ s.el
/-- A function value that brings the elements of xs, in every world from w on in which what stood lies as it lay. -/
def SeqsS (w : World) (base : Nat) (r : Value) (N : Nat) (xs : List St) : Prop :=
  ∃ gf lb bs, r = .func (.func gf) #[] lb ∧ (∀ args W, (callFunc gf args).run Try.prog W = .ok (.enter gf args) W) ∧ (∀ b ∈ bs, base ≤ b ∧ b < w.heap.size) ∧
    ∀ W, Below w.heap.size w W → SeqAt Fence.wide Try.prog gf lb (fun e : St => #[e.val]) N bs xs W
theorem two_lt {i : Nat} (h : i < 2) : i = 0 ∨ i = 1 := by omega
theorem seqs_ofS {w w5 : World} {e : St} {N m1 m2 : Nat} (hN : N ≤ w.heap.size) (hk : Sts w N e.ta e.th) (hq : Sts w N e.la e.el) (hc : Capd e.th.length e.tc) (hd : Capd e.el.length e.lc) (hm1 : e.th.length = m1) (hm2 : e.el.length = m2)
    (c1 : w5.cell? ⟨w.heap.size + 1, 0, none⟩ = some (.slice e.ta m1 e.tc)) (c1' : w5.cell? ⟨w.heap.size + 1, 1, none⟩ = some (.slice e.la m2 e.lc)) (c2 : w5.cell? ⟨w.heap.size + 1 + 1, 0, none⟩ = some (.func (.func 68) #[] #[]))
    (c3 : w5.cell? ⟨w.heap.size + 1 + 1 + 1, 0, none⟩ = some (.slice (some ⟨w.heap.size + 1, 0, none⟩) 2 2)) (z5 : w5.heap.size = w.heap.size + 4) (b5 : Below w.heap.size w w5) :
    SeqsS w5 w.heap.size (.func (.func 83) #[] #[.pointer (some ⟨w.heap.size + 1 + 1 + 1, 0, none⟩), .pointer (some ⟨w.heap.size + 1 + 1, 0, none⟩)]) N e.kids := by
  have HE : e.kids = flatT [⟨e.ta, e.tc, e.th⟩, ⟨e.la, e.lc, e.el⟩] := by simp [flatT, St.kids]
  refine ⟨_, _, [w.heap.size + 1, w.heap.size + 1 + 1, w.heap.size + 1 + 1 + 1], rfl, fun args W => by kernel_rfl, fun b hb => ?_, fun W bW => ?_⟩
  · simp only [List.mem_cons, List.not_mem_nil, or_false] at hb
    omega
  · rw [HE]
    have kW : Sts W N e.ta e.th := (hk.keep (V := fun _ => False) (Keep.of b5) (fun b hb => hb.elim)).keep (V := fun _ => False) (Keep.of bW) (fun b hb => hb.elim)
    have kQ : Sts W N e.la e.el := (hq.keep (V := fun _ => False) (Keep.of b5) (fun b hb => hb.elim)).keep (V := fun _ => False) (Keep.of bW) (fun b hb => hb.elim)
    have hs := bW.size
    have d1 := ((Keep.of (V := fun _ => False) bW).cell (p := ⟨w.heap.size + 1, 0, none⟩) (by show w.heap.size + 1 < _; omega) (fun h => h)).trans c1
    have d2 := ((Keep.of (V := fun _ => False) bW).cell (p := ⟨w.heap.size + 1, 1, none⟩) (by show w.heap.size + 1 < _; omega) (fun h => h)).trans c1'
    rw [← hm1] at d1
    rw [← hm2] at d2
    refine each_st (cap := 2) (off := 0) (b := w.heap.size + 1) (by omega) (ao := some ⟨w.heap.size + 1, 0, none⟩) ?_ (.inr rfl) ?_ (by omega) (by omega) ⟨.inr (by omega), ?_, ?_, ?_⟩ (by simp) (by simp) (by simp) (.inr (.inl (by simp)))
    · exact ((Keep.of (V := fun _ => False) bW).cell (by show w.heap.size + 1 + 1 + 1 < _; omega) (fun h => h)).trans c3
    · exact ((Keep.of (V := fun _ => False) bW).cell (by show w.heap.size + 1 + 1 < _; omega) (fun h => h)).trans c2
    · intro i hi
      rcases two_lt (by simpa using hi) with rfl | rfl
      · exact d1
      · exact d2
    · intro i hi
      rcases two_lt (by simpa using hi) with rfl | rfl
      · exact kW
      · exact kQ
    · intro i hi
      rcases two_lt (by simpa using hi) with rfl | rfl
      · exact Nat.le_trans hc.1 hc.2
      · exact Nat.le_trans hd.1 hd.2
theorem kids_anyS (e : St) (w : World) {N : Nat} (hN : N ≤ w.heap.size) (hh : StIn w N e ∧ Sts w N e.ta e.th ∧ Sts w N e.la e.el) :
    Calls Try.prog 118 #[e.val] w fun r w' => ∃ v, r = .returned v ∧ Below w.heap.size w w' ∧ SeqsS w' w.heap.size v N e.kids := by
  have HH := Lib.hid hh
  have HM : Hid (∃ m m', e.th.length = m ∧ e.el.length = m') := Lib.hid ⟨_, _, rfl, rfl⟩
  clear hh
  unfold St.val
  obtain ⟨m, m', hm, hm'⟩ := HM.out
  rw [hm, hm']
  have HQ := Lib.hid hm
  have HQ' := Lib.hid hm'
  clear hm hm' HM
  go_enter Try.func118, Try.ntmps118
  go_wp2
  refine bodyPost_ret (v := .func (.func 83) #[] #[.pointer (some ⟨w.heap.size + 1 + 1 + 1, 0, none⟩), .pointer (some ⟨w.heap.size + 1 + 1, 0, none⟩)]) (by simp [results, Try.results118, go_sem]) rfl ⟨_, rfl, ?_, ?_⟩
  · exact ((((Below.refl _ w).alloc (Nat.le_refl _) _).alloc (by simp) _).alloc (by simp; omega) _).alloc (by simp; omega) _
  · exact seqs_ofS hN HH.out.2.1 HH.out.2.2 HH.out.1.cth HH.out.1.cel HQ.out HQ'.out (by go_simp) (by go_simp) (by go_simp) (by go_simp) (by simp) (((((Below.refl _ w).alloc (Nat.le_refl _) _).alloc (by simp) _).alloc (by simp; omega) _).alloc (by simp; omega) _)
end As
end Go.Proofs.Ytbedcplkcaanhaa
