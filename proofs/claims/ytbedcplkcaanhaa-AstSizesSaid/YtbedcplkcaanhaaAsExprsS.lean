/-
  WALKS: package ast: the expressions of a statement, as an iterator. Own work.
-/
import Derived.Test.YtbedcplkcaanhaaAsSeqS
namespace Go.Proofs.Ytbedcplkcaanhaa
namespace As
open Go.RowKit Go Rg Go.Shelf
set_option linter.unusedVariables false

def St.xs (s : St) : List Nd := s.ix.l ++ s.ex.l
theorem seqs_ofE {w w5 : World} {e : St} {N m1 m2 : Nat} (hN : N ≤ w.heap.size) (hh : StIn w N e) (hm1 : e.ix.l.length = m1) (hm2 : e.ex.l.length = m2)
    (c1 : w5.cell? ⟨w.heap.size + 1, 0, none⟩ = some (.slice e.ix.ao m1 e.ix.cap)) (c1' : w5.cell? ⟨w.heap.size + 1, 1, none⟩ = some (.slice e.ex.ao m2 e.ex.cap)) (c2 : w5.cell? ⟨w.heap.size + 1 + 1, 0, none⟩ = some (.func (.func 74) #[] #[]))
    (c3 : w5.cell? ⟨w.heap.size + 1 + 1 + 1, 0, none⟩ = some (.slice (some ⟨w.heap.size + 1, 0, none⟩) 2 2)) (z5 : w5.heap.size = w.heap.size + 4) (b5 : Below w.heap.size w w5) :
    Seqs w5 w.heap.size (.func (.func 84) #[] #[.pointer (some ⟨w.heap.size + 1 + 1 + 1, 0, none⟩), .pointer (some ⟨w.heap.size + 1 + 1, 0, none⟩)]) N e.xs := by
  have HE : e.xs = flatL [⟨e.ix.ao, e.ix.cap, e.ix.l⟩, ⟨e.ex.ao, e.ex.cap, e.ex.l⟩] := by simp [flatL, St.xs]
  refine ⟨_, _, [w.heap.size + 1, w.heap.size + 1 + 1, w.heap.size + 1 + 1 + 1], rfl, fun args W => by kernel_rfl, fun b hb => ?_, fun W bW => ?_⟩
  · simp only [List.mem_cons, List.not_mem_nil, or_false] at hb
    omega
  · rw [HE]
    have kW := (hh.keep (V := fun _ => False) (Keep.of b5) (fun b hb => hb.elim)).keep (V := fun _ => False) (Keep.of bW) (fun b hb => hb.elim)
    have hs := bW.size
    have d1 := ((Keep.of (V := fun _ => False) bW).cell (p := ⟨w.heap.size + 1, 0, none⟩) (by show w.heap.size + 1 < _; omega) (fun h => h)).trans c1
    have d2 := ((Keep.of (V := fun _ => False) bW).cell (p := ⟨w.heap.size + 1, 1, none⟩) (by show w.heap.size + 1 < _; omega) (fun h => h)).trans c1'
    rw [← hm1] at d1
    rw [← hm2] at d2
    refine each_ex (cap := 2) (off := 0) (b := w.heap.size + 1) (by omega) ?_ ?_ (by omega) (by omega) ⟨by omega, ?_, ?_, ?_⟩ (by simp) (by simp) (by simp) (.inl (by simp))
    · exact ((Keep.of (V := fun _ => False) bW).cell (by show w.heap.size + 1 + 1 + 1 < _; omega) (fun h => h)).trans c3
    · exact ((Keep.of (V := fun _ => False) bW).cell (by show w.heap.size + 1 + 1 < _; omega) (fun h => h)).trans c2
    · intro i hi
      rcases two_lt (by simpa using hi) with rfl | rfl
      · exact d1
      · exact d2
    · intro i hi
      rcases two_lt (by simpa using hi) with rfl | rfl
      · exact kW.ix
      · exact kW.ex
    · intro i hi
      rcases two_lt (by simpa using hi) with rfl | rfl
      · exact Nat.le_trans hh.cix.1 hh.cix.2
      · exact Nat.le_trans hh.cex.1 hh.cex.2
theorem exprs_anyS (e : St) (w : World) {N : Nat} (hN : N ≤ w.heap.size) (hh : StIn w N e) :
    Calls Try.prog 56 #[e.val] w fun r w' => ∃ v, r = .returned v ∧ Below w.heap.size w w' ∧ Seqs w' w.heap.size v N e.xs := by
  have HH := Lib.hid hh
  have HM : Hid (∃ m m', e.ix.l.length = m ∧ e.ex.l.length = m') := Lib.hid ⟨_, _, rfl, rfl⟩
  clear hh
  unfold St.val
  obtain ⟨m, m', hm, hm'⟩ := HM.out
  rw [hm, hm']
  have HQ := Lib.hid hm
  have HQ' := Lib.hid hm'
  clear hm hm' HM
  go_enter Try.func56, Try.ntmps56
  go_wp2
  refine bodyPost_ret (v := .func (.func 84) #[] #[.pointer (some ⟨w.heap.size + 1 + 1 + 1, 0, none⟩), .pointer (some ⟨w.heap.size + 1 + 1, 0, none⟩)]) (by simp [results, Try.results56, go_sem]) rfl ⟨_, rfl, ?_, ?_⟩
  · exact ((((Below.refl _ w).alloc (Nat.le_refl _) _).alloc (by simp) _).alloc (by simp; omega) _).alloc (by simp; omega) _
  · exact seqs_ofE hN HH.out HQ.out HQ'.out (by go_simp) (by go_simp) (by go_simp) (by go_simp) (by simp) (((((Below.refl _ w).alloc (Nat.le_refl _) _).alloc (by simp) _).alloc (by simp; omega) _).alloc (by simp; omega) _)
/-- Each statement of a forest lies there. -/
theorem in_flat {w : World} {N : Nat} : ∀ (h : Nat) (T : List St) (d : Int), htS T ≤ h → TreesS w N T → ∀ p ∈ flatS d T, StIn w N p.2 := by
  intro h
  induction h using Nat.strongRecOn with
  | _ h ih =>
    intro T
    induction T with
    | nil => intro d _ _ p hp; simp [flatS] at hp
    | cons x l ihl =>
      intro d hh ht p hp
      rw [htS] at hh
      rw [flatS, flatT1_eq] at hp
      rcases List.mem_append.1 hp with hp | hp
      · rcases List.mem_cons.1 hp with rfl | hp
        · exact (ht x (by simp)).1
        · have := htT_eq x
          exact ih (htS x.kids) (by omega) x.kids (d + 1) (Nat.le_refl _) (TreesS.kids (ht x (by simp))) p hp
      · exact ihl d (by omega) (fun y hy => ht y (by simp [hy])) p hp
end As
end Go.Proofs.Ytbedcplkcaanhaa
