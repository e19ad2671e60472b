/-
  WALKS: package ast: the iterators that a node's children are. Own work.
-/
import Derived.Test.YtbedcplkcaanhaaAsEach
import Derived.Great.BuildSlice
import Derived.ProofKit
namespace Go.Proofs.Ytbedcplkcaanhaa
namespace As
open Go.RowKit Go Rg Go.Shelf
set_option linter.unusedVariables false

/-- A function value that brings the elements of xs, in every world from w on in which what stood lies as it lay. -/
def Seqs (w : World) (base : Nat) (r : Value) (N : Nat) (xs : List Nd) : Prop :=
  ∃ gf lb bs, r = .func (.func gf) #[] lb ∧ (∀ args W, (callFunc gf args).run Try.prog W = .ok (.enter gf args) W) ∧ (∀ b ∈ bs, base ≤ b ∧ b < w.heap.size) ∧
    ∀ W, Below w.heap.size w W → SeqAt Fence.wide Try.prog gf lb (fun e : Nd => #[e.val]) N bs xs W
theorem seqs_of {w w5 : World} {e : Nd} {N m : Nat} (hN : N ≤ w.heap.size) (hk : Nds w N e.ao e.kids) (hc : e.kids.length ≤ e.cap ∧ e.cap ≤ 9223372036854775807) (hm : e.kids.length = m)
    (c1 : w5.cell? ⟨w.heap.size + 1, 0, none⟩ = some (.slice e.ao m e.cap)) (c2 : w5.cell? ⟨w.heap.size + 1 + 1, 0, none⟩ = some (.func (.func 74) #[] #[]))
    (c3 : w5.cell? ⟨w.heap.size + 1 + 1 + 1, 0, none⟩ = some (.slice (some ⟨w.heap.size + 1, 0, none⟩) 1 1)) (z5 : w5.heap.size = w.heap.size + 4) (b5 : Below w.heap.size w w5) :
    Seqs w5 w.heap.size (.func (.func 84) #[] #[.pointer (some ⟨w.heap.size + 1 + 1 + 1, 0, none⟩), .pointer (some ⟨w.heap.size + 1 + 1, 0, none⟩)]) N e.kids := by
  have HE : e.kids = flatL [⟨e.ao, e.cap, e.kids⟩] := by simp [flatL]
  refine ⟨_, _, [w.heap.size + 1, w.heap.size + 1 + 1, w.heap.size + 1 + 1 + 1], rfl, fun args W => by kernel_rfl, fun b hb => ?_, fun W bW => ?_⟩
  · simp only [List.mem_cons, List.not_mem_nil, or_false] at hb
    omega
  · rw [HE]
    have kn : Nds w5 N e.ao e.kids := hk.keep (V := fun _ => False) (Keep.of b5) (fun b hb => hb.elim)
    have kW : Nds W N e.ao e.kids := kn.keep (V := fun _ => False) (Keep.of bW) (fun b hb => hb.elim)
    have hs := bW.size
    refine each_ex (cap := 1) (off := 0) (b := w.heap.size + 1) (by omega) ?_ ?_ (by omega) (by omega) ⟨by omega, ?_, ?_, ?_⟩ (by simp) (by simp) (by simp) (.inl (by simp))
    · exact ((Keep.of (V := fun _ => False) bW).cell (by show w.heap.size + 1 + 1 + 1 < _; omega) (fun h => h)).trans c3
    · exact ((Keep.of (V := fun _ => False) bW).cell (by show w.heap.size + 1 + 1 < _; omega) (fun h => h)).trans c2
    · intro i hi
      obtain rfl : i = 0 := by simpa using hi
      have := ((Keep.of (V := fun _ => False) bW).cell (p := ⟨w.heap.size + 1, 0, none⟩) (by show w.heap.size + 1 < _; omega) (fun h => h)).trans c1
      rw [← hm] at this
      exact this
    · intro i hi
      obtain rfl : i = 0 := by simpa using hi
      exact kW
    · intro i hi
      obtain rfl : i = 0 := by simpa using hi
      show e.kids.length ≤ _
      omega
theorem kids_any (e : Nd) (w : World) {N : Nat} (hN : N ≤ w.heap.size) (hk : Nds w N e.ao e.kids) (hc : e.kids.length ≤ e.cap ∧ e.cap ≤ 9223372036854775807) :
    Calls Try.prog 112 #[e.val] w fun r w' => ∃ v, r = .returned v ∧ Below w.heap.size w w' ∧ Seqs w' w.heap.size v N e.kids := by
  have HK := Lib.hid hk
  have HC := Lib.hid hc
  have HM : Hid (∃ m, e.kids.length = m) := Lib.hid ⟨_, rfl⟩
  clear hk hc
  unfold Nd.val
  obtain ⟨m, hm⟩ := HM.out
  rw [hm]
  have HQ := Lib.hid hm
  clear hm HM
  go_enter Try.func112, Try.ntmps112
  go_wp2
  refine bodyPost_ret (v := .func (.func 84) #[] #[.pointer (some ⟨w.heap.size + 1 + 1 + 1, 0, none⟩), .pointer (some ⟨w.heap.size + 1 + 1, 0, none⟩)]) (by simp [results, Try.results112, go_sem]) rfl ⟨_, rfl, ?_, ?_⟩
  · exact ((((Below.refl _ w).alloc (Nat.le_refl _) _).alloc (by simp) _).alloc (by simp; omega) _).alloc (by simp; omega) _
  · exact seqs_of hN HK.out HC.out HQ.out (by go_simp) (by go_simp) (by go_simp) (by simp) (((((Below.refl _ w).alloc (Nat.le_refl _) _).alloc (by simp) _).alloc (by simp; omega) _).alloc (by simp; omega) _)
end As
end Go.Proofs.Ytbedcplkcaanhaa
