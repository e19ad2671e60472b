/-
  WALKS: package ast: the walk over statements, as an iterator. Own work.
-/
import Derived.Test.YtbedcplkcaanhaaAsWalkS
import Derived.Test.YtbedcplkcaanhaaAsSeq
namespace Go.Proofs.Ytbedcplkcaanhaa
namespace As
open Go.RowKit Go Rg Go.Shelf
set_option linter.unusedVariables false
attribute [local go_sem] Oper.semAt_some

theorem walk_seqS {W : World} {bs : List Nat} {r : Value} {N B1 B2 : Nat} {T : List St} {d : Int} (hd0 : 0 ≤ d) (hd1 : d + htS T ≤ 9223372036854775807) (hs : SeqB encNS W bs r N T) (ht : TreesS W N T) (hN : N ≤ W.heap.size)
    (c1 : W.cell? ⟨B1, 0, none⟩ = some r) (c2 : W.cell? ⟨B2, 0, none⟩ = some (.int .i64 d)) (z1 : B1 < W.heap.size) (z2 : B2 < W.heap.size) :
    SeqAt Fence.wide Try.prog 77 #[.pointer (some ⟨B1, 0, none⟩), .pointer (some ⟨B2, 0, none⟩)] encDS N (B1 :: B2 :: bs) (flatS d T) W := by
  intro l J Jx V hV hJ hJx hY h0 n
  have HC := Lib.hid (descend_anyS hY (htS T) T d W bs r [] (Nat.le_refl _) hd0 hd1 hs ht hN (Nat.le_refl _) (fun b hb => ⟨Nat.le_of_not_lt (fun g => (hV b hb).1 (.inl g)), (hV b hb).2, fun e => (hV b hb).1 (.inr (by simp [e]))⟩) hJ hJx h0 (by simp))
  obtain ⟨gf, lb, rfl, _⟩ := hs
  clear hV hJ hJx hY h0 ht
  refine callsIn_of_wp Try.func77 rfl trivial ?_ rfl
  simp only [Try.ntmps77, List.size_toArray, List.length_cons, List.length_nil, Nat.reduceAdd, Nat.reduceSub, Array.replicate_succ, Array.replicate_zero, List.push_toArray, List.append_toArray, List.nil_append, List.cons_append]
  have hent2 : ∀ (args : Array Value) (W' : World), Sem.run Try.prog (callFunc 78 args) W' = .ok (.enter 78 args) W' := fun _ _ => by kernel_rfl
  gi_wp2
  refine ⟨trivial, fun h => (by cases h), ?_⟩
  refine (callsIn_wide.2 HC.out).mono ?_
  rintro e w2 (⟨rfl, j, k⟩ | ⟨rfl, ⟨q, hq, j⟩, k⟩)
  · gi_wp2
    go_end0
    exact ⟨⟨_, rfl⟩, .inl ⟨j, k⟩⟩
  · gi_wp2
    go_end0
    exact ⟨⟨_, rfl⟩, .inr ⟨q, hq, j, k⟩⟩
theorem walk_anyS {w : World} {bs : List Nat} {r : Value} {N : Nat} {T : List St} {d : Int} (hd0 : 0 ≤ d) (hd1 : d + htS T ≤ 9223372036854775807) (hs : SeqB encNS w bs r N T) (ht : TreesS w N T) (hN : N ≤ w.heap.size) :
    Calls Try.prog 55 #[r, .int .i64 d] w fun e w' => ∃ v, e = .returned v ∧ Below w.heap.size w w' ∧ w'.heap.size = w.heap.size + 2 ∧ SeqB encDS w' (w.heap.size :: (w.heap.size + 1) :: bs) v N (flatS d T) := by
  have HS := Lib.hid hs
  have HT := Lib.hid ht
  obtain ⟨gf, lb, rfl, _⟩ := hs
  clear ht
  go_enter Try.func55, Try.ntmps55
  go_wp2
  refine bodyPost_ret (v := .func (.func 77) #[] #[.pointer (some ⟨w.heap.size, 0, none⟩), .pointer (some ⟨w.heap.size + 1, 0, none⟩)]) (by simp [results, Try.results55, go_sem]) rfl ?_
  have c1 : ((w.alloc (.cells #[.func (.func gf) #[] lb] 69)).alloc (.cells #[.int .i64 d] 3)).cell? ⟨w.heap.size, 0, none⟩ = some (.func (.func gf) #[] lb) := by go_simp
  have c2 : ((w.alloc (.cells #[.func (.func gf) #[] lb] 69)).alloc (.cells #[.int .i64 d] 3)).cell? ⟨w.heap.size + 1, 0, none⟩ = some (.int .i64 d) := by go_simp
  have z : ((w.alloc (.cells #[.func (.func gf) #[] lb] 69)).alloc (.cells #[.int .i64 d] 3)).heap.size = w.heap.size + 2 := by simp
  have b : Below w.heap.size w ((w.alloc (.cells #[.func (.func gf) #[] lb] 69)).alloc (.cells #[.int .i64 d] 3)) := ((Below.refl _ w).alloc (Nat.le_refl _) _).alloc (by simp) _
  generalize (w.alloc (.cells #[.func (.func gf) #[] lb] 69)).alloc (.cells #[.int .i64 d] 3) = w2 at *
  refine ⟨_, rfl, b, z, _, _, rfl, fun args W => by kernel_rfl, fun x hx => ?_, fun W bW => ?_⟩
  · rcases List.mem_cons.1 hx with rfl | hx
    · omega
    rcases List.mem_cons.1 hx with rfl | hx
    · omega
    obtain ⟨_, _, _, _, hb, _⟩ := HS.out
    have := hb x hx
    omega
  · have hz := bW.size
    have t2 : TreesS W N T := (HT.out.keep (V := fun _ => False) (Keep.of b) (fun _ h => h.elim)).keep (V := fun _ => False) (Keep.of bW) (fun _ h => h.elim)
    exact walk_seqS hd0 hd1 ((HS.out.later b).later bW) t2 (by omega) ((World.cell?_of_block (w := w2) (bW.block _ (by show w.heap.size < _; omega))).trans c1) ((World.cell?_of_block (w := w2) (bW.block _ (by show w.heap.size + 1 < _; omega))).trans c2) (by omega) (by omega)
end As
end Go.Proofs.Ytbedcplkcaanhaa
