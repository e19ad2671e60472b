/-
  WALKS: package ast: the walk over expressions, as an iterator. Own work.
-/
import Derived.Test.YtbedcplkcaanhaaAsWalk
namespace Go.Proofs.Ytbedcplkcaanhaa
namespace As
open Go.RowKit Go Rg Go.Shelf
set_option linter.unusedVariables false
attribute [local go_sem] Oper.semAt_some

theorem SeqB.later {α : Type} {encs : α → Array Value} {w W : World} {bs : List Nat} {r : Value} {N : Nat} {xs : List α} (h : SeqB encs w bs r N xs) (b : Below w.heap.size w W) : SeqB encs W bs r N xs := by
  obtain ⟨gf, lb, rfl, eg, hbs, hsq⟩ := h
  exact ⟨gf, lb, rfl, eg, fun x hx => Nat.lt_of_lt_of_le (hbs x hx) b.size, fun W' b' => hsq W' (b.trans (b'.mono b.size))⟩
theorem walk_seq {W : World} {bs : List Nat} {r : Value} {N B1 B2 : Nat} {T : List Nd} {d : Int} (hd0 : 0 ≤ d) (hd1 : d + htF T ≤ 9223372036854775807) (hs : SeqB encN W bs r N T) (ht : Trees W N T) (hN : N ≤ W.heap.size)
    (c1 : W.cell? ⟨B1, 0, none⟩ = some r) (c2 : W.cell? ⟨B2, 0, none⟩ = some (.int .i64 d)) (z1 : B1 < W.heap.size) (z2 : B2 < W.heap.size) :
    SeqAt Fence.wide Try.prog 71 #[.pointer (some ⟨B1, 0, none⟩), .pointer (some ⟨B2, 0, none⟩)] encD N (B1 :: B2 :: bs) (flatF d T) W := by
  intro l J Jx V hV hJ hJx hY h0 n
  have HC := Lib.hid (descend_any hY (htF T) T d W bs r [] (Nat.le_refl _) hd0 hd1 hs ht hN (Nat.le_refl _) (fun b hb => ⟨Nat.le_of_not_lt (fun g => (hV b hb).1 (.inl g)), (hV b hb).2, fun e => (hV b hb).1 (.inr (by simp [e]))⟩) hJ hJx h0 (by simp))
  obtain ⟨gf, lb, rfl, _⟩ := hs
  clear hV hJ hJx hY h0 ht
  refine callsIn_of_wp Try.func71 rfl trivial ?_ rfl
  simp only [Try.ntmps71, List.size_toArray, List.length_cons, List.length_nil, Nat.reduceAdd, Nat.reduceSub, Array.replicate_succ, Array.replicate_zero, List.push_toArray, List.append_toArray, List.nil_append, List.cons_append]
  have hent2 : ∀ (args : Array Value) (W' : World), Sem.run Try.prog (callFunc 72 args) W' = .ok (.enter 72 args) W' := fun _ _ => by kernel_rfl
  gi_wp2
  refine ⟨trivial, fun h => (by cases h), ?_⟩
  refine (callsIn_wide.2 HC.out).mono ?_
  rintro e w2 (⟨rfl, j, k⟩ | ⟨rfl, ⟨q, hq, j⟩, k⟩)
  · gi_wp2
    go_end0
    exact ⟨⟨_, rfl⟩, .inl ⟨j, k⟩⟩
  · gi_wp2
    go_end0
    exact ⟨⟨_, rfl⟩, .inr ⟨q, hq, j, k⟩⟩
theorem walk_any {w : World} {bs : List Nat} {r : Value} {N : Nat} {T : List Nd} {d : Int} (hd0 : 0 ≤ d) (hd1 : d + htF T ≤ 9223372036854775807) (hs : SeqB encN w bs r N T) (ht : Trees w N T) (hN : N ≤ w.heap.size) :
    Calls Try.prog 49 #[r, .int .i64 d] w fun e w' => ∃ v, e = .returned v ∧ Below w.heap.size w w' ∧ w'.heap.size = w.heap.size + 2 ∧ SeqB encD w' (w.heap.size :: (w.heap.size + 1) :: bs) v N (flatF d T) := by
  have HS := Lib.hid hs
  have HT := Lib.hid ht
  obtain ⟨gf, lb, rfl, _⟩ := hs
  clear ht
  go_enter Try.func49, Try.ntmps49
  go_wp2
  refine bodyPost_ret (v := .func (.func 71) #[] #[.pointer (some ⟨w.heap.size, 0, none⟩), .pointer (some ⟨w.heap.size + 1, 0, none⟩)]) (by simp [results, Try.results49, go_sem]) rfl ?_
  have c1 : ((w.alloc (.cells #[.func (.func gf) #[] lb] 96)).alloc (.cells #[.int .i64 d] 3)).cell? ⟨w.heap.size, 0, none⟩ = some (.func (.func gf) #[] lb) := by go_simp
  have c2 : ((w.alloc (.cells #[.func (.func gf) #[] lb] 96)).alloc (.cells #[.int .i64 d] 3)).cell? ⟨w.heap.size + 1, 0, none⟩ = some (.int .i64 d) := by go_simp
  have z : ((w.alloc (.cells #[.func (.func gf) #[] lb] 96)).alloc (.cells #[.int .i64 d] 3)).heap.size = w.heap.size + 2 := by simp
  have b : Below w.heap.size w ((w.alloc (.cells #[.func (.func gf) #[] lb] 96)).alloc (.cells #[.int .i64 d] 3)) := ((Below.refl _ w).alloc (Nat.le_refl _) _).alloc (by simp) _
  generalize (w.alloc (.cells #[.func (.func gf) #[] lb] 96)).alloc (.cells #[.int .i64 d] 3) = w2 at *
  refine ⟨_, rfl, b, z, _, _, rfl, fun args W => by kernel_rfl, fun x hx => ?_, fun W bW => ?_⟩
  · rcases List.mem_cons.1 hx with rfl | hx
    · omega
    rcases List.mem_cons.1 hx with rfl | hx
    · omega
    obtain ⟨_, _, _, _, hb, _⟩ := HS.out
    have := hb x hx
    omega
  · have hz := bW.size
    have t2 : Trees W N T := (HT.out.keep (V := fun _ => False) (Keep.of b) (fun _ h => h.elim)).keep (V := fun _ => False) (Keep.of bW) (fun _ h => h.elim)
    exact walk_seq hd0 hd1 ((HS.out.later b).later bW) t2 (by omega) ((World.cell?_of_block (w := w2) (bW.block _ (by show w.heap.size < _; omega))).trans c1) ((World.cell?_of_block (w := w2) (bW.block _ (by show w.heap.size + 1 < _; omega))).trans c2) (by omega) (by omega)
end As
end Go.Proofs.Ytbedcplkcaanhaa
