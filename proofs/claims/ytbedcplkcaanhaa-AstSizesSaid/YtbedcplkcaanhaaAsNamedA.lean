/-
  STEPS for the law AstNamed: texts appended to a full list or to one's own, an expression loaded. Own work.
-/
import Derived.Test.YtbedcplkcaanhaaAsNamedF
import Derived.Test.YtbedcplkcaanhaaAsNames
import Derived.Test.YtbedcplkcaanhaaOp
import Derived.ArgAppend
namespace Go.Proofs.Ytbedcplkcaanhaa
namespace As
open Go.RowKit Go Go.Shelf
set_option linter.unusedVariables false

def oE (e : Nd) : Obj := .cells #[.int .i64 e.k, .int .i64 e.o, .int .i64 e.t, .int .u32 e.n, .string (bytesOf e.nm), .slice e.ao e.kids.length e.cap] 25
def oE2 (e f : Nd) : Obj := .cells #[.int .i64 e.k, .int .i64 e.o, .int .i64 e.t, .int .u32 e.n, .string (bytesOf e.nm), .slice e.ao e.kids.length e.cap, .int .i64 f.k, .int .i64 f.o, .int .i64 f.t, .int .u32 f.n, .string (bytesOf f.nm), .slice f.ao f.kids.length f.cap] 25
theorem row2_1 (w : World) (o1 o2 : Obj) : ((w.alloc o1).alloc o2).heap[w.heap.size + 1]? = some o2 := by
  have := World.alloc_heap_new (w.alloc o1) o2
  simpa using this
/-- The closure that makes an index. -/
theorem index_any (g : List UInt8) (e : Nd) (pe : Nat) (w : World) (he : w.heap[pe]? = some (oE e)) :
    Calls Try.prog 30 #[.string (bytesOf g), .pointer (some ⟨pe, 0, none⟩)] w fun r w' => r = .returned (nI g (w.heap.size + 1) e).val ∧ Below w.heap.size w w' ∧ w'.heap[w.heap.size + 1]? = some (oE e) := by
  have hz : pe < w.heap.size := (Array.getElem?_eq_some_iff.1 he).1
  unfold oE at *
  have x0 : w.cell? ⟨pe, 0, none⟩ = some (.int .i64 e.k) := by simp [World.cell?, he]
  have x1 : w.cell? ⟨pe, 1, none⟩ = some (.int .i64 e.o) := by simp [World.cell?, he]
  have x2 : w.cell? ⟨pe, 2, none⟩ = some (.int .i64 e.t) := by simp [World.cell?, he]
  have x3 : w.cell? ⟨pe, 3, none⟩ = some (.int .u32 e.n) := by simp [World.cell?, he]
  have x4 : w.cell? ⟨pe, 4, none⟩ = some (.string (bytesOf e.nm)) := by simp [World.cell?, he]
  have x5 : w.cell? ⟨pe, 5, none⟩ = some (.slice e.ao e.kids.length e.cap) := by simp [World.cell?, he]
  clear he
  go_enter Try.func30, Try.ntmps30
  go_wp2
  refine bodyPost_ret (v := (nI g (w.heap.size + 1) e).val) (by simp [results, Try.results30, go_sem, nI, Nd.val, Nd.k, Nd.o, Nd.t, Nd.n, Nd.nm, Nd.ao, Nd.cap, Nd.kids]) rfl ⟨rfl, ?_, ?_⟩
  · exact ((Below.refl _ w).alloc (Nat.le_refl _) _).alloc (by simp) _
  · exact row2_1 w _ _
/-- The closure that makes a call. -/
theorem call_any (g : List UInt8) (e f : Nd) (pe pf : Nat) (w : World) (he : w.heap[pe]? = some (oE e)) (hf : w.heap[pf]? = some (oE f)) :
    Calls Try.prog 29 #[.string (bytesOf g), .pointer (some ⟨pe, 0, none⟩), .pointer (some ⟨pf, 0, none⟩)] w fun r w' => r = .returned (nC g (w.heap.size + 1) e f).val ∧ Below w.heap.size w w' ∧ w'.heap[w.heap.size + 1]? = some (oE2 e f) := by
  have hz : pe < w.heap.size := (Array.getElem?_eq_some_iff.1 he).1
  have hz2 : pf < w.heap.size := (Array.getElem?_eq_some_iff.1 hf).1
  unfold oE at *
  unfold oE2
  have x0 : w.cell? ⟨pe, 0, none⟩ = some (.int .i64 e.k) := by simp [World.cell?, he]
  have x1 : w.cell? ⟨pe, 1, none⟩ = some (.int .i64 e.o) := by simp [World.cell?, he]
  have x2 : w.cell? ⟨pe, 2, none⟩ = some (.int .i64 e.t) := by simp [World.cell?, he]
  have x3 : w.cell? ⟨pe, 3, none⟩ = some (.int .u32 e.n) := by simp [World.cell?, he]
  have x4 : w.cell? ⟨pe, 4, none⟩ = some (.string (bytesOf e.nm)) := by simp [World.cell?, he]
  have x5 : w.cell? ⟨pe, 5, none⟩ = some (.slice e.ao e.kids.length e.cap) := by simp [World.cell?, he]
  have y0 : w.cell? ⟨pf, 0, none⟩ = some (.int .i64 f.k) := by simp [World.cell?, hf]
  have y1 : w.cell? ⟨pf, 1, none⟩ = some (.int .i64 f.o) := by simp [World.cell?, hf]
  have y2 : w.cell? ⟨pf, 2, none⟩ = some (.int .i64 f.t) := by simp [World.cell?, hf]
  have y3 : w.cell? ⟨pf, 3, none⟩ = some (.int .u32 f.n) := by simp [World.cell?, hf]
  have y4 : w.cell? ⟨pf, 4, none⟩ = some (.string (bytesOf f.nm)) := by simp [World.cell?, hf]
  have y5 : w.cell? ⟨pf, 5, none⟩ = some (.slice f.ao f.kids.length f.cap) := by simp [World.cell?, hf]
  clear he hf
  go_enter Try.func29, Try.ntmps29
  go_wp2
  refine bodyPost_ret (v := (nC g (w.heap.size + 1) e f).val) (by simp [results, Try.results29, go_sem, nC, Nd.val, Nd.k, Nd.o, Nd.t, Nd.n, Nd.nm, Nd.ao, Nd.cap, Nd.kids]) rfl ⟨rfl, ?_, ?_⟩
  · exact ((Below.refl _ w).alloc (Nat.le_refl _) _).alloc (by simp) _
  · exact row2_1 w _ _
end As
end Go.Proofs.Ytbedcplkcaanhaa
namespace Go.Proofs.Ytbedcplkcaanhaa
namespace As
open Go.RowKit Go Go.Shelf
set_option linter.unusedVariables false

theorem run_append_zero {P : Program} {w : World} {t ty e : TypeId} {i : TypeInfo} (ht : P.underlying t = some (.slice e)) (hi : P.info? e = some i) (base : Option Addr) {n cap : Nat} (hn : n ≤ cap) (ao : Option Addr) (c : Nat) :
    (Builtin.append_ #[t, t] ty #[.slice base n cap, .slice ao 0 c]).run P w = .ok (.slice base n cap) w := by
  have hf : (Builtin.firstCells i.size 0 (.slice ao 0 c)).run P w = .ok #[] w := by
    cases ao with
    | none => exact run_firstCells_none ..
    | some a => exact run_firstCells_some (P := P) w i.size 0 a 0 c [] (by simp) (by simp)
  have hs : ∀ a : Addr, (storeCells a []).run P w = .ok () w := fun a => by simp [storeCells]
  cases base with
  | none => simp [Builtin.append_, run_underlying ht, sizeOf, typeInfo, hi, Builtin.lenOf, hn, hf]
  | some a => simp [Builtin.append_, run_underlying ht, sizeOf, typeInfo, hi, Builtin.lenOf, hn, hf, hs]
theorem sin_news {w : World} {ao : Option Addr} {l : List (List UInt8)} (h : SIn w ao l) (hl : 0 < l.length) : ∃ a, ao = some a ∧ ∀ j u, (txV l)[j]? = some u → w.cell? (a.add j) = some u := by
  rcases h with h | ⟨b, off, rfl, hb, hc⟩
  · omega
  · refine ⟨_, rfl, fun j u hj => ?_⟩
    have hlt : j < l.length := by
      have := (List.getElem?_eq_some_iff.1 hj).1
      simpa [txV] using this
    rw [add_pos, hc j hlt]
    unfold txV at hj
    rw [List.getElem?_map, List.getElem?_eq_getElem hlt] at hj
    rw [List.getD_eq_getElem?_getD, List.getElem?_eq_getElem hlt]
    simpa using hj
theorem txV_one (l : List (List UInt8)) : ∀ u ∈ txV l, u.oneCell' = true := by
  intro u hu
  obtain ⟨s, _, rfl⟩ := List.mem_map.1 hu
  rfl
theorem txV_len (l : List (List UInt8)) : (txV l).length = l.length * 1 := by simp [txV]
theorem txV_app (a b : List (List UInt8)) : txV (a ++ b) = txV a ++ txV b := by simp [txV]
/-- Texts appended to a row that is full: nothing that was is written. -/
theorem append_full {w : World} {Z b c : Nat} {cs : Array Value} {l l2 : List (List UInt8)} {ao : Option Addr} (ty : TypeId) (hb : w.heap[b]? = some (.cells cs 9)) (hcs : cs.toList = txV l) (hZ : Z ≤ b) (hs : SIn w ao l2) (hn : l.length + l2.length ≤ 4000000) :
    ∃ r w', (Builtin.append_ #[27, 27] ty #[.slice (some ⟨b, 0, none⟩) l.length l.length, .slice ao l2.length c]).run Try.prog w = .ok r w' ∧ Below w.heap.size w w' ∧ Held Z w' r (l ++ l2) := by
  obtain ⟨i0, hi, hz0, hz1, hz2⟩ := info_parts info_string
  have hbz : b < w.heap.size := (Array.getElem?_eq_some_iff.1 hb).1
  by_cases h0 : l2.length = 0
  · have hl2 : l2 = [] := List.eq_nil_of_length_eq_zero h0
    subst hl2
    refine ⟨_, w, run_append_zero Try.underlying27 hi (some ⟨b, 0, none⟩) (Nat.le_refl _) ao c, Below.refl _ w, ?_⟩
    rw [List.append_nil]
    refine ⟨txV_len l, .inr ⟨b, l.length, cs, rfl, hZ, hb, Nat.le_refl _, by unfold maxLen; omega, ?_, ?_⟩⟩
    · rw [← Array.length_toList, hcs, txV_len]
    · rw [hcs, ← txV_len]; exact List.take_length
  · obtain ⟨a, rfl, hnews⟩ := sin_news hs (by omega)
    obtain ⟨r, w', hr, ho, hg⟩ := run_append_arg_grows (P := Try.prog) (w := w) 27 ty 9 i0 (.string ByteArray.empty) 1 16 Try.underlying27 hi hz0 hz1 hz2 rfl (by decide) ⟨b, 0, none⟩ l.length l.length (txV l) (txV_len l)
      (by
        intro j u hj
        rw [add_pos, Nat.zero_add]
        have e : w.cell? ⟨b, j, none⟩ = cs[j]? := by simp [World.cell?, hb]
        rw [e, ← Array.getElem?_toList, hcs, hj])
      a l2.length c (txV l2) (txV_len l2) hnews (by omega) (by unfold maxLen; omega) (by omega)
    refine ⟨r, w', hr, ⟨hg.os, hg.tape, hg.output, hg.size, fun k hk => hg.block k hk (by simp)⟩, ?_⟩
    refine Held.low (Z := w.heap.size) ?_ (by omega)
    unfold Held
    rw [List.length_append, txV_app]
    exact ho
/-- Texts appended to one's own. -/
theorem append_held {w : World} {Z c : Nat} {v : Value} {l l2 : List (List UInt8)} {ao : Option Addr} (ty : TypeId) (hv : Held Z w v l) (hZ : Z ≤ w.heap.size) (hs : SIn w ao l2) (hn : l.length + l2.length ≤ 4000000) :
    ∃ r w', (Builtin.append_ #[27, 27] ty #[v, .slice ao l2.length c]).run Try.prog w = .ok r w' ∧ Below Z w w' ∧ Held Z w' r (l ++ l2) := by
  obtain ⟨i0, hi, hz0, hz1, hz2⟩ := info_parts info_string
  by_cases h0 : l2.length = 0
  · have hl2 : l2 = [] := List.eq_nil_of_length_eq_zero h0
    subst hl2
    have hv0 := hv
    rcases hv.2 with ⟨rfl, hl0⟩ | ⟨g, cap, cur, rfl, hb, hg, hle, _⟩
    · rw [List.append_nil]
      exact ⟨_, w, run_append_zero Try.underlying27 hi none (Nat.le_refl _) ao c, Below.refl _ w, hv0⟩
    · rw [List.append_nil]
      exact ⟨_, w, run_append_zero Try.underlying27 hi _ hle ao c, Below.refl _ w, hv0⟩
  · obtain ⟨a, rfl, hnews⟩ := sin_news hs (by omega)
    obtain ⟨g, cap, w', hr, ho, hg, _⟩ := run_append_lies (P := Try.prog) w 27 ty Z 9 i0 (.string ByteArray.empty) 1 16 Try.underlying27 hi hz0 hz1 hz2 rfl (by decide) v l.length (txV l) hv a l2.length c (txV l2) (txV_len l2) hnews (txV_one l2) (by omega) (by unfold maxLen; omega) (by omega) hZ _ rfl
    refine ⟨_, w', hr, ⟨hg.os, hg.tape, hg.output, hg.size, fun k hk => hg.block k (by omega) fun e => ?_⟩, ?_⟩
    · rcases hv.2 with ⟨rfl, _⟩ | ⟨g', cap', cur, rfl, hb, _⟩
      · simp [Value.ownBlock] at e
      · have : k = g' := by simpa [Value.ownBlock] using e
        omega
    · unfold Held
      rw [List.length_append, txV_app]
      exact ho
end As
end Go.Proofs.Ytbedcplkcaanhaa
