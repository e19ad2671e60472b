/-
  WALKS: package ast: the names in an expression. Own work.
-/
import Derived.Test.YtbedcplkcaanhaaAsSeqZ
import Derived.Test.YtbedcplkcaanhaaAsExpr
import Derived.Test.YtbedcplkcaanhaaOhc
import Derived.Test.YtbedcplkcaanhaaShelf
import Derived.ProofKit
import Derived.Deep.AppendLies
namespace Go.Proofs.Ytbedcplkcaanhaa
namespace As
open Go.RowKit Go Go.Shelf
set_option linter.unusedVariables false
attribute [local go_sem] Oper.semAt_some

theorem run_append_op {P : Program} {a : Act} {w w' : World} {o : Oper} {s x : Operand} {t : TypeId} {v u r : Value} (ho : o.op = .call { callee := .builtin .append, args := #[s, x], argTypes := #[t, t] }) (hs : a.eval s = v) (hx : a.eval x = u)
    (hr : (Builtin.append_ #[t, t] o.type #[v, u]).run P w = .ok r w') : (execOp a.eval o).run P w = .ok (.value r) w' := by
  unfold execOp
  simp only [ho, resolve, invoke, builtin, Sem.run_bind, Sem.run_pure, Result.andThen_ok, List.map_toArray, List.map_cons, List.map_nil, hs, hx, hr]
theorem setCell_row {w : World} {b : Nat} {v u : Value} {t : TypeId} (h : w.heap[b]? = some (.cells #[v] t)) : (w.setCell ⟨b, 0, none⟩ u).heap[b]? = some (.cells #[u] t) := by
  have hb : b < w.heap.size := (Array.getElem?_eq_some_iff.1 h).1
  simp [World.setCell, Array.getElem?_modify, h]
theorem info_string : (Try.prog.info? 9).map (fun i => (i.zero, i.size, i.bytes)) = some (some (.string ByteArray.empty), 1, 16) := by kernel_rfl
theorem clone_any (s : List UInt8) (w : World) (hl : s.length ≤ 281474976710656) : Calls Try.prog 51 #[.string (bytesOf s)] w fun e w' => e = .returned (.string (bytesOf s)) ∧ Below w.heap.size w w' := by
  have HC := Lib.hid (Try.stringslite_Clone (bytesOf s) w (by simpa [bytesOf, ByteArray.size] using hl))
  go_enter Try.func51, Try.ntmps51
  go_wp2_with (refine (show Calls _ _ #[.string (bytesOf s)] w _ from HC.out).mono ?_)
  rintro e w2 ⟨rfl, b2⟩
  have B2 := Lib.hid b2
  clear b2
  go_wp2
  go_ret
  exact ⟨rfl, B2.out⟩
/-- The names, those that are there. -/
def nmL (xs : List (Int × Nd)) : List (List UInt8) := (xs.map (·.2.nm)).filter (fun s => !s.isEmpty)
def txV (l : List (List UInt8)) : List Value := l.map (fun s => .string (bytesOf s))
theorem nmL_no {xs : List (Int × Nd)} {x : Int × Nd} (h : x.2.nm = []) : nmL (xs ++ [x]) = nmL xs := by simp [nmL, h]
theorem nmL_yes {xs : List (Int × Nd)} {x : Int × Nd} (h : x.2.nm ≠ []) : nmL (xs ++ [x]) = nmL xs ++ [x.2.nm] := by simp [nmL, h]
theorem nmL_le {ys xs : List (Int × Nd)} (h : ys <+: xs) : (nmL ys).length ≤ xs.length := by
  unfold nmL
  refine Nat.le_trans (List.length_filter_le _ _) ?_
  simpa using h.length_le
/-- A list of one's own holds texts. -/
def Held (Z : Nat) (W : World) (v : Value) (l : List (List UInt8)) : Prop := W.ownsRow Z 9 1 v l.length (txV l)
theorem Held.locz {Z B : Nat} {w w' : World} {v : Value} {l : List (List UInt8)} (h : Held Z w v l) (k : Rgz.BelowZ Z B w w') : Held Z w' v l := by
  refine ⟨h.1, ?_⟩
  rcases h.2 with h | ⟨g, cap, cur, hv, hb, hg, rest⟩
  · exact .inl h
  · exact .inr ⟨g, cap, cur, hv, hb, (k.block g (.inr ⟨hb, cur, _, hg⟩)).trans hg, rest⟩
theorem Held.below {Z : Nat} {w w' : World} {v : Value} {l : List (List UInt8)} (h : Held Z w v l) (k : Below w.heap.size w w') : Held Z w' v l := h.locz (Rgz.BelowZ.of k (Nat.le_refl _))
theorem Held.low {Z Z' : Nat} {w : World} {v : Value} {l : List (List UInt8)} (h : Held Z w v l) (hz : Z' ≤ Z) : Held Z' w v l := by
  refine ⟨h.1, ?_⟩
  rcases h.2 with h | ⟨g, cap, cur, hv, hb, rest⟩
  · exact .inl h
  · exact .inr ⟨g, cap, cur, hv, by omega, rest⟩
theorem grown_keep {Z : Nat} {V : Nat → Prop} {w w' : World} {v : Value} {l : List (List UInt8)} (h : Held Z w v l) (g : w.grownBy w' v.ownBlock) : Rgz.Keep Z V w w' := by
  refine ⟨g.os, g.tape, g.output, g.size, fun k hk _ hx => g.block k hk (fun e => ?_)⟩
  rcases h.2 with ⟨rfl, _⟩ | ⟨b, cap, cur, rfl, hb, hg, _⟩
  · simp [Value.ownBlock] at e
  · have : k = b := by simpa [Value.ownBlock] using e
    subst this
    exact hx ⟨hb, cur, _, hg⟩
theorem lists_anyZ (ao : Option Addr) (n cap : Nat) (w : World) : Calls Try.prog 50 #[.slice ao n cap] w fun r w' =>
    r = .returned (.func (.func 84) #[] #[.pointer (some ⟨w.heap.size + 1, 0, none⟩), .pointer (some ⟨w.heap.size, 0, none⟩)]) ∧ Below w.heap.size w w' ∧
      w'.cell? ⟨w.heap.size + 1, 0, none⟩ = some (.slice ao n cap) ∧ w'.cell? ⟨w.heap.size, 0, none⟩ = some (.func (.func 74) #[] #[]) ∧ ¬ Rgz.StrO w'.heap[w.heap.size]? ∧ ¬ Rgz.StrO w'.heap[w.heap.size + 1]? := by
  go_enter Try.func50, Try.ntmps50
  go_wp2
  refine bodyPost_ret (v := .func (.func 84) #[] #[.pointer (some ⟨w.heap.size + 1, 0, none⟩), .pointer (some ⟨w.heap.size, 0, none⟩)]) (by simp [results, Try.results50, go_sem]) rfl ⟨rfl, ?_, ?_, ?_, ?_, ?_⟩
  · exact ((Below.refl _ w).alloc (Nat.le_refl _) _).alloc (by simp) _
  · go_simp
  · go_simp
  · exact Rgz.str_cells (at2_0 w _ _) (by decide)
  · exact Rgz.str_cells (at2_1 w _ _) (by decide)
/-- A function value over one expression that lies in a row of its own. -/
theorem seqs_listZ {w5 : World} {N B1 B2 b R : Nat} {e : Nd} (hk : Nds w5 N e.ao e.kids) (hc : e.kids.length ≤ e.cap ∧ e.cap ≤ 9223372036854775807) (hN : N ≤ w5.heap.size)
    (hR : w5.heap[R]? = some (.cells #[.int .i64 e.k, .int .i64 e.o, .int .i64 e.t, .int .u32 e.n, .string (bytesOf e.nm), .slice e.ao e.kids.length e.cap] 25))
    (c1 : w5.cell? ⟨b, 0, none⟩ = some (.slice (some ⟨R, 0, none⟩) 1 1)) (c2 : w5.cell? ⟨B2, 0, none⟩ = some (.func (.func 74) #[] #[]))
    (c3 : w5.cell? ⟨B1, 0, none⟩ = some (.slice (some ⟨b, 0, none⟩) 1 1)) (n1 : ¬ Rgz.StrO w5.heap[b]?) (n2 : ¬ Rgz.StrO w5.heap[B2]?) (n3 : ¬ Rgz.StrO w5.heap[B1]?) :
    SeqBZ encN w5 [R, b, B2, B1] (.func (.func 84) #[] #[.pointer (some ⟨B1, 0, none⟩), .pointer (some ⟨B2, 0, none⟩)]) N [e] := by
  have HE : [e] = flatL [⟨some ⟨R, 0, none⟩, 1, [e]⟩] := by simp [flatL]
  have z0 : R < w5.heap.size := (Array.getElem?_eq_some_iff.1 hR).1
  have z1 := World.block_lt_of_cell? w5 _ c1
  have z2 := World.block_lt_of_cell? w5 _ c2
  have z3 := World.block_lt_of_cell? w5 _ c3
  dsimp only at z1 z2 z3
  refine ⟨_, _, rfl, fun args W => by kernel_rfl, fun b hb => ?_, fun W bW => ?_⟩
  · simp only [List.mem_cons, List.not_mem_nil, or_false] at hb
    rcases hb with rfl | rfl | rfl | rfl
    · exact ⟨z0, Rgz.str_cells hR (by decide)⟩
    · exact ⟨z1, n1⟩
    · exact ⟨z2, n2⟩
    · exact ⟨z3, n3⟩
  · rw [HE]
    have kW : Nds W N e.ao e.kids := hk.keep (V := fun _ => False) (Rg.Keep.of bW) (fun b hb => hb.elim)
    have hs := bW.size
    have hRW := (bW.block R z0).trans hR
    refine each_exZ (cap := 1) (off := 0) (b := b) (by omega) ?_ ?_ (by omega) (by omega) ⟨by omega, ?_, ?_, ?_⟩ (by simp) (by simp) (by simp) (.inl (by simp))
    · exact (bW.cell z3).trans c3
    · exact (bW.cell z2).trans c2
    · intro i hi
      obtain rfl : i = 0 := by simpa using hi
      exact (bW.cell z1).trans c1
    · intro i hi
      obtain rfl : i = 0 := by simpa using hi
      refine .inr ⟨R, 0, rfl, .inr (by simp), by omega, fun i j hi hj => ?_, fun i hi => ?_⟩
      · obtain rfl : i = 0 := by simpa using hi
        rcases (by omega : j = 0 ∨ j = 1 ∨ j = 2 ∨ j = 3 ∨ j = 4 ∨ j = 5) with rfl | rfl | rfl | rfl | rfl | rfl <;> simp [World.cell?, hRW, Nd.cell]
      · obtain rfl : i = 0 := by simpa using hi
        exact ⟨hc, kW⟩
    · intro i hi
      obtain rfl : i = 0 := by simpa using hi
      simp
/-- The box of the expression at hand. -/
def BoxZ (z : Nat) (tm : Value → Array Value) (x : Int × Nd) (a' : Act) (W : World) : Prop :=
  ∃ B, z ≤ B ∧ W.heap[B]? = some (.cells #[.int .i64 x.2.k, .int .i64 x.2.o, .int .i64 x.2.t, .int .u32 x.2.n, .string (bytesOf x.2.nm), .slice x.2.ao x.2.kids.length x.2.cap] 89) ∧ a' = { tmps := tm (.pointer (some ⟨B, 0, none⟩)), defers := [] }
set_option maxHeartbeats 4000000 in
set_option maxRecDepth 100000 in
theorem Names_any (e : Nd) (w : World) {N : Nat} (hN : N ≤ w.heap.size) (hk : Nds w N e.ao e.kids) (hc : e.kids.length ≤ e.cap ∧ e.cap ≤ 9223372036854775807) (hd : (1 : Int) + htF [e] ≤ 9223372036854775807) (hl : ∀ p ∈ flatF 1 [e], p.2.nm.length ≤ 281474976710656) (hn : (flatF 1 [e]).length ≤ 1000000) :
    Calls Try.prog 24 #[e.val] w fun r w' => ∃ v, r = .returned v ∧ Below w.heap.size w w' ∧ Held w.heap.size w' v (nmL (flatF 1 [e])) := by
  have HK := Lib.hid hk
  have HC := Lib.hid hc
  have HD := Lib.hid hd
  have HL := Lib.hid hl
  have HNN := Lib.hid hn
  clear hk hc hd hl hn
  unfold Nd.val
  refine (callsIn_wide (n := 3)).1 ?_
  refine callsIn_of_wp_marks Try.func24 rfl trivial ?_ rfl
  simp only [Try.ntmps24, List.size_toArray, List.length_cons, List.length_nil, Nat.reduceAdd, Nat.reduceSub, Array.replicate_succ, Array.replicate_zero, List.push_toArray, List.append_toArray, List.nil_append, List.cons_append]
  have hent1 : ∀ (args : Array Value) (W' : World), Sem.run Try.prog (callFunc 50 args) W' = .ok (.enter 50 args) W' := fun _ _ => by kernel_rfl
  have hent2 : ∀ (args : Array Value) (W' : World), Sem.run Try.prog (callFunc 49 args) W' = .ok (.enter 49 args) W' := fun _ _ => by kernel_rfl
  gi_wp2
  refine ⟨trivial, ?_⟩
  have e0 : ((((w.alloc (.cells #[.int .i64 e.k, .int .i64 e.o, .int .i64 e.t, .int .u32 e.n, .string (bytesOf e.nm), .slice e.ao e.kids.length e.cap] 25)).alloc (.cells #[.slice none 0 0] 27)).alloc (.cells #[.int .i64 e.k, .int .i64 e.o, .int .i64 e.t, .int .u32 e.n, .string (bytesOf e.nm), .slice e.ao e.kids.length e.cap] 25)).alloc (.cells #[.slice (some ⟨w.heap.size + 1 + 1, 0, none⟩) 1 1] 23)).heap[w.heap.size + 1]? = some (.cells #[.slice none 0 0] 27) := at_one w _ _ _ _
  have e1 : ((((w.alloc (.cells #[.int .i64 e.k, .int .i64 e.o, .int .i64 e.t, .int .u32 e.n, .string (bytesOf e.nm), .slice e.ao e.kids.length e.cap] 25)).alloc (.cells #[.slice none 0 0] 27)).alloc (.cells #[.int .i64 e.k, .int .i64 e.o, .int .i64 e.t, .int .u32 e.n, .string (bytesOf e.nm), .slice e.ao e.kids.length e.cap] 25)).alloc (.cells #[.slice (some ⟨w.heap.size + 1 + 1, 0, none⟩) 1 1] 23)).heap[w.heap.size + 1 + 1]? = _ := at_two w _ _ _ _
  have e2 : ((((w.alloc (.cells #[.int .i64 e.k, .int .i64 e.o, .int .i64 e.t, .int .u32 e.n, .string (bytesOf e.nm), .slice e.ao e.kids.length e.cap] 25)).alloc (.cells #[.slice none 0 0] 27)).alloc (.cells #[.int .i64 e.k, .int .i64 e.o, .int .i64 e.t, .int .u32 e.n, .string (bytesOf e.nm), .slice e.ao e.kids.length e.cap] 25)).alloc (.cells #[.slice (some ⟨w.heap.size + 1 + 1, 0, none⟩) 1 1] 23)).heap[w.heap.size + 1 + 1 + 1]? = _ := at_three w _ _ _ _
  have b0 : Below w.heap.size w ((((w.alloc (.cells #[.int .i64 e.k, .int .i64 e.o, .int .i64 e.t, .int .u32 e.n, .string (bytesOf e.nm), .slice e.ao e.kids.length e.cap] 25)).alloc (.cells #[.slice none 0 0] 27)).alloc (.cells #[.int .i64 e.k, .int .i64 e.o, .int .i64 e.t, .int .u32 e.n, .string (bytesOf e.nm), .slice e.ao e.kids.length e.cap] 25)).alloc (.cells #[.slice (some ⟨w.heap.size + 1 + 1, 0, none⟩) 1 1] 23)) := ((((Below.refl _ w).alloc (Nat.le_refl _) _).alloc (by simp) _).alloc (by simp; omega) _).alloc (by simp; omega) _
  have z0 : ((((w.alloc (.cells #[.int .i64 e.k, .int .i64 e.o, .int .i64 e.t, .int .u32 e.n, .string (bytesOf e.nm), .slice e.ao e.kids.length e.cap] 25)).alloc (.cells #[.slice none 0 0] 27)).alloc (.cells #[.int .i64 e.k, .int .i64 e.o, .int .i64 e.t, .int .u32 e.n, .string (bytesOf e.nm), .slice e.ao e.kids.length e.cap] 25)).alloc (.cells #[.slice (some ⟨w.heap.size + 1 + 1, 0, none⟩) 1 1] 23)).heap.size = w.heap.size + 4 := by simp
  generalize ((((w.alloc (.cells #[.int .i64 e.k, .int .i64 e.o, .int .i64 e.t, .int .u32 e.n, .string (bytesOf e.nm), .slice e.ao e.kids.length e.cap] 25)).alloc (.cells #[.slice none 0 0] 27)).alloc (.cells #[.int .i64 e.k, .int .i64 e.o, .int .i64 e.t, .int .u32 e.n, .string (bytesOf e.nm), .slice e.ao e.kids.length e.cap] 25)).alloc (.cells #[.slice (some ⟨w.heap.size + 1 + 1, 0, none⟩) 1 1] 23)) = w0 at *
  refine (callsIn_wide.2 (lists_anyZ (some ⟨w.heap.size + 1 + 1 + 1, 0, none⟩) 1 1 w0)).mono ?_
  rintro r w4 ⟨rfl, b4, c3, c2, n2, n3⟩
  have z4 := World.block_lt_of_cell? w4 _ c3
  dsimp only at z4
  have hlow : Below w.heap.size w w4 := b0.trans (b4.mono (by omega))
  have f0 := (b4.block (w.heap.size + 1) (by omega)).trans e0
  have f1 := (b4.block (w.heap.size + 1 + 1) (by omega)).trans e1
  have f2 := (b4.block (w.heap.size + 1 + 1 + 1) (by omega)).trans e2
  have HK4 := Lib.hid (HK.out.keep (V := fun _ => False) (Rg.Keep.of hlow) (fun b hb => hb.elim))
  have HS := Lib.hid (seqs_listZ (w5 := w4) HK4.out HC.out (by omega) f1 (by simp [World.cell?, f2]) c2 c3 (Rgz.str_cells f2 (by decide)) n2 n3)
  have HLOW := Lib.hid hlow
  have HF0 := Lib.hid f0
  have Z0 := Lib.hid z0
  have hN4 : N ≤ w4.heap.size := by omega
  have hN0 : w.heap.size + 1 < w4.heap.size := by omega
  clear b0 b4 e0 e1 e2 f1 f2 c2 c3 n2 n3 hlow z0 z4
  gi_wp2
  refine ⟨trivial, ?_⟩
  refine (callsIn_wide.2 (walk_anyZ (d := 1) (by decide) HD.out HS.out (fun x hx => by obtain rfl : x = e := (by simpa using hx); exact ⟨HK4.out, HC.out⟩) hN4)).mono ?_
  rintro r w1 ⟨v, rfl, b1, hz1, s1⟩
  obtain ⟨gf, lb, rfl, eg, hbs, hsq⟩ := s1
  have EG := Lib.hid eg
  have HBS := Lib.hid hbs
  have HSQ := Lib.hid hsq
  have hb1 := (b1.block (w.heap.size + 1) hN0).trans f0
  have HLOW1 := Lib.hid (HLOW.out.trans (b1.mono (by have := HLOW.out.size; omega)))
  have HZ1 := Lib.hid hz1
  clear eg hbs hsq f0 HF0 hz1
  gi_wp2
  have hzw : w.heap.size + 1 < w1.heap.size := by have := b1.size; omega
  have hzb : w4.heap.size ≤ w1.heap.size := b1.size
  clear b1
  refine Rgz.range_out (fun _ => trivial) rfl rfl (gf := gf) (lb := lb) rfl (fun args W => EG.out args W) (encs := encD) (N := N) (bs := w4.heap.size :: (w4.heap.size + 1) :: [w.heap.size + 1 + 1, w.heap.size + 1 + 1 + 1, w0.heap.size, w0.heap.size + 1]) (xs := flatF 1 [e]) (Z := w1.heap.size)
    (by omega) (fun b hb => Rgz.Ex.not_lt (HBS.out b hb).1) (fun W bW => HSQ.out W bW) (fun _ => rfl)
    (fun b => b = w.heap.size + 1) ?_ ?_
    (fun ys W => Rgz.Keep w1.heap.size (fun b => b = w.heap.size + 1) w1 W ∧ ∃ v, W.heap[w.heap.size + 1]? = some (.cells #[v] 27) ∧ Held w1.heap.size W v (nmL ys))
    (fun c ys W => False) ?_ ?_ ⟨Rgz.Keep.refl _ _, .slice none 0 0, hb1, rfl, .inl ⟨rfl, rfl⟩⟩
    (fun x a' W => BoxZ w1.heap.size (fun p => #[.agg #[.int .i64 e.k, .int .i64 e.o, .int .i64 e.t, .int .u32 e.n, .string (bytesOf e.nm), .slice e.ao e.kids.length e.cap], .pointer (some ⟨w.heap.size, 0, none⟩), .slice none 0 0, .pointer (some ⟨w.heap.size + 1, 0, none⟩), undef, p,
      .agg #[.int .i64 e.k, .int .i64 e.o, .int .i64 e.t, .int .u32 e.n, .string (bytesOf e.nm), .slice e.ao e.kids.length e.cap], .slice (some ⟨w.heap.size + 1 + 1, 0, none⟩) 1 1, .slice (some ⟨w.heap.size + 1 + 1 + 1, 0, none⟩) 1 1,
      .func (.func 84) #[] #[.pointer (some ⟨w0.heap.size + 1, 0, none⟩), .pointer (some ⟨w0.heap.size, 0, none⟩)], .func (.func gf) #[] lb, .int .i64 x.1, x.2.val,
      undef, undef, undef, undef, undef, undef, undef, undef, undef, undef]) x a' W) ?_ ?assign ?body ?done ?stop
  · rintro b rfl
    refine ⟨fun e => ?_, hzw⟩
    rcases e with e | e
    · omega
    · simp only [List.mem_cons, List.not_mem_nil, or_false] at e
      have := Z0.out
      omega
  · rintro b (e | e)
    · omega
    · exact (HBS.out b e).1
  · rintro ys A B k ⟨kk, v, hv, hh⟩
    exact ⟨keep_moreZ kk k, v, (k.block _ (.inl hzw)).trans hv, hh.locz k⟩
  · rintro c ys A B k h
    exact h
  · rintro L x a' W r o hL ⟨B, hB1, hB2, rfl⟩
    refine ⟨B, hB1, ?_, rfl⟩
    rw [World.putObj_heap_other (fun e => by subst e; rw [hL] at hB2; cases hB2)]
    exact hB2
  case assign =>
    intro L m pre x W K hL hi hr hK
    unfold encD Nd.val
    gi_wp2
    obtain ⟨kk, v, hv, hh⟩ := hi
    have ba : Below W.heap.size W (W.alloc (.cells #[.int .i64 x.2.k, .int .i64 x.2.o, .int .i64 x.2.t, .int .u32 x.2.n, .string (bytesOf x.2.nm), .slice x.2.ao x.2.kids.length x.2.cap] 89)) := (Below.refl _ W).alloc (Nat.le_refl _) _
    exact hK _ _ (Rgz.Keep.of ba) ⟨kk.trans (Rgz.Keep.of ba), v, (ba.block _ (by have := kk.size; omega)).trans hv, hh.below ba⟩ ⟨W.heap.size, kk.size, World.alloc_heap_new W _, rfl⟩
  case body =>
    rintro L m pre x a' W hL hpx ⟨kk, v, hv, hh⟩ ⟨B, hB1, hBx, rfl⟩ ⟨rr, hrr⟩
    have hl := HL.out x (hpx.subset (by simp))
    have hnn := nmL_le ((List.prefix_append pre [x]).trans hpx)
    have hnn2 := HNN.out
    obtain ⟨dx, ex⟩ := x
    dsimp only at hBx hl
    by_cases hne : ex.nm = []
    · have hN0 : Hid (nmL (pre ++ [(dx, ex)]) = nmL pre) := Lib.hid (nmL_no hne)
      have x4 : W.cell? ⟨B, 4, none⟩ = some (.string (bytesOf ex.nm)) := by simp [World.cell?, hBx]
      have hE : (bytesOf ex.nm).toList.isEmpty = true := by show (Lx.bytesOf ex.nm).toList.isEmpty = true; rw [Lx.bytesOf_toList, hne]; rfl
      have HR := Lib.hid (And.intro kk (And.intro hv hh))
      clear hBx hne kk hv hh hrr hpx hl hnn hnn2
      gi_wp2
      exact ⟨Rgz.Keep.refl _ _, HR.out.1, v, HR.out.2.1, by rw [hN0.out]; exact HR.out.2.2⟩
    · obtain ⟨i0, hi, hz0, hz1, hz2⟩ := info_parts info_string
      have hN0 : Hid (nmL (pre ++ [(dx, ex)]) = nmL pre ++ [ex.nm]) := Lib.hid (nmL_yes hne)
      have x4 : W.cell? ⟨B, 4, none⟩ = some (.string (bytesOf ex.nm)) := by simp [World.cell?, hBx]
      have hE : (bytesOf ex.nm).toList.isEmpty = false := by
        show (Lx.bytesOf ex.nm).toList.isEmpty = false
        rw [Lx.bytesOf_toList]
        cases h : ex.nm with
        | nil => exact absurd h hne
        | cons a l => rfl
      have hBW : B < W.heap.size := (Array.getElem?_eq_some_iff.1 hBx).1
      have hkz := kk.size
      have HR := Lib.hid (And.intro kk (And.intro hv hh))
      have HPL := Lib.hid hnn
      have HI := Lib.hid (And.intro hi (And.intro hz0 (And.intro hz1 hz2)))
      clear hBx hne kk hv hh hrr hpx hnn hi hz0 hz1 hz2
      gi_wp2
      obtain ⟨hi, hz0, hz1, hz2⟩ := HI.out
      refine Ohc.begins (c := 5) (fun w' => Below W.heap.size W w') (by kernel_rfl) ?_
      refine Ohc.take (c := 5) (i := 0) (v := v) rfl rfl (by kernel_rfl) (by decide) (by kernel_rfl) (by kernel_rfl) (by kernel_rfl) (by kernel_rfl) (fun _ _ _ h => h) ⟨fun _ => rfl, Or.inl ⟨by rfl, ?_⟩⟩ ?_
      · intro w' hw'
        have := hw'.cell (p := ⟨w.heap.size + 1, 0, none⟩) (by show w.heap.size + 1 < _; omega)
        have c3 : w'.cell? ⟨w.heap.size + 1, 0, none⟩ = some v := this.trans (by simp [World.cell?, HR.out.2.1])
        clear this
        go_simp
      have kd : Below W.heap.size W W.drew := (Below.refl _ W).drew
      refine Ohc.value (c := 5) (i := 1) (v := .pointer (some ⟨B, 4, none⟩)) (w' := W.drew) rfl (by kernel_rfl) (by kernel_rfl) (fun _ => kd) rfl (by rfl) (by go_simp) ?_
      refine Ohc.value (c := 5) (i := 2) (v := .string (bytesOf ex.nm)) (w' := W.drew) rfl (by kernel_rfl) (by kernel_rfl) (fun _ => kd) rfl (by rfl) (by have := x4; go_simp) ?_
      refine Ohc.only (i := 3) rfl (by kernel_rfl) (fun _ => kd) ?_
      intro K' hK'
      have hent3 : ∀ (args : Array Value) (W' : World), Sem.run Try.prog (callFunc 51 args) W' = .ok (.enter 51 args) W' := fun _ _ => by kernel_rfl
      go_simp
      refine ⟨trivial, fun h => (by cases h), ?_⟩
      refine CallsIn.mono (show CallsIn (Fence.wide.inRound L) (m - 1) Try.prog 51 #[.string (bytesOf ex.nm)] W.drew _ from callsIn_wide.2 (clone_any ex.nm W.drew hl)) ?_
      rintro e' w8 ⟨rfl, b8⟩
      have k8 : Below W.heap.size W w8 := kd.trans b8
      refine hK' _ _ ?_
      clear hK' K'
      refine Ohc.value (c := 5) (i := 4) (v := .slice (some ⟨w8.heap.size, 0, none⟩) 1 1) (w' := w8.alloc (.cells #[.string (bytesOf ex.nm)] 9)) rfl (by kernel_rfl) (by kernel_rfl) (fun _ => k8) rfl (by rfl) (by go_simp) ?_
      have k9 : Below W.heap.size W (w8.alloc (.cells #[.string (bytesOf ex.nm)] 9)) := k8.trans ((Below.refl _ w8).alloc (by have := k8.size; omega) _)
      have hh8 : Held w1.heap.size (w8.alloc (.cells #[.string (bytesOf ex.nm)] 9)) v (nmL pre) := HR.out.2.2.below k9
      have hsz8 := k8.size
      obtain ⟨g, cap, w9, hrun, hown, hgrow, hat, hlt⟩ := run_append_lies (P := Try.prog) (w8.alloc (.cells #[.string (bytesOf ex.nm)] 9)) 27 27 w1.heap.size 9 i0 (.string ByteArray.empty) 1 16 Try.underlying27 hi hz0 hz1 hz2 rfl (by decide) v (nmL pre).length (txV (nmL pre)) hh8
        ⟨w8.heap.size, 0, none⟩ 1 1 [.string (bytesOf ex.nm)] rfl
        (by
          intro j u hj
          match j, hj with
          | 0, hj => simp at hj; subst hj; simp [Addr.add])
        (by intro u hu; simp at hu; subst hu; rfl) (by decide) (by unfold maxLen; have := HPL.out; omega) (by have := HPL.out; omega) (by simp; omega) _ rfl
      refine Ohc.value (c := 5) (i := 5) (v := .slice (some ⟨g, 0, none⟩) ((nmL pre).length + 1) cap) (w' := w9) rfl (by kernel_rfl) (by kernel_rfl) (fun _ => k9) rfl (by rfl) ?_ ?_
      · exact run_append_op (s := .tmp 16) (x := .tmp 20) rfl rfl rfl hrun
      have kz : Rgz.Keep w1.heap.size (fun b => b = w.heap.size + 1) W w9 := (Rgz.Keep.of k9).trans (grown_keep hh8 hgrow)
      have hbx : w9.heap[w.heap.size + 1]? = some (.cells #[v] 27) := by
        refine (hgrow.block (w.heap.size + 1) (by simp; omega) (fun e => ?_)).trans ((k9.block _ (by omega)).trans HR.out.2.1)
        rcases HR.out.2.2.2 with ⟨rfl, _⟩ | ⟨b', _, _, rfl, hb', _⟩
        · simp [Value.ownBlock] at e
        · have : w.heap.size + 1 = b' := by simpa [Value.ownBlock] using e
          omega
      refine Ohc.only (i := 6) rfl (by kernel_rfl) (fun h => absurd h (by decide)) ?_
      intro K6 hK6
      have c3 : w9.cell? ⟨w.heap.size + 1, 0, none⟩ = some v := by simp [World.cell?, hbx]
      have f3 : w9.frozen? ⟨w.heap.size + 1, 0, none⟩ = false := by simp [World.frozen?, hbx]
      go_simp
      refine hK6 _ _ ?_
      clear hK6 K6
      refine Ohc.done (by kernel_rfl) (fun h => absurd h (by decide)) ?_
      have hns : ¬ Rgz.StrO w9.heap[w.heap.size + 1]? := Rgz.str_cells hbx (by decide)
      have hst := setCell_row (u := .slice (some ⟨g, 0, none⟩) ((nmL pre).length + 1) cap) hbx
      have hH9 : Held w1.heap.size w9 (.slice (some ⟨g, 0, none⟩) ((nmL pre).length + 1) cap) (nmL (pre ++ [(dx, ex)])) := by
        rw [hN0.out]
        unfold Held
        rw [List.length_append, List.length_singleton]
        show w9.ownsRow _ _ _ _ _ ((nmL pre ++ [ex.nm]).map _)
        rw [List.map_append]
        exact hown
      have kk2 := kz.setCell (p := ⟨w.heap.size + 1, 0, none⟩) (.inl rfl) (.slice (some ⟨g, 0, none⟩) ((nmL pre).length + 1) cap)
      exact ⟨kk2, HR.out.1.trans kk2, _, hst, hH9.locz (Rgz.below_setz (B := 0) (p := ⟨w.heap.size + 1, 0, none⟩) (Nat.zero_le _) hns _)⟩
  case done =>
    rintro W ⟨kk, v, hv, hh⟩ hD
    have c3 : W.cell? ⟨w.heap.size + 1, 0, none⟩ = some v := by simp [World.cell?, hv]
    have HR := Lib.hid (And.intro kk hh)
    clear kk hv hh
    gi_wp2
    refine ⟨by simp, .inl ⟨_, _, rfl, run_takeDeferred hD, ?_⟩⟩
    refine ⟨v, by simp [results, Try.results24, go_sem], v, rfl, ?_, ?_⟩
    · exact HLOW1.out.trans ((HR.out.1.putObj (.inr (Nat.le_refl _)) _).below (by omega) (by omega) (fun i h => by omega))
    · exact (HR.out.2.locz (Rgz.below_putz (B := 0) (Nat.zero_le _) (Rgz.str_def hD) _)).low (by omega)
  case stop =>
    rintro c pre W hp h
    exact h.elim
end As
end Go.Proofs.Ytbedcplkcaanhaa
