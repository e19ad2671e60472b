/-
  PLAIN FACTS: statements as trees that know where their parts lie; the memory that holds them. Own work.
-/
import Derived.Test.YtbedcplkcaanhaaAsMem
namespace Go.Proofs.Ytbedcplkcaanhaa
namespace As
open Go.RowKit Go Rg
set_option linter.unusedVariables false

/-- Texts, and where their row lies. -/
structure Tx where
  ao : Option Addr
  cap : Nat
  l : List (List UInt8)
/-- A statement, and where the rows of its parts lie. -/
inductive St where
  | mk (k li t n : Int) (nm : List UInt8) (ns : Tx) (ix ex : Ls) (ta : Option Addr) (tc : Nat) (th : List St) (la : Option Addr) (lc : Nat) (el : List St)
instance : Inhabited St := ⟨.mk 0 0 0 0 [] ⟨none, 0, []⟩ ⟨none, 0, []⟩ ⟨none, 0, []⟩ none 0 [] none 0 []⟩
def s0 : St := .mk 0 0 0 0 [] ⟨none, 0, []⟩ ⟨none, 0, []⟩ ⟨none, 0, []⟩ none 0 [] none 0 []
def St.k : St → Int | .mk k _ _ _ _ _ _ _ _ _ _ _ _ _ => k
def St.li : St → Int | .mk _ li _ _ _ _ _ _ _ _ _ _ _ _ => li
def St.t : St → Int | .mk _ _ t _ _ _ _ _ _ _ _ _ _ _ => t
def St.n : St → Int | .mk _ _ _ n _ _ _ _ _ _ _ _ _ _ => n
def St.nm : St → List UInt8 | .mk _ _ _ _ nm _ _ _ _ _ _ _ _ _ => nm
def St.ns : St → Tx | .mk _ _ _ _ _ ns _ _ _ _ _ _ _ _ => ns
def St.ix : St → Ls | .mk _ _ _ _ _ _ ix _ _ _ _ _ _ _ => ix
def St.ex : St → Ls | .mk _ _ _ _ _ _ _ ex _ _ _ _ _ _ => ex
def St.ta : St → Option Addr | .mk _ _ _ _ _ _ _ _ ta _ _ _ _ _ => ta
def St.tc : St → Nat | .mk _ _ _ _ _ _ _ _ _ tc _ _ _ _ => tc
def St.th : St → List St | .mk _ _ _ _ _ _ _ _ _ _ th _ _ _ => th
def St.la : St → Option Addr | .mk _ _ _ _ _ _ _ _ _ _ _ la _ _ => la
def St.lc : St → Nat | .mk _ _ _ _ _ _ _ _ _ _ _ _ lc _ => lc
def St.el : St → List St | .mk _ _ _ _ _ _ _ _ _ _ _ _ _ el => el
/-- Its ten cells. -/
def St.cell (s : St) : Nat → Value
  | 0 => .int .i64 s.k
  | 1 => .int .i64 s.li
  | 2 => .int .i64 s.t
  | 3 => .int .i64 s.n
  | 4 => .string (bytesOf s.nm)
  | 5 => .slice s.ns.ao s.ns.l.length s.ns.cap
  | 6 => .slice s.ix.ao s.ix.l.length s.ix.cap
  | 7 => .slice s.ex.ao s.ex.l.length s.ex.cap
  | 8 => .slice s.ta s.th.length s.tc
  | _ => .slice s.la s.el.length s.lc
def St.val (s : St) : Value := .agg #[.int .i64 s.k, .int .i64 s.li, .int .i64 s.t, .int .i64 s.n, .string (bytesOf s.nm), .slice s.ns.ao s.ns.l.length s.ns.cap, .slice s.ix.ao s.ix.l.length s.ix.cap, .slice s.ex.ao s.ex.l.length s.ex.cap, .slice s.ta s.th.length s.tc, .slice s.la s.el.length s.lc]
/-- Texts lie there. -/
def Txs (w : World) (N : Nat) (x : Tx) : Prop := x.l = [] ∨ ∃ b off, x.ao = Option.some ⟨b, off, Option.none⟩ ∧ b < N ∧ b < w.heap.size ∧ ∀ i, i < x.l.length → w.cell? ⟨b, off + i, Option.none⟩ = Option.some (.string (bytesOf (x.l.getD i [])))
theorem Txs.keep {w w' : World} {N : Nat} {V : Nat → Prop} (k : Keep V w w') (hV : ∀ b, V b → N ≤ b) {x : Tx} (h : Txs w N x) : Txs w' N x := by
  rcases h with h | ⟨b, off, ha, hb, hz, hc⟩
  · exact .inl h
  · exact .inr ⟨b, off, ha, hb, Nat.lt_of_lt_of_le hz k.size, fun i hi => (k.cell (p := ⟨b, off + i, Option.none⟩) hz (fun e => by have := hV b e; omega)).trans (hc i hi)⟩
theorem Txs.wide {w : World} {N N' : Nat} (h : N ≤ N') {x : Tx} (k : Txs w N x) : Txs w N' x := by
  rcases k with k | ⟨b, off, ha, hb, hz, hc⟩
  · exact .inl k
  · exact .inr ⟨b, off, ha, by omega, hz, hc⟩
/-- The lengths of a slice. -/
def Capd (n c : Nat) : Prop := n ≤ c ∧ c ≤ 9223372036854775807
/-- What a statement has, its statements aside, lies there. -/
structure StIn (w : World) (N : Nat) (s : St) : Prop where
  ns : Txs w N s.ns
  ix : Nds w N s.ix.ao s.ix.l
  ex : Nds w N s.ex.ao s.ex.l
  cns : Capd s.ns.l.length s.ns.cap
  cix : Capd s.ix.l.length s.ix.cap
  cex : Capd s.ex.l.length s.ex.cap
  cth : Capd s.th.length s.tc
  cel : Capd s.el.length s.lc
theorem StIn.keep {w w' : World} {N : Nat} {V : Nat → Prop} (k : Keep V w w') (hV : ∀ b, V b → N ≤ b) {s : St} (h : StIn w N s) : StIn w' N s :=
  ⟨h.ns.keep k hV, h.ix.keep k hV, h.ex.keep k hV, h.cns, h.cix, h.cex, h.cth, h.cel⟩
/-- A row of statements lies there, whole, in blocks below N. -/
inductive Sts (w : World) (N : Nat) : Option Addr → List St → Prop
  | none (ao : Option Addr) : Sts w N ao []
  | some (b off : Nat) (l : List St) (hb : b < N) (hz : b < w.heap.size)
      (hc : ∀ i j, i < l.length → j < 10 → w.cell? ⟨b, off + i * 10 + j, Option.none⟩ = Option.some ((l.getD i s0).cell j))
      (hl : ∀ i, i < l.length → StIn w N (l.getD i s0))
      (hr : ∀ i, i < l.length → Sts w N (l.getD i s0).ta (l.getD i s0).th) (hq : ∀ i, i < l.length → Sts w N (l.getD i s0).la (l.getD i s0).el) : Sts w N (Option.some ⟨b, off, Option.none⟩) l
theorem Sts.keep {w w' : World} {N : Nat} {V : Nat → Prop} (k : Keep V w w') (hV : ∀ b, V b → N ≤ b) : ∀ {ao : Option Addr} {l : List St}, Sts w N ao l → Sts w' N ao l := by
  intro ao l h
  induction h with
  | none ao => exact .none ao
  | some b off l hb hz hc hl hr hq ih ih2 =>
    exact .some b off l hb (Nat.lt_of_lt_of_le hz k.size) (fun i j hi hj => (k.cell (p := ⟨b, off + i * 10 + j, Option.none⟩) hz (fun e => by have := hV b e; omega)).trans (hc i j hi hj)) (fun i hi => (hl i hi).keep k hV) (fun i hi => ih i hi) (fun i hi => ih2 i hi)
theorem StIn.wide {w : World} {N N' : Nat} (h : N ≤ N') {s : St} (k : StIn w N s) : StIn w N' s := ⟨k.ns.wide h, k.ix.wide h, k.ex.wide h, k.cns, k.cix, k.cex, k.cth, k.cel⟩
theorem Sts.wide {w : World} {N N' : Nat} (h : N ≤ N') {ao : Option Addr} {l : List St} (k : Sts w N ao l) : Sts w N' ao l := by
  induction k with
  | none ao => exact .none ao
  | some b off l hb hz hc hl hr hq ih ih2 => exact .some b off l (by omega) hz hc (fun i hi => (hl i hi).wide h) (fun i hi => ih i hi) (fun i hi => ih2 i hi)
theorem Sts.at {w : World} {N : Nat} {ao : Option Addr} {l : List St} (h : Sts w N ao l) {i : Nat} (hi : i < l.length) :
    ∃ b off, ao = Option.some ⟨b, off, Option.none⟩ ∧ b < N ∧ b < w.heap.size ∧ (∀ j, j < 10 → w.cell? ⟨b, off + i * 10 + j, Option.none⟩ = Option.some ((l.getD i s0).cell j)) ∧ StIn w N (l.getD i s0) ∧ Sts w N (l.getD i s0).ta (l.getD i s0).th ∧ Sts w N (l.getD i s0).la (l.getD i s0).el := by
  cases h with
  | none => simp at hi
  | some b off _ hb hz hc hl hr hq => exact ⟨b, off, rfl, hb, hz, fun j hj => hc i j hi hj, hl i hi, hr i hi, hq i hi⟩
/-- Lists of statements: a row of slices. -/
structure Lt where
  ao : Option Addr
  cap : Nat
  l : List St
/-- The row of lists lies there. -/
structure LtIn (w : World) (N : Nat) (b off : Nat) (ls : List Lt) : Prop where
  size : ls = [] ∨ b < w.heap.size
  at' : ∀ i, i < ls.length → w.cell? ⟨b, off + i, Option.none⟩ = Option.some (.slice (ls.getD i ⟨none, 0, []⟩).ao (ls.getD i ⟨none, 0, []⟩).l.length (ls.getD i ⟨none, 0, []⟩).cap)
  in' : ∀ i, i < ls.length → Sts w N (ls.getD i ⟨none, 0, []⟩).ao (ls.getD i ⟨none, 0, []⟩).l
  len : ∀ i, i < ls.length → (ls.getD i ⟨none, 0, []⟩).l.length ≤ 9223372036854775807
theorem LtIn.keep {w w' : World} {N : Nat} {V : Nat → Prop} {b off : Nat} {ls : List Lt} (h : LtIn w N b off ls) (k : Keep V w w') (hV : ∀ b, V b → N ≤ b) (hb : ls = [] ∨ ¬ V b) : LtIn w' N b off ls := by
  refine ⟨h.size.imp id (fun g => Nat.lt_of_lt_of_le g k.size), fun i hi => ?_, fun i hi => (h.in' i hi).keep k hV, h.len⟩
  have g : b < w.heap.size := h.size.elim (fun e => by subst e; simp at hi) id
  have gv : ¬ V b := hb.elim (fun e => by subst e; simp at hi) id
  exact (k.cell (p := ⟨b, off + i, Option.none⟩) g gv).trans (h.at' i hi)
def flatT (ls : List Lt) : List St := ls.flatMap (·.l)
theorem flatT_take {ls : List Lt} {k : Nat} (hk : k < ls.length) : flatT (ls.take (k + 1)) = flatT (ls.take k) ++ (ls.getD k ⟨none, 0, []⟩).l := by
  unfold flatT
  rw [List.take_add_one, List.flatMap_append, List.getElem?_eq_getElem hk, List.getD_eq_getElem?_getD, List.getElem?_eq_getElem hk]
  simp
theorem take_oneS {l : List St} {j : Nat} (hj : j < l.length) : l.take (j + 1) = l.take j ++ [l.getD j s0] := by
  rw [List.take_add_one, List.getElem?_eq_getElem hj, List.getD_eq_getElem?_getD, List.getElem?_eq_getElem hj]
  rfl
end As
end Go.Proofs.Ytbedcplkcaanhaa
