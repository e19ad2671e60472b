/-
  PLAIN FACTS: expressions as trees that know where their parts lie; the memory that holds them. Own work.
-/
import Derived.Test.YtbedcplkcaanhaaRg
namespace Go.Proofs.Ytbedcplkcaanhaa
namespace As
open Go.RowKit Go Rg
set_option linter.unusedVariables false

def bytesOf (l : List UInt8) : ByteArray := ⟨l.toArray⟩
/-- An expression, and where the row of its parts lies. -/
inductive Nd where
  | mk (k o t n : Int) (nm : List UInt8) (ao : Option Addr) (cap : Nat) (kids : List Nd)
instance : Inhabited Nd := ⟨.mk 0 0 0 0 [] none 0 []⟩
def d0 : Nd := .mk 0 0 0 0 [] none 0 []
def Nd.k : Nd → Int | .mk k _ _ _ _ _ _ _ => k
def Nd.o : Nd → Int | .mk _ o _ _ _ _ _ _ => o
def Nd.t : Nd → Int | .mk _ _ t _ _ _ _ _ => t
def Nd.n : Nd → Int | .mk _ _ _ n _ _ _ _ => n
def Nd.nm : Nd → List UInt8 | .mk _ _ _ _ nm _ _ _ => nm
def Nd.ao : Nd → Option Addr | .mk _ _ _ _ _ ao _ _ => ao
def Nd.cap : Nd → Nat | .mk _ _ _ _ _ _ cap _ => cap
def Nd.kids : Nd → List Nd | .mk _ _ _ _ _ _ _ ks => ks
/-- Its six cells. -/
def Nd.cell (e : Nd) : Nat → Value
  | 0 => .int .i64 e.k
  | 1 => .int .i64 e.o
  | 2 => .int .i64 e.t
  | 3 => .int .u32 e.n
  | 4 => .string (bytesOf e.nm)
  | _ => .slice e.ao e.kids.length e.cap
def Nd.val (e : Nd) : Value := .agg #[.int .i64 e.k, .int .i64 e.o, .int .i64 e.t, .int .u32 e.n, .string (bytesOf e.nm), .slice e.ao e.kids.length e.cap]
/-- A row of expressions lies there, whole, in blocks below N. -/
inductive Nds (w : World) (N : Nat) : Option Addr → List Nd → Prop
  | none (ao : Option Addr) : Nds w N ao []
  | some (b off : Nat) (l : List Nd) (hb : b < N) (hz : b < w.heap.size)
      (hc : ∀ i j, i < l.length → j < 6 → w.cell? ⟨b, off + i * 6 + j, Option.none⟩ = Option.some ((l.getD i d0).cell j))
      (hl : ∀ i, i < l.length → (l.getD i d0).kids.length ≤ (l.getD i d0).cap ∧ (l.getD i d0).cap ≤ 9223372036854775807)
      (hr : ∀ i, i < l.length → Nds w N (l.getD i d0).ao (l.getD i d0).kids) : Nds w N (Option.some ⟨b, off, Option.none⟩) l
theorem Nds.keep {w w' : World} {N : Nat} {V : Nat → Prop} (k : Keep V w w') (hV : ∀ b, V b → N ≤ b) : ∀ {ao : Option Addr} {l : List Nd}, Nds w N ao l → Nds w' N ao l := by
  intro ao l h
  induction h with
  | none ao => exact .none ao
  | some b off l hb hz hc hl hr ih =>
    exact .some b off l hb (Nat.lt_of_lt_of_le hz k.size) (fun i j hi hj => (k.cell (p := ⟨b, off + i * 6 + j, Option.none⟩) hz (fun e => by have := hV b e; omega)).trans (hc i j hi hj)) hl (fun i hi => ih i hi)
theorem Nds.at {w : World} {N : Nat} {ao : Option Addr} {l : List Nd} (h : Nds w N ao l) {i : Nat} (hi : i < l.length) :
    ∃ b off, ao = Option.some ⟨b, off, Option.none⟩ ∧ b < N ∧ b < w.heap.size ∧ (∀ j, j < 6 → w.cell? ⟨b, off + i * 6 + j, Option.none⟩ = Option.some ((l.getD i d0).cell j)) ∧ ((l.getD i d0).kids.length ≤ (l.getD i d0).cap ∧ (l.getD i d0).cap ≤ 9223372036854775807) ∧ Nds w N (l.getD i d0).ao (l.getD i d0).kids := by
  cases h with
  | none => simp at hi
  | some b off _ hb hz hc hl hr => exact ⟨b, off, rfl, hb, hz, fun j hj => hc i j hi hj, hl i hi, hr i hi⟩
theorem Nds.wide {w : World} {N N' : Nat} (h : N ≤ N') {ao : Option Addr} {l : List Nd} (k : Nds w N ao l) : Nds w N' ao l := by
  induction k with
  | none ao => exact .none ao
  | some b off l hb hz hc hl hr ih => exact .some b off l (by omega) hz hc hl (fun i hi => ih i hi)
/-- Lists of expressions: a row of slices. -/
structure Ls where
  ao : Option Addr
  cap : Nat
  l : List Nd
/-- The row of lists lies there. -/
structure LsIn (w : World) (N : Nat) (b off : Nat) (ls : List Ls) : Prop where
  size : b < w.heap.size
  at' : ∀ i, i < ls.length → w.cell? ⟨b, off + i, Option.none⟩ = Option.some (.slice (ls.getD i ⟨none, 0, []⟩).ao (ls.getD i ⟨none, 0, []⟩).l.length (ls.getD i ⟨none, 0, []⟩).cap)
  in' : ∀ i, i < ls.length → Nds w N (ls.getD i ⟨none, 0, []⟩).ao (ls.getD i ⟨none, 0, []⟩).l
  len : ∀ i, i < ls.length → (ls.getD i ⟨none, 0, []⟩).l.length ≤ 9223372036854775807
theorem LsIn.keep {w w' : World} {N : Nat} {V : Nat → Prop} {b off : Nat} {ls : List Ls} (h : LsIn w N b off ls) (k : Keep V w w') (hV : ∀ b, V b → N ≤ b) (hb : ¬ V b) : LsIn w' N b off ls :=
  ⟨Nat.lt_of_lt_of_le h.size k.size, fun i hi => (k.cell (p := ⟨b, off + i, Option.none⟩) h.size hb).trans (h.at' i hi), fun i hi => (h.in' i hi).keep k hV, h.len⟩
def flatL (ls : List Ls) : List Nd := ls.flatMap (·.l)
theorem flat_take {ls : List Ls} {k : Nat} (hk : k < ls.length) : flatL (ls.take (k + 1)) = flatL (ls.take k) ++ (ls.getD k ⟨none, 0, []⟩).l := by
  unfold flatL
  rw [List.take_add_one, List.flatMap_append, List.getElem?_eq_getElem hk, List.getD_eq_getElem?_getD, List.getElem?_eq_getElem hk]
  simp
theorem take_one {l : List Nd} {j : Nat} (hj : j < l.length) : l.take (j + 1) = l.take j ++ [l.getD j d0] := by
  rw [List.take_add_one, List.getElem?_eq_getElem hj, List.getD_eq_getElem?_getD, List.getElem?_eq_getElem hj]
  rfl
end As
end Go.Proofs.Ytbedcplkcaanhaa
