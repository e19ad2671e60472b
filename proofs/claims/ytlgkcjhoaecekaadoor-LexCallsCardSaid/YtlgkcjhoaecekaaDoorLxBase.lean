/-
  WALKS: what a world keeps; texts as lists of bytes; a set of texts in a map[string]struct{} that the call makes. Own work.
-/
import Derived.Test.YtlgkcjhoaecekaaDoorRows
import Derived.Test.YtlgkcjhoaecekaaDoorLxSem
import Derived.WalkSpells
import Derived.WalkLawsBesides
import Derived.Lib.Hide
import Derived.Deep.QuietTactic
import Derived.BigQuiet
import Derived.Maps.Own
import Derived.Maps.OwnSet
import Derived.StringKeys
namespace Go.Proofs.YtlgkcjhoaecekaaDoor
namespace Lx
open Go.RowKit Go Go.Maps Go.WideMaps
set_option linter.unusedVariables false

/-- Nothing that was there has turned. -/
structure Kp (w w' : World) : Prop where
  below : Below w.heap.size w w'
theorem Kp.refl (w : World) : Kp w w := ⟨Below.refl _ _⟩
theorem Kp.trans {a b c : World} (h : Kp a b) (k : Kp b c) : Kp a c := ⟨h.below.trans (k.below.mono h.below.size)⟩
theorem Kp.alloc {a w : World} (h : Kp a w) (c : Array Value) (t : TypeId) : Kp a (w.alloc (.cells c t)) := ⟨h.below.alloc h.below.size _⟩
theorem Kp.setCell {a w : World} (h : Kp a w) {p : Addr} (hp : a.heap.size ≤ p.block) (u : Value) : Kp a (w.setCell p u) := ⟨h.below.setCell hp u⟩
theorem Kp.drew {a w : World} (h : Kp a w) : Kp a w.drew := ⟨h.below.drew⟩
theorem Kp.drewN {a w : World} (h : Kp a w) (n : Nat) : Kp a (w.drewN n) := ⟨⟨h.below.os, h.below.tape, h.below.output, h.below.size, h.below.block⟩⟩
theorem Kp.size {w w' : World} (h : Kp w w') : w.heap.size ≤ w'.heap.size := h.below.size
theorem Kp.cell {w w' : World} (h : Kp w w') {p : Addr} (hp : p.block < w.heap.size) : w'.cell? p = w.cell? p := h.below.cell hp
theorem Kp.fro {w w' : World} (h : Kp w w') {p : Addr} (hp : p.block < w.heap.size) : w'.frozen? p = w.frozen? p := h.below.frozen hp
theorem Kp.cells {w w' : World} (h : Kp w w') : ∀ b o, b < w.heap.size → w'.cell? ⟨b, o, none⟩ = w.cell? ⟨b, o, none⟩ := fun b o hb => h.below.cell (p := ⟨b, o, none⟩) hb
theorem Kp.fros {w w' : World} (h : Kp w w') : ∀ b o, b < w.heap.size → w'.frozen? ⟨b, o, none⟩ = w.frozen? ⟨b, o, none⟩ := fun b o hb => h.below.frozen (p := ⟨b, o, none⟩) hb

theorem ret_int {k : IntKind} {a b : Int} (h : a = b) : Ending.returned (.int k a) = .returned (.int k b) := by rw [h]
theorem ret_bool {a b : Bool} (h : a = b) : Ending.returned (.bool a) = .returned (.bool b) := by rw [h]
theorem ret_str {a b : ByteArray} (h : a = b) : Ending.returned (.string a) = .returned (.string b) := by rw [h]
theorem ret2_int {k l : IntKind} {a b c d : Int} (h : a = b) (g : c = d) : Ending.returned (.tuple #[.int k a, .int l c]) = .returned (.tuple #[.int k b, .int l d]) := by rw [h, g]
theorem block_of_cell {w : World} {a : Addr} {v : Value} (h : w.cell? a = some v) : a.block < w.heap.size := World.block_lt_of_cell? w _ h

theorem ret2_ib {k : IntKind} {a b : Int} {c d : Bool} (h : a = b) (g : c = d) : Ending.returned (.tuple #[.int k a, .bool c]) = .returned (.tuple #[.int k b, .bool d]) := by rw [h, g]
def bytesOf (l : List UInt8) : ByteArray := ⟨l.toArray⟩
theorem bytesOf_size (l : List UInt8) : (bytesOf l).size = l.length := by simp [bytesOf, ByteArray.size]
theorem bytesOf_list (l : List UInt8) : (bytesOf l).data.toList = l := rfl
theorem bytesOf_toList (l : List UInt8) : (bytesOf l).toList = l := by rw [ByteArray.toList_eq]; rfl
theorem bytesOf_append (a b : List UInt8) : bytesOf a ++ bytesOf b = bytesOf (a ++ b) := by
  unfold bytesOf
  rw [ByteArray.mk_append_mk]
theorem bytesOf_inj {a b : List UInt8} (h : bytesOf a = bytesOf b) : a = b := by
  have := congrArg (fun x => x.data.toList) h
  simpa [bytesOf] using this
theorem new_alloc {w w' : World} {cs : Array Value} {t : TypeId} (k : Kp (w.alloc (.cells cs t)) w') (o : Nat) : w'.cell? ⟨w.heap.size, o, none⟩ = cs[o]? :=
  (k.cells w.heap.size o (by simp)).trans (by simp)
theorem alloc_new_of {w w5 : World} {cs : Array Value} {t : TypeId} (h : w.alloc (.cells cs t) = w5) : (∀ o, w5.cell? ⟨w.heap.size, o, none⟩ = cs[o]?) ∧ Kp w w5 ∧ w.heap.size < w5.heap.size ∧ ∀ o, w5.frozen? ⟨w.heap.size, o, none⟩ = false := by
  subst h
  exact ⟨fun o => new_alloc (Kp.refl _) o, (Kp.refl w).alloc _ _, by simp, fun o => by simp⟩
theorem kp_map (w : World) : Kp w (w.alloc (.map #[] 0)) := ⟨(Below.refl _ w).alloc (Nat.le_refl _) _⟩
theorem kp_grown {w w1 w2 : World} (k : Kp w w1) {row : Option Nat} (h : w1.grownBy w2 row) (hr : ∀ q, row = some q → w.heap.size ≤ q) : Kp w w2 :=
  ⟨k.below.trans ⟨h.os, h.tape, h.output, h.size, fun i hi => h.block i (Nat.lt_of_lt_of_le hi k.size) (fun e => by have := hr i e.symm; omega)⟩⟩

theorem lawS : Keyed Tryd.prog 9 := string_keyed Tryd.underlying9
theorem zeroU (w : World) : (zeroValue 61).run Tryd.prog w = .ok (.agg #[]) w := by kernel_rfl
/-- Block M is a map of at most n entries that says 't s' of each text s. -/
def MapU (w : World) (M n : Nat) (t : List UInt8 → Bool) : Prop := ∃ D : DataW Unit, w.ownsMap Tryd.prog 9 unitElem M n D ∧ IsMap D ∧ ∀ s : List UInt8, Maps.has D (.string s) = t s
theorem MapU.new (w : World) : MapU (w.alloc (.map #[] 0)) w.heap.size 0 (fun _ => false) :=
  ⟨.map [], World.ownsMap_made _ _ _ _, isMap_empty, fun x => rfl⟩
theorem MapU.kp {w w' : World} {M n : Nat} {t : List UInt8 → Bool} (h : MapU w M n t) (k : Kp w w') : MapU w' M n t := by
  obtain ⟨D, ho, hD, ht⟩ := h
  have hlt := ho.lt
  obtain ⟨es, clock, hb, F, hs, e⟩ := ho
  exact ⟨D, ⟨es, clock, (k.below.block M hlt).trans hb, F, hs, e⟩, hD, ht⟩
theorem MapU.lt {w : World} {M n : Nat} {t : List UInt8 → Bool} (h : MapU w M n t) : M < w.heap.size := by
  obtain ⟨D, ho, _⟩ := h
  exact ho.lt
/-- '_, is := m[s]', at the operation. -/
theorem mapU_look (w : World) {ops : Array Oper} {rest : List Oper} {o : Oper} {a : Act} {Q : Exit → Act → World → Prop}
    (hg : o.guard = none) (m x : Operand) (hop : o.op = Op.lookup 44 m x true) (M n : Nat) (t : List UInt8 → Bool) (hm : a.eval m = .map (some M)) (h : MapU w M n t) (s : List UInt8) (hx : a.eval x = .string (bytesOf s)) (hl : s.length ≤ maxLen) (b : Bool) (hb : t s = b)
    (hK : wpList Tryd.prog ops Q rest (a.put o.dst (.tuple #[.agg #[], .bool b])) w) :
    wpList Tryd.prog ops Q (o :: rest) a w := by
  obtain ⟨D, ho, hD, ht⟩ := h
  have hs : (bytesOf s).size ≤ maxLen := by rw [bytesOf_size]; exact hl
  refine wpList_lookup_own_unit w hg m x 44 hop 9 61 lawS Tryd.underlying44 (zeroU w) M n D hm ho _ (.string s) hx (keyOf_string_mk Tryd.underlying9 hs) ?_
  rw [ht s, hb]
  exact hK
/-- An entry of a literal, at the operation. -/
theorem mapU_put (w : World) {ops : Array Oper} {rest : List Oper} {o : Oper} {a : Act} {Q : Exit → Act → World → Prop}
    (hg : o.guard = none) (m x v : Operand) (hop : o.op = Op.insert 44 m x v) (M n : Nat) (l : List (List UInt8)) (hm : a.eval m = .map (some M)) (h : MapU w M n (fun s => l.contains s)) (hn : n < maxLen) (y : List UInt8) (hx : a.eval x = .string (bytesOf y)) (hy : y.length ≤ maxLen) (hv : a.eval v = .agg #[])
    (hK : ∀ w', MapU w' M (n + 1) (fun s => (l ++ [y]).contains s) → w.grownBy w' (some M) → wpList Tryd.prog ops Q rest (a.put o.dst undef) w') :
    wpList Tryd.prog ops Q (o :: rest) a w := by
  obtain ⟨D, ho, hD, ht⟩ := h
  have hs : (bytesOf y).size ≤ maxLen := by rw [bytesOf_size]; exact hy
  refine wpList_plain hg fun K' hK' => ?_
  obtain ⟨w', hrun, r1, r2⟩ := ho.update lawS Tryd.underlying44 hn (keyOf_string_mk Tryd.underlying9 hs) (unitElem_mk (H := Unit))
  unfold Oper.wp
  simp [execOp, hop, hm, hx, hv, hrun, Result.andThen]
  refine hK' _ _ (hK w' ⟨_, r1, hD.put _ _, fun s => ?_⟩ r2)
  by_cases e : s = y
  · subst e
    have := has_put_same hD (k := .string s) (by trivial) (.agg [])
    show Maps.has (D.put (.string s) (.agg [])) (.string s) = _
    rw [this]
    simp
  · have := has_put_other (D := D) (k := .string y) (k' := .string s) (by intro q; injection q with q; exact e q) (.agg [])
    show Maps.has (D.put (.string y) (.agg [])) (.string s) = _
    rw [this, ht s]
    simp [e]
end Lx
end Go.Proofs.YtlgkcjhoaecekaaDoor
