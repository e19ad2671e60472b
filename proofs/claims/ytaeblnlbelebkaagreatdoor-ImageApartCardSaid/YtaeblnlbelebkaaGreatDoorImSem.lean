/-
  PLAIN FACTS: images as lists; when one is valid, check by check; no program. Own work.
-/
import Derived.Test.YtaeblnlbelebkaaGreatDoorCoSem
import Derived.Test.YtaeblnlbelebkaaGreatDoorLinSem
namespace Go.Proofs.YtaeblnlbelebkaaGreatDoor
namespace Im
open Co (In in0)
open Ln (Vc)
set_option linter.unusedVariables false

structure Fn where
  e : Int
  p : Int
  l : Int
  deriving DecidableEq
structure Pt where
  r : Bool
  w : Bool
  deriving DecidableEq
structure Im where
  code : List In
  funcs : List Fn
  vecs : List Vc
  main : Int
  init : List Int
  ports : List Pt
  stack : Int
  atoms : List (List Int)
def f0 : Fn := ⟨0, 0, 0⟩
def v0 : Vc := ⟨0, 0, 0⟩
def p0 : Pt := ⟨false, false⟩
def im0 : Im := ⟨[], [], [], 0, [], [], 0, []⟩
def Im.fn (m : Im) (f : Nat) : Fn := m.funcs.getD f f0
def Im.ins (m : Im) (i : Nat) : In := m.code.getD i in0
def Im.vec (m : Im) (i : Nat) : Vc := m.vecs.getD i v0
def Im.at' (m : Im) (i : Nat) : List Int := m.atoms.getD i []
def Im.fr (m : Im) (f : Nat) : Int := (m.fn f).e
def Im.to (m : Im) (f : Nat) : Int := if f + 1 < m.funcs.length then (m.fn (f + 1)).e else m.code.length

/-! ### the checks -/
def okE (p : Prop) [Decidable p] : Int := if p then 0 else 2
theorem okE_yes {p : Prop} [Decidable p] (h : p) : okE p = 0 := by unfold okE; rw [if_pos h]
theorem okE_no {p : Prop} [Decidable p] (h : ¬ p) : okE p = 2 := by unfold okE; rw [if_neg h]
def Large (m : Im) : Prop := 64 < m.funcs.length ∨ 16384 < m.code.length ∨ 32 < m.vecs.length ∨ 4096 < m.init.length ∨ 32 < m.ports.length ∨ 64 < m.atoms.length
def Deepl (m : Im) : Prop := ∃ k, k < m.atoms.length ∧ 4096 < (m.at' k).length
def Long (m : Im) : Prop := Large m ∨ Deepl m
structure FnOk (m : Im) (f : Nat) : Prop where
  lt : m.fr f < m.to f
  p0 : 0 ≤ (m.fn f).p
  pl : (m.fn f).p ≤ (m.fn f).l
  l64 : (m.fn f).l ≤ 64
def FnsB (m : Im) : Prop := m.funcs.length ≠ 0 ∧ m.fr 0 = 0 ∧ ∀ f, f < m.funcs.length → FnOk m f
def Bare (m : Im) (f : Int) : Prop := 0 ≤ f ∧ f < m.funcs.length ∧ (m.fn f.toNat).p = 0
def MainB (m : Im) : Prop := Bare m m.main
def VecsB (m : Im) : Prop := Ln.chk m.vec m.vecs.length = 0 ∧ ∀ i, i < m.vecs.length → Bare m (m.vec i).f ∧ (m.vec i).f ≠ m.main
def StackB (m : Im) : Prop := 1 ≤ m.stack ∧ m.stack ≤ 65536
def CellOk (m : Im) (k j : Nat) : Prop := 0 ≤ (m.at' k).getD j 0 ∧ (m.at' k).getD j 0 < m.init.length ∧ (0 < j → (m.at' k).getD (j - 1) 0 < (m.at' k).getD j 0)
def SecsB (m : Im) : Prop := ∀ k, k < m.atoms.length → ∀ j, j < (m.at' k).length → CellOk m k j
/-- All that an instruction of a function names is there. -/
def Finds (m : Im) (f : Nat) (i : In) : Prop :=
  if i.op = 4 ∨ i.op = 5 then 0 ≤ i.a ∧ i.a < m.init.length
  else if i.op = 6 ∨ i.op = 7 then 0 ≤ i.a + i.b - 1 ∧ i.a + i.b - 1 < m.init.length
  else if i.op = 8 ∨ i.op = 9 then i.a < (m.fn f).l
  else if i.op = 10 ∨ i.op = 11 then 0 ≤ i.a ∧ i.a < m.ports.length
  else if i.op = 17 then 0 ≤ i.a ∧ i.a < m.funcs.length
  else if i.op = 23 ∨ i.op = 24 then 0 ≤ i.a ∧ i.a < m.atoms.length
  else if i.op = 1 then (f : Int) = m.main
  else True
instance (m : Im) (f : Nat) (i : In) : Decidable (Finds m f i) := by unfold Finds; infer_instance
def jmpT (i : In) : Int := if (Co.chk i && (Co.rowAt i.op).jm) = true then i.a else 0
def jmpJ (i : In) : Bool := Co.chk i && (Co.rowAt i.op).jm
def jmpO (i : In) : Bool := Co.chk i && !(Co.rowAt i.op).sp
def Stays (i : In) (a b : Int) : Prop := jmpJ i = false ∨ (a ≤ jmpT i ∧ jmpT i < b)
instance (i : In) (a b : Int) : Decidable (Stays i a b) := by unfold Stays; infer_instance
structure InsOk (m : Im) (f : Nat) (i : In) : Prop where
  chk : Co.chk i = true
  finds : Finds m f i
  stays : Stays i (m.fr f) (m.to f)
def BodyB (m : Im) (f : Nat) : Prop := ∀ j, j < (m.to f - m.fr f).toNat → InsOk m f (m.ins ((m.fr f).toNat + j))
def InsB (m : Im) : Prop := ∀ f, f < m.funcs.length → BodyB m f
def LastOk (m : Im) (f : Nat) : Prop := jmpO (m.ins (m.to f - 1).toNat) = false
def LastB (m : Im) : Prop := ∀ f, f < m.funcs.length → LastOk m f

instance : ∀ m, Decidable (Large m) := fun m => by unfold Large; infer_instance
instance : ∀ m, Decidable (Deepl m) := fun m => decidable_of_iff (∃ k : Fin m.atoms.length, 4096 < (m.at' k.val).length) ⟨fun ⟨k, h⟩ => ⟨k.val, k.isLt, h⟩, fun ⟨k, h, g⟩ => ⟨⟨k, h⟩, g⟩⟩
instance : ∀ m, Decidable (Long m) := fun m => by unfold Long; infer_instance
instance : ∀ m f, Decidable (FnOk m f) := fun m f => decidable_of_iff (m.fr f < m.to f ∧ 0 ≤ (m.fn f).p ∧ (m.fn f).p ≤ (m.fn f).l ∧ (m.fn f).l ≤ 64) ⟨fun ⟨a, b, c, d⟩ => ⟨a, b, c, d⟩, fun ⟨a, b, c, d⟩ => ⟨a, b, c, d⟩⟩
instance : ∀ m, Decidable (FnsB m) := fun m => by unfold FnsB; infer_instance
instance : ∀ m f, Decidable (Bare m f) := fun m f => by unfold Bare; infer_instance
instance : ∀ m, Decidable (MainB m) := fun m => by unfold MainB; infer_instance
instance : ∀ m, Decidable (VecsB m) := fun m => by unfold VecsB; infer_instance
instance : ∀ m, Decidable (StackB m) := fun m => by unfold StackB; infer_instance
instance : ∀ m k j, Decidable (CellOk m k j) := fun m k j => by unfold CellOk; infer_instance
instance : ∀ m, Decidable (SecsB m) := fun m => by unfold SecsB; infer_instance
instance : ∀ m f i, Decidable (InsOk m f i) := fun m f i => decidable_of_iff (Co.chk i = true ∧ Finds m f i ∧ Stays i (m.fr f) (m.to f)) ⟨fun ⟨a, b, c⟩ => ⟨a, b, c⟩, fun ⟨a, b, c⟩ => ⟨a, b, c⟩⟩
instance : ∀ m f, Decidable (BodyB m f) := fun m f => by unfold BodyB; infer_instance
instance : ∀ m, Decidable (InsB m) := fun m => by unfold InsB; infer_instance
instance : ∀ m f, Decidable (LastOk m f) := fun m f => by unfold LastOk; infer_instance
instance : ∀ m, Decidable (LastB m) := fun m => by unfold LastB; infer_instance

/-- Valid but for circles. -/
structure May (m : Im) : Prop where
  fns : FnsB m
  main : MainB m
  vecs : VecsB m
  stack : StackB m
  secs : SecsB m
  ins : InsB m
  last : LastB m
instance : ∀ m, Decidable (May m) := fun m => decidable_of_iff (FnsB m ∧ MainB m ∧ VecsB m ∧ StackB m ∧ SecsB m ∧ InsB m ∧ LastB m) ⟨fun ⟨a, b, c, d, e, f, g⟩ => ⟨a, b, c, d, e, f, g⟩, fun ⟨a, b, c, d, e, f, g⟩ => ⟨a, b, c, d, e, f, g⟩⟩

/-! ### where functions lie -/
theorem FnsB.step {m : Im} (h : FnsB m) {f : Nat} (hf : f < m.funcs.length) : m.fr f < m.to f := (h.2.2 f hf).lt
theorem to_next {m : Im} {f : Nat} (hf : f + 1 < m.funcs.length) : m.to f = m.fr (f + 1) := by unfold Im.to Im.fr; rw [if_pos hf]
theorem to_last {m : Im} {f : Nat} (hf : ¬ f + 1 < m.funcs.length) : m.to f = m.code.length := by unfold Im.to; rw [if_neg hf]
theorem FnsB.fr0 {m : Im} (h : FnsB m) : ∀ {f : Nat}, f < m.funcs.length → 0 ≤ m.fr f
  | 0, _ => by rw [h.2.1]; decide
  | f + 1, hf => by
    have := h.fr0 (f := f) (by omega)
    have s := h.step (f := f) (by omega)
    rw [to_next hf] at s
    omega
theorem FnsB.toN {m : Im} (h : FnsB m) {f : Nat} (hf : f < m.funcs.length) : m.to f ≤ m.code.length := by
  by_cases hl : f + 1 < m.funcs.length
  · have ih := h.toN hl
    have s := h.step hl
    rw [to_next hl]; omega
  · rw [to_last hl]; exact Int.le_refl _
termination_by m.funcs.length - f
theorem FnsB.code_pos {m : Im} (h : FnsB m) : 0 < m.code.length := by
  have h0 : 0 < m.funcs.length := by have := h.1; omega
  have a := h.toN h0
  have b := h.step h0
  have c := h.fr0 h0
  omega
theorem FnsB.mono {m : Im} (h : FnsB m) : ∀ {f g : Nat}, f < g → g < m.funcs.length → m.to f ≤ m.fr g
  | f, 0, hfg, _ => absurd hfg (Nat.not_lt_zero _)
  | f, g + 1, hfg, hg => by
    by_cases e : f = g
    · subst e; rw [to_next hg]; exact Int.le_refl _
    · have := h.mono (f := f) (g := g) (by omega) (by omega)
      have s := h.step (f := g) (by omega)
      rw [to_next hg] at s
      omega

/-! ### what Of and Range answer -/
def ofK (m : Im) (a : Int) : Nat → Option Nat
  | 0 => none
  | k + 1 => match ofK m a k with
    | some f => some f
    | none => if m.fr k ≤ a ∧ a < m.to k then some k else none
theorem ofK_none {m : Im} {a : Int} : ∀ {k : Nat}, ofK m a k = none ↔ ∀ f, f < k → ¬ (m.fr f ≤ a ∧ a < m.to f)
  | 0 => by simp [ofK]
  | k + 1 => by
    have ih := ofK_none (m := m) (a := a) (k := k)
    constructor
    · intro h f hf
      simp only [ofK] at h
      cases hk : ofK m a k with
      | some g => rw [hk] at h; cases h
      | none =>
        rw [hk] at h
        by_cases e : f = k
        · subst e; intro g; simp [g] at h
        · exact ih.1 hk f (by omega)
    · intro h
      have hk := ih.2 fun f hf => h f (by omega)
      simp only [ofK, hk, if_neg (h k (by omega))]
theorem ofK_hit {m : Im} {a : Int} {k : Nat} (h : ofK m a k = none) (g : m.fr k ≤ a ∧ a < m.to k) : ∀ n, k < n → ofK m a n = some k
  | 0, hn => absurd hn (Nat.not_lt_zero _)
  | n + 1, hn => by
    by_cases e : k = n
    · subst e; simp [ofK, h, g]
    · simp [ofK, ofK_hit h g n (by omega)]
theorem ofK_some {m : Im} {a : Int} : ∀ {k f : Nat}, ofK m a k = some f → f < k ∧ m.fr f ≤ a ∧ a < m.to f
  | 0, f, h => by simp [ofK] at h
  | k + 1, f, h => by
    simp only [ofK] at h
    cases hk : ofK m a k with
    | some g =>
      rw [hk] at h
      obtain rfl := Option.some.inj h
      have := ofK_some hk
      exact ⟨by omega, this.2⟩
    | none =>
      rw [hk] at h
      by_cases g : m.fr k ≤ a ∧ a < m.to k
      · simp [g] at h; subst h; exact ⟨by omega, g⟩
      · simp [g] at h
end Im
end Go.Proofs.YtaeblnlbelebkaaGreatDoor
