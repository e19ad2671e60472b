/-
  FACTS for the law AstSizes: what the operations of the region that makes three programs leave behind, and what keeps it. No walk. Own work.
-/
import Derived.Test.YtbedcplkcaanhaaAsNamedA
import Derived.Test.YtbedcplkcaanhaaAsLightS
import Derived.Test.YtbedcplkcaanhaaAsSize
import Derived.Test.YtbedcplkcaanhaaOpx
namespace Go.Proofs.Ytbedcplkcaanhaa
namespace As
open Go.RowKit Go Rg Go.Shelf
set_option linter.unusedVariables false

/-- A sum, a return, a choice. -/
def nS (r : Nat) (e f : Nd) : Nd := .mk 6 1 0 0 [] (some ⟨r, 0, none⟩) 2 [e, f]
def sR (r : Nat) (e : Nd) : St := .mk 6 0 0 0 [] ⟨none, 0, []⟩ ⟨none, 0, []⟩ ⟨some ⟨r, 0, none⟩, 1, [e]⟩ none 0 [] none 0 []
def sF (r1 r2 r3 : Nat) (e : Nd) (s : St) : St := .mk 4 0 0 0 [] ⟨none, 0, []⟩ ⟨none, 0, []⟩ ⟨some ⟨r1, 0, none⟩, 1, [e]⟩ (some ⟨r2, 0, none⟩) 1 [s] (some ⟨r3, 0, none⟩) 2 [s, s]
def pS (l : List St) : List (Int × Pt) := partsL (flatS 1 l)
def sz (l : List St) : Int := ((pS l).length : Int)
def dp (l : List St) : Int := maxD (pS l)
def up {α : Type} (p : Int × α) : Int × α := (p.1 + 1, p.2)
theorem flatF_up : ∀ (h : Nat) (l : List Nd) (d : Int), htF l ≤ h → flatF (d + 1) l = (flatF d l).map up := by
  intro h
  induction h using Nat.strongRecOn with
  | _ h ih =>
    intro l
    induction l with
    | nil => intro d _; simp [flatF]
    | cons e l ihl =>
      intro d hh
      rw [htF] at hh
      have he := htN_eq e
      rw [flatF, flatF, flatN_eq, flatN_eq, List.map_append, List.map_cons, ihl d (by omega), ih (htF e.kids) (by omega) e.kids (d + 1) (Nat.le_refl _)]
      rfl
theorem flatS_up : ∀ (h : Nat) (l : List St) (d : Int), htS l ≤ h → flatS (d + 1) l = (flatS d l).map up := by
  intro h
  induction h using Nat.strongRecOn with
  | _ h ih =>
    intro l
    induction l with
    | nil => intro d _; simp [flatS]
    | cons e l ihl =>
      intro d hh
      rw [htS] at hh
      have he := htT_eq e
      rw [flatS, flatS, flatT1_eq, flatT1_eq, List.map_append, List.map_cons, ihl d (by omega), ih (htS e.kids) (by omega) e.kids (d + 1) (Nat.le_refl _)]
      rfl
theorem parts_up (xs : List (Int × St)) : partsL (xs.map up) = (partsL xs).map up := by
  induction xs with
  | nil => rfl
  | cons p xs ih =>
    rw [List.map_cons, partsL_cons, partsL_cons, List.map_append, ih]
    congr 1
    show (p.1 + 1, Pt.s p.2) :: (flatF (p.1 + 1 + 1) p.2.xs).map ofE = _
    rw [flatF_up (htF p.2.xs) p.2.xs (p.1 + 1) (Nat.le_refl _)]
    unfold oneP
    rw [List.map_cons, List.map_map, List.map_map]
    rfl
theorem pS_up (l : List St) : partsL (flatS (1 + 1) l) = (pS l).map up := by
  rw [flatS_up (htS l) l 1 (Nat.le_refl _), parts_up]
  rfl
theorem maxD_foldl {α : Type} (xs : List (Int × α)) : ∀ m : Int, 0 ≤ m → xs.foldl (fun m p => max m p.1) m = max m (maxD xs) := by
  induction xs with
  | nil => intro m h; simp only [List.foldl_nil, maxD]; omega
  | cons x xs ih =>
    intro m h
    unfold maxD
    rw [List.foldl_cons, List.foldl_cons, ih _ (by omega), ih _ (by omega)]
    omega
theorem maxD_cons {α : Type} (x : Int × α) (xs : List (Int × α)) : maxD (x :: xs) = max (max 0 x.1) (maxD xs) := by
  show (x :: xs).foldl (fun m p => max m p.1) 0 = _
  rw [List.foldl_cons, maxD_foldl _ _ (by omega)]
theorem maxD_nn {α : Type} (xs : List (Int × α)) : 0 ≤ maxD xs := by
  cases xs with
  | nil => exact Int.le_refl _
  | cons x xs => rw [maxD_cons]; omega
theorem maxD_app {α : Type} (a b : List (Int × α)) : maxD (a ++ b) = max (maxD a) (maxD b) := by
  induction a with
  | nil => have := maxD_nn b; show maxD b = max (0 : Int) _; omega
  | cons x a ih => rw [List.cons_append, maxD_cons, maxD_cons, ih]; omega
theorem maxD_ofE (xs : List (Int × Nd)) : maxD (xs.map ofE) = maxD xs := by
  induction xs with
  | nil => rfl
  | cons x xs ih => rw [List.map_cons, maxD_cons, maxD_cons, ih]; rfl
theorem maxD_up {α : Type} (xs : List (Int × α)) (h0 : 0 < xs.length) (h : ∀ p ∈ xs, 0 ≤ p.1) : maxD (xs.map up) = maxD xs + 1 := by
  induction xs with
  | nil => simp at h0
  | cons x xs ih =>
    have hx := h x (List.mem_cons_self ..)
    rw [List.map_cons, maxD_cons, maxD_cons]
    show max (max 0 (x.1 + 1)) _ = _
    cases xs with
    | nil => simp only [List.map_nil]; show max (max 0 (x.1 + 1)) (0 : Int) = max (max 0 x.1) (0 : Int) + 1; omega
    | cons y ys => rw [ih (by simp) (fun p hp => h p (List.mem_cons_of_mem _ hp))]; omega
theorem maxD_le {α : Type} {xs : List (Int × α)} {b : Int} (h0 : 0 ≤ b) (h : ∀ p ∈ xs, p.1 ≤ b) : maxD xs ≤ b := by
  induction xs with
  | nil => exact h0
  | cons x xs ih =>
    rw [maxD_cons]
    have := h x (List.mem_cons_self ..)
    have := ih (fun p hp => h p (List.mem_cons_of_mem _ hp))
    omega
theorem any_deep {α : Type} (xs : List (Int × α)) : xs.any (fun p => decide (60 < p.1)) = decide (60 < maxD xs) := by
  induction xs with
  | nil => rfl
  | cons x xs ih =>
    rw [List.any_cons, ih, maxD_cons]
    by_cases h1 : 60 < x.1 <;> by_cases h2 : 60 < maxD xs <;> simp [h1, h2] <;> omega
/-- Depths of statements. -/
theorem depth_inS : ∀ (h : Nat) (l : List St) (d : Int), htS l ≤ h → ∀ p ∈ flatS d l, d ≤ p.1 ∧ p.1 ≤ d + htS l := by
  intro h
  induction h using Nat.strongRecOn with
  | _ h ih =>
    intro l
    induction l with
    | nil => intro d _ p hp; simp [flatS] at hp
    | cons e l ihl =>
      intro d hh p hp
      rw [htS] at hh ⊢
      have he := htT_eq e
      rw [flatS, flatT1_eq] at hp
      rcases List.mem_append.1 hp with hp | hp
      · rcases List.mem_cons.1 hp with rfl | hp
        · exact ⟨Int.le_refl _, by dsimp only; omega⟩
        · have := ih (htS e.kids) (by omega) e.kids (d + 1) (Nat.le_refl _) p hp
          omega
      · have := ihl d (by omega) p hp
        omega
theorem mem_partsE {xs : List (Int × St)} {p : Int × Pt} (h : p ∈ partsL xs) : ∃ q ∈ xs, p = (q.1, .s q.2) ∨ ∃ y ∈ flatF (q.1 + 1) q.2.xs, p = ofE y := by
  obtain ⟨q, hq, hp⟩ := List.mem_flatMap.1 h
  refine ⟨q, hq, ?_⟩
  rcases List.mem_cons.1 hp with hp | hp
  · exact .inl hp
  · obtain ⟨y, hy, rfl⟩ := List.mem_map.1 hp
    exact .inr ⟨y, hy, rfl⟩
/-- Statements that are little. -/
structure LitS (h c : Nat) (l : List St) : Prop where
  ht : htS l ≤ h
  few : ∀ d, (partsL (flatS d l)).length ≤ c
  own : ∀ d, ∀ p ∈ flatS d l, htF p.2.xs ≤ 1000 ∧ PartOk (.s p.2) ∧ ∀ d', ∀ q ∈ flatF d' p.2.xs, PartOk (.e q.2)
theorem LitS.app {h c c' : Nat} {a b : List St} (k : LitS h c a) (k' : LitS h c' b) : LitS h (c + c') (a ++ b) :=
  ⟨by rw [htS_app]; have := k.ht; have := k'.ht; omega, fun d => by rw [flatS_app, partsL_app, List.length_append]; have := k.few d; have := k'.few d; omega,
   fun d p hp => by rw [flatS_app] at hp; exact (List.mem_append.1 hp).elim (k.own d p) (k'.own d p)⟩
theorem LitS.deep {h c : Nat} {l : List St} (k : LitS h c l) (hh : h ≤ 1000) : DeepQ l := by
  have := k.ht
  refine ⟨by omega, fun p hp => ?_⟩
  have h1 := depth_inS (htS l) l 1 (Nat.le_refl _) p hp
  have h2 := (k.own 1 p hp).1
  omega
theorem LitS.fit {h c : Nat} {l : List St} (k : LitS h c l) (hh : h ≤ 1000) : FitQ (pS l) := by
  intro p hp
  have := k.ht
  obtain ⟨q, hq, e | ⟨y, hy, e⟩⟩ := mem_partsE hp
  · have h1 := depth_inS (htS l) l 1 (Nat.le_refl _) q hq
    subst e
    exact ⟨by dsimp only; omega, (k.own 1 q hq).2.1⟩
  · have h1 := depth_inS (htS l) l 1 (Nat.le_refl _) q hq
    have h2 := depth_in (htF q.2.xs) q.2.xs (q.1 + 1) (Nat.le_refl _) y hy
    have h3 := (k.own 1 q hq).1
    subst e
    exact ⟨by unfold ofE; dsimp only; omega, (k.own 1 q hq).2.2 _ y hy⟩
theorem LitS.dp {h c : Nat} {l : List St} (k : LitS h c l) (hh : h ≤ 1000) : As.dp l ≤ 3000 := by
  refine maxD_le (by decide) fun p hp => ?_
  have := k.ht
  obtain ⟨q, hq, e | ⟨y, hy, e⟩⟩ := mem_partsE hp
  · have h1 := depth_inS (htS l) l 1 (Nat.le_refl _) q hq
    subst e; dsimp only; omega
  · have h1 := depth_inS (htS l) l 1 (Nat.le_refl _) q hq
    have h2 := depth_in (htF q.2.xs) q.2.xs (q.1 + 1) (Nat.le_refl _) y hy
    have h3 := (k.own 1 q hq).1
    subst e; unfold ofE; dsimp only; omega
theorem part_e {w : World} {N : Nat} {e : Nd} (h : Small w N e) : ∀ d, ∀ q ∈ flatF d [e], PartOk (.e q.2) := fun d q hq => ⟨by have := h.nm d q hq; omega, kids_of h d q hq⟩
theorem sR_flat (d : Int) (r : Nat) (e : Nd) : flatS d [sR r e] = [(d, sR r e)] := by simp [sR, flatS, flatT1_eq, St.kids, St.th, St.el]
theorem sR_xs (r : Nat) (e : Nd) : (sR r e).xs = [e] := by simp [sR, St.xs, St.ix, St.ex]
theorem sR_parts (d : Int) (r : Nat) (e : Nd) : partsL (flatS d [sR r e]) = (d, .s (sR r e)) :: (flatF (d + 1) [e]).map ofE := by
  rw [sR_flat, partsL_one]; unfold oneP; rw [sR_xs]
theorem sR_lit {e : Nd} {c : Nat} (hc : ∀ d, (flatF d [e]).length ≤ c) (hh : htF [e] ≤ 1000) (hp : ∀ d, ∀ q ∈ flatF d [e], PartOk (.e q.2)) (r : Nat) : LitS 1 (c + 1) [sR r e] := by
  refine ⟨by simp [htS, htT_eq, sR, St.kids, St.th, St.el], fun d => ?_, fun d p hm => ?_⟩
  · rw [sR_parts]; have := hc (d + 1); simp only [List.length_cons, List.length_map]; omega
  · rw [sR_flat, List.mem_singleton] at hm
    subst hm
    dsimp only
    rw [sR_xs]
    exact ⟨hh, ⟨Nat.zero_le _, fun s hs => by cases hs⟩, hp⟩
theorem up_pos {α : Type} {xs : List (Int × α)} {d : Int} (hd : 0 ≤ d) (h : ∀ p ∈ xs, d ≤ p.1) : ∀ p ∈ xs, 0 ≤ p.1 := fun p hp => Int.le_trans hd (h p hp)
theorem flat_pos (e : Nd) : 0 < (flatF 1 [e]).length ∧ ∀ p ∈ flatF 1 [e], (0 : Int) ≤ p.1 :=
  ⟨by rw [flatF_one]; simp, fun p hp => by have := depth_in (htF [e]) [e] 1 (Nat.le_refl _) p hp; omega⟩
theorem deep_up (e : Nd) : maxD (flatF (1 + 1) [e]) = maxD (flatF 1 [e]) + 1 := by
  rw [flatF_up (htF [e]) [e] 1 (Nat.le_refl _), maxD_up _ (flat_pos e).1 (flat_pos e).2]
theorem len_up (e : Nd) : (flatF (1 + 1) [e]).length = (flatF 1 [e]).length := by
  rw [flatF_up (htF [e]) [e] 1 (Nat.le_refl _), List.length_map]
theorem deep_one (e : Nd) : 1 ≤ maxD (flatF 1 [e]) := by rw [flatF_one, maxD_cons]; dsimp only; omega
theorem sR_sz (r : Nat) (e : Nd) : sz [sR r e] = 1 + (flatF 1 [e]).length := by
  unfold sz pS
  rw [sR_parts]
  have := len_up e
  simp only [List.length_cons, List.length_map]
  omega
theorem sR_dp (r : Nat) (e : Nd) : dp [sR r e] = maxD (flatF 1 [e]) + 1 := by
  unfold dp pS
  rw [sR_parts, maxD_cons, maxD_ofE, deep_up]
  have := deep_one e
  dsimp only
  omega
theorem nS_flat (d : Int) (r : Nat) (e f : Nd) : flatF d [nS r e f] = (d, nS r e f) :: (flatF (d + 1) [e] ++ flatF (d + 1) [f]) := by
  rw [flatF_one]
  show _ :: flatF (d + 1) ([e] ++ [f]) = _
  rw [flatF_app]
theorem nS_len (r : Nat) (e f : Nd) : ((flatF 1 [nS r e f]).length : Int) = 1 + (flatF 1 [e]).length + (flatF 1 [f]).length := by
  rw [nS_flat]
  have := len_up e
  have := len_up f
  simp only [List.length_cons, List.length_append]
  omega
theorem nS_deep (r : Nat) (e f : Nd) : maxD (flatF 1 [nS r e f]) = 1 + max (maxD (flatF 1 [e])) (maxD (flatF 1 [f])) := by
  rw [nS_flat, maxD_cons, maxD_app, deep_up, deep_up]
  have := deep_one e
  dsimp only
  omega
theorem nS_chk (u : Nat → ByteArray) (r : Nat) {e f : Nd} (he : chk u (flatF 1 [e]) = 0) (hf : chk u (flatF 1 [f]) = 0) (hc : (flatF 1 [nS r e f]).length ≤ 4000) :
    chk u (flatF 1 [nS r e f]) = if maxD (flatF 1 [nS r e f]) ≤ 60 then 0 else 3 := by
  have hall : (flatF 1 [nS r e f]).all (fun p => vN u p.2) = true := by
    rw [nS_flat, List.all_cons, List.all_append, all_depth u (1 + 1) 1, all_depth u (1 + 1) 1, chk_zero he, chk_zero hf]
    simp [vN, vB, nS, Nd.k, Nd.o, Nd.t, Nd.n, Nd.nm, Nd.kids, binL]
  unfold chk
  rw [hall]
  have ht : tooM (flatF 1 [nS r e f]) = decide (60 < maxD (flatF 1 [nS r e f])) := by
    unfold tooM
    rw [any_deep, decide_eq_false (by omega : ¬ 4000 < (flatF 1 [nS r e f]).length), Bool.false_or]
  rw [ht]
  by_cases h : maxD (flatF 1 [nS r e f]) ≤ 60
  · rw [if_pos h, decide_eq_false (by omega)]; rfl
  · rw [if_neg h, decide_eq_true (by omega)]; rfl
/-- A choice's parts. -/
theorem sF_flat (d : Int) (r1 r2 r3 : Nat) (e : Nd) (s : St) : flatS d [sF r1 r2 r3 e s] = (d, sF r1 r2 r3 e s) :: (flatS (d + 1) [s] ++ (flatS (d + 1) [s] ++ flatS (d + 1) [s])) := by
  rw [flatS_one]
  show _ :: flatS (d + 1) ([s] ++ ([s] ++ [s])) = _
  rw [flatS_app, flatS_app]
theorem sF_xs (r1 r2 r3 : Nat) (e : Nd) (s : St) : (sF r1 r2 r3 e s).xs = [e] := by simp [sF, St.xs, St.ix, St.ex]
theorem sF_parts (d : Int) (r1 r2 r3 : Nat) (e : Nd) (s : St) : partsL (flatS d [sF r1 r2 r3 e s]) = (d, .s (sF r1 r2 r3 e s)) :: ((flatF (d + 1) [e]).map ofE ++ (partsL (flatS (d + 1) [s]) ++ (partsL (flatS (d + 1) [s]) ++ partsL (flatS (d + 1) [s])))) := by
  rw [sF_flat, partsL_cons, partsL_app, partsL_app]
  unfold oneP
  rw [sF_xs]
  rfl
theorem pS_pos (s : St) : 0 < (pS [s]).length ∧ ∀ p ∈ pS [s], (0 : Int) ≤ p.1 := by
  refine ⟨by unfold pS; rw [flatS_one, partsL_cons]; simp [oneP], fun p hp => ?_⟩
  obtain ⟨q, hq, e | ⟨y, hy, e⟩⟩ := mem_partsE hp
  · have h1 := depth_inS (htS [s]) [s] 1 (Nat.le_refl _) q hq
    subst e; dsimp only; omega
  · have h1 := depth_inS (htS [s]) [s] 1 (Nat.le_refl _) q hq
    have h2 := depth_in (htF q.2.xs) q.2.xs (q.1 + 1) (Nat.le_refl _) y hy
    subst e; unfold ofE; dsimp only; omega
theorem sF_sz (r1 r2 r3 : Nat) (e : Nd) (s : St) : sz [sF r1 r2 r3 e s] = 1 + (flatF 1 [e]).length + 3 * sz [s] := by
  unfold sz
  have h1 := len_up e
  have h2 : (partsL (flatS (1 + 1) [s])).length = (pS [s]).length := by rw [pS_up, List.length_map]
  rw [show pS [sF r1 r2 r3 e s] = _ from sF_parts 1 r1 r2 r3 e s]
  simp only [List.length_cons, List.length_append, List.length_map]
  omega
theorem sF_dp (r1 r2 r3 : Nat) (e : Nd) (s : St) : dp [sF r1 r2 r3 e s] = 1 + max (dp [s]) (maxD (flatF 1 [e])) := by
  unfold dp
  rw [show pS [sF r1 r2 r3 e s] = _ from sF_parts 1 r1 r2 r3 e s, pS_up, maxD_cons, maxD_app, maxD_app, maxD_app, maxD_ofE, deep_up, maxD_up _ (pS_pos s).1 (pS_pos s).2]
  have := deep_one e
  dsimp only
  omega
theorem two_sz (s : St) : sz [s, s] = 2 * sz [s] := by
  unfold sz pS
  rw [show [s, s] = [s] ++ [s] from rfl, flatS_app, partsL_app, List.length_append]
  omega
theorem two_dp (s : St) : dp [s, s] = dp [s] := by
  unfold dp pS
  rw [show [s, s] = [s] ++ [s] from rfl, flatS_app, partsL_app, maxD_app]
  omega
theorem sF_lit {w : World} {N h c : Nat} {e : Nd} {s : St} (he : Small w N e) (hs : LitS h c [s]) (r1 r2 r3 : Nat) : LitS (h + 1) (301 + 3 * c) [sF r1 r2 r3 e s] := by
  refine ⟨?_, fun d => ?_, fun d p hm => ?_⟩
  · have hk : (sF r1 r2 r3 e s).kids = [s] ++ ([s] ++ [s]) := rfl
    have := hs.ht
    rw [htS, htT_eq, hk, htS_app, htS_app]
    simp only [htS] at *
    omega
  · rw [sF_parts]
    have := he.few (d + 1)
    have := hs.few (d + 1)
    simp only [List.length_cons, List.length_append, List.length_map]
    omega
  · rw [sF_flat] at hm
    rcases List.mem_cons.1 hm with rfl | hm
    · dsimp only
      rw [sF_xs]
      exact ⟨by have := he.ht; omega, ⟨Nat.zero_le _, fun s hs => by cases hs⟩, part_e he⟩
    · rcases List.mem_append.1 hm with hm | hm
      · exact hs.own _ p hm
      · rcases List.mem_append.1 hm with hm | hm <;> exact hs.own _ p hm
/-- A statement that is little, in memory. -/
theorem lit_of {w : World} {N : Nat} {s : St} (hk : StIn w N s ∧ Sts w N s.ta s.th ∧ Sts w N s.la s.el) (hm : SmAll [s]) (hl : 0 ≤ lsF [s] 300) : LitS 300 300 [s] := by
  have h := (ls_facts (htS [s]) [s] 300 (Nat.le_refl _)).2 hl
  refine ⟨by have := h.2.2; omega, fun d => by have := h.1 d; omega, fun d p hp => ?_⟩
  have hb := h.2.1 d p hp
  have hin := in_flat (htS [s]) [s] d (Nat.le_refl _) (fun x hx => by rw [List.mem_singleton] at hx; subst hx; exact hk) p hp
  have ht := hm d p hp
  refine ⟨by have := hb.ht; omega, ⟨Nat.le_trans ht.1 (by decide), fun x hx => Nat.le_trans (ht.2.1 x hx) (by decide)⟩, fun d' q hq => ⟨?_, ?_⟩⟩
  · have := hb.xs d' q hq
    omega
  · unfold St.xs at hq
    rw [flatF_app] at hq
    exact (List.mem_append.1 hq).elim (nds_kids hin.ix d' q) (nds_kids hin.ex d' q)
/-- The row of a main, the value of its program. -/
def oD (ao : Option Addr) (n cap : Nat) : Obj := .cells #[.int .i64 2, .string ⟨#[]⟩, .slice none 0 0, .int .i64 0, .int .i64 0, .slice ao n cap, .int .i64 0] 33
def pV (R : Nat) : Value := .agg #[.int .i64 1, .slice none 0 0, .slice none 0 0, .slice (some ⟨R, 0, none⟩) 1 1]
def dM (ao : Option Addr) (cap : Nat) (l : List St) : Dc := ⟨2, [], none, 0, [], 0, 0, ⟨ao, cap, l⟩, 0⟩
def pM (R : Nat) (ao : Option Addr) (cap : Nat) (l : List St) : Pg := ⟨1, none, 0, 0, none, 0, 0, some ⟨R, 0, none⟩, 1, [dM ao cap l]⟩
theorem pM_in {w : World} {R cap h c : Nat} {ao : Option Addr} {l : List St} (hr : w.heap[R]? = some (oD ao l.length cap)) (hs : Sts w w.heap.size ao l) (hc : Capd l.length cap) (hl : LitS h c l) (hh : h ≤ 1000) (hcc : c ≤ 10000) : PgIn w w.heap.size (pM R ao cap l) := by
  have hz : R < w.heap.size := (Array.getElem?_eq_some_iff.1 hr).1
  have hb : bodL (pM R ao cap l).fs = l := by simp [bodL, pM, dM]
  refine ⟨?_, (show (1 : Nat) ≤ 1000000 by decide), by rw [hb]; exact hl.deep hh, by show FitQ (partsL (flatS 1 (bodL _))); rw [hb]; exact hl.fit hh, by show (partsL (flatS 1 (bodL _))).length ≤ _; rw [hb]; have := hl.few 1; omega⟩
  refine .inr ⟨R, 0, rfl, hz, hz, fun i j hi hj => ?_, fun d hd => ?_⟩
  · obtain rfl : i = 0 := by have : i < 1 := hi; omega
    unfold oD at hr
    rcases (by omega : j = 0 ∨ j = 1 ∨ j = 2 ∨ j = 3 ∨ j = 4 ∨ j = 5 ∨ j = 6) with rfl | rfl | rfl | rfl | rfl | rfl | rfl <;> simp [World.cell?, hr, pM, dM, Dc.cell, bytesOf]
  · obtain rfl : d = dM ao cap l := by simpa [pM] using hd
    exact ⟨.inl rfl, hs, ⟨Nat.le_refl _, Nat.zero_le _⟩, hc⟩
theorem pM_pts (R : Nat) (ao : Option Addr) (cap : Nat) (l : List St) : ptsL (pM R ao cap l).fs = pS l := by
  show partsL (flatS 1 (bodL [dM ao cap l])) = _
  have hb : bodL [dM ao cap l] = l := by simp [bodL, dM]
  rw [hb]
  rfl
theorem size_at {w : World} {R cap h c : Nat} {ao : Option Addr} {l : List St} (hr : w.heap[R]? = some (oD ao l.length cap)) (hs : Sts w w.heap.size ao l) (hc : Capd l.length cap) (hl : LitS h c l) (hh : h ≤ 1000) (hcc : c ≤ 10000) :
    Calls Try.prog 11 #[pV R] w fun r w' => r = .returned (.int .i64 (sz l)) ∧ Below w.heap.size w w' :=
  Size_any (pM R ao cap l) w (Nat.le_refl _) (pM_in hr hs hc hl hh hcc) (sz l) (by rw [pM_pts]; rfl)
theorem deep_at {w : World} {R cap h c : Nat} {ao : Option Addr} {l : List St} (hr : w.heap[R]? = some (oD ao l.length cap)) (hs : Sts w w.heap.size ao l) (hc : Capd l.length cap) (hl : LitS h c l) (hh : h ≤ 1000) (hcc : c ≤ 10000) :
    Calls Try.prog 12 #[pV R] w fun r w' => r = .returned (.int .i64 (dp l)) ∧ Below w.heap.size w w' :=
  Deep_any (pM R ao cap l) w (Nat.le_refl _) (pM_in hr hs hc hl hh hcc) (dp l) (by rw [pM_pts]; rfl)
end As
end Go.Proofs.Ytbedcplkcaanhaa
namespace Go.Proofs.Ytbedcplkcaanhaa
namespace As
open Go.RowKit Go Rg Go.Shelf
set_option linter.unusedVariables false

def oS (s : St) : Obj := .cells #[.int .i64 s.k, .int .i64 s.li, .int .i64 s.t, .int .i64 s.n, .string (bytesOf s.nm), .slice s.ns.ao s.ns.l.length s.ns.cap, .slice s.ix.ao s.ix.l.length s.ix.cap, .slice s.ex.ao s.ex.l.length s.ex.cap, .slice s.ta s.th.length s.tc, .slice s.la s.el.length s.lc] 30
def oS2 (s s' : St) : Obj := .cells #[.int .i64 s.k, .int .i64 s.li, .int .i64 s.t, .int .i64 s.n, .string (bytesOf s.nm), .slice s.ns.ao s.ns.l.length s.ns.cap, .slice s.ix.ao s.ix.l.length s.ix.cap, .slice s.ex.ao s.ex.l.length s.ex.cap, .slice s.ta s.th.length s.tc, .slice s.la s.el.length s.lc, .int .i64 s'.k, .int .i64 s'.li, .int .i64 s'.t, .int .i64 s'.n, .string (bytesOf s'.nm), .slice s'.ns.ao s'.ns.l.length s'.ns.cap, .slice s'.ix.ao s'.ix.l.length s'.ix.cap, .slice s'.ex.ao s'.ex.l.length s'.ex.cap, .slice s'.ta s'.th.length s'.tc, .slice s'.la s'.el.length s'.lc] 30
def oP (R : Nat) : Obj := .cells #[.int .i64 1, .slice none 0 0, .slice none 0 0, .slice (some ⟨R, 0, none⟩) 1 1] 38
theorem rowT_0 (w : World) (o1 o2 : Obj) : ((w.alloc o1).alloc o2).heap[w.heap.size]? = some o1 := by
  show ((w.heap.push o1).push o2)[w.heap.size]? = _
  simp [Array.getElem?_push]
theorem rows5 (w : World) (o0 o1 o2 o3 o4 : Obj) : (((((w.alloc o0).alloc o1).alloc o2).alloc o3).alloc o4).heap[w.heap.size + 0]? = some o0 ∧ (((((w.alloc o0).alloc o1).alloc o2).alloc o3).alloc o4).heap[w.heap.size + 1]? = some o1 ∧ (((((w.alloc o0).alloc o1).alloc o2).alloc o3).alloc o4).heap[w.heap.size + 2]? = some o2 ∧ (((((w.alloc o0).alloc o1).alloc o2).alloc o3).alloc o4).heap[w.heap.size + 3]? = some o3 ∧ (((((w.alloc o0).alloc o1).alloc o2).alloc o3).alloc o4).heap[w.heap.size + 4]? = some o4 := by
  have e : (((((w.alloc o0).alloc o1).alloc o2).alloc o3).alloc o4).heap = ((((w.heap.push o0).push o1).push o2).push o3).push o4 := rfl
  rw [e]
  simp only [Array.getElem?_push, Array.size_push]
  refine ⟨?_, ?_, ?_, ?_, ?_⟩ <;> repeat (first | rw [if_pos (by first | trivial | omega)] | rw [if_neg (by omega)])
/-- What a statement has lies there. -/
def InS (w : World) (N : Nat) (s : St) : Prop := StIn w N s ∧ Sts w N s.ta s.th ∧ Sts w N s.la s.el
theorem InS.keep {w w' : World} {N : Nat} {s : St} (h : InS w N s) (k : Below w.heap.size w w') : InS w' N s :=
  ⟨h.1.keep (V := fun _ => False) (Keep.of k) (fun _ h => h.elim), h.2.1.keep (V := fun _ => False) (Keep.of k) (fun _ h => h.elim), h.2.2.keep (V := fun _ => False) (Keep.of k) (fun _ h => h.elim)⟩
theorem InS.wide {w : World} {N N' : Nat} {s : St} (h : InS w N s) (k : N ≤ N') : InS w N' s := ⟨h.1.wide k, h.2.1.wide k, h.2.2.wide k⟩
theorem row_S {w : World} {N R : Nat} {s : St} (hk : InS w N s) {N' : Nat} (hN : N ≤ N') (hR : R < N') (h : w.heap[R]? = some (oS s)) : Sts w N' (some ⟨R, 0, none⟩) [s] := by
  have hz := (Array.getElem?_eq_some_iff.1 h).1
  unfold oS at h
  refine .some R 0 [s] hR hz ?_ ?_ ?_ ?_
  · intro i j hi hj
    obtain rfl : i = 0 := by simpa using hi
    simpa using st_cells h j hj
  all_goals
    intro i hi
    obtain rfl : i = 0 := by simpa using hi
  · exact hk.1.wide hN
  · exact hk.2.1.wide hN
  · exact hk.2.2.wide hN
theorem row_SS {w : World} {N R : Nat} {s : St} (hk : InS w N s) {N' : Nat} (hN : N ≤ N') (hR : R < N') (h : w.heap[R]? = some (oS2 s s)) : Sts w N' (some ⟨R, 0, none⟩) [s, s] := by
  have hz := (Array.getElem?_eq_some_iff.1 h).1
  unfold oS2 at h
  have hi2 : ∀ i, i < [s, s].length → i = 0 ∨ i = 1 := fun i hi => by have : i < 2 := hi; omega
  refine .some R 0 [s, s] hR hz ?_ ?_ ?_ ?_
  · intro i j hi hj
    rcases hi2 i hi with rfl | rfl <;> rcases (by omega : j = 0 ∨ j = 1 ∨ j = 2 ∨ j = 3 ∨ j = 4 ∨ j = 5 ∨ j = 6 ∨ j = 7 ∨ j = 8 ∨ j = 9) with rfl | rfl | rfl | rfl | rfl | rfl | rfl | rfl | rfl | rfl <;> simp [World.cell?, h, St.cell]
  all_goals
    intro i hi
    rcases hi2 i hi with rfl | rfl
  · exact hk.1.wide hN
  · exact hk.1.wide hN
  · exact hk.2.1.wide hN
  · exact hk.2.1.wide hN
  · exact hk.2.2.wide hN
  · exact hk.2.2.wide hN
theorem cells_ofE {w : World} {b : Nat} {e : Nd} (h : w.heap[b]? = some (oE e)) : w.cell? ⟨b, 0, none⟩ = some (.int .i64 e.k) ∧ w.cell? ⟨b, 1, none⟩ = some (.int .i64 e.o) ∧ w.cell? ⟨b, 2, none⟩ = some (.int .i64 e.t) ∧ w.cell? ⟨b, 3, none⟩ = some (.int .u32 e.n) ∧ w.cell? ⟨b, 4, none⟩ = some (.string (bytesOf e.nm)) ∧ w.cell? ⟨b, 5, none⟩ = some (.slice e.ao e.kids.length e.cap) := by
  unfold oE at h
  simp [World.cell?, h]
theorem cells_ofS {w : World} {b : Nat} {s : St} (h : w.heap[b]? = some (oS s)) : w.cell? ⟨b, 0, none⟩ = some (.int .i64 s.k) ∧ w.cell? ⟨b, 1, none⟩ = some (.int .i64 s.li) ∧ w.cell? ⟨b, 2, none⟩ = some (.int .i64 s.t) ∧ w.cell? ⟨b, 3, none⟩ = some (.int .i64 s.n) ∧ w.cell? ⟨b, 4, none⟩ = some (.string (bytesOf s.nm)) ∧ w.cell? ⟨b, 5, none⟩ = some (.slice s.ns.ao s.ns.l.length s.ns.cap) ∧ w.cell? ⟨b, 6, none⟩ = some (.slice s.ix.ao s.ix.l.length s.ix.cap) ∧ w.cell? ⟨b, 7, none⟩ = some (.slice s.ex.ao s.ex.l.length s.ex.cap) ∧ w.cell? ⟨b, 8, none⟩ = some (.slice s.ta s.th.length s.tc) ∧ w.cell? ⟨b, 9, none⟩ = some (.slice s.la s.el.length s.lc) := by
  unfold oS at h
  simp [World.cell?, h]
theorem inS_sR {w : World} {N R : Nat} {e : Nd} (h : Nds w N (some ⟨R, 0, none⟩) [e]) : InS w N (sR R e) :=
  ⟨⟨.inl rfl, .none _, h, ⟨Nat.le_refl _, Nat.zero_le _⟩, ⟨Nat.le_refl _, Nat.zero_le _⟩, ⟨Nat.le_refl _, show (1 : Nat) ≤ 9223372036854775807 by decide⟩, ⟨Nat.le_refl _, Nat.zero_le _⟩, ⟨Nat.le_refl _, Nat.zero_le _⟩⟩, .none _, .none _⟩
theorem inS_sF {w : World} {N r1 r2 r3 : Nat} {e : Nd} {s : St} (h : Nds w N (some ⟨r1, 0, none⟩) [e]) (h2 : Sts w N (some ⟨r2, 0, none⟩) [s]) (h3 : Sts w N (some ⟨r3, 0, none⟩) [s, s]) : InS w N (sF r1 r2 r3 e s) :=
  ⟨⟨.inl rfl, .none _, h, ⟨Nat.le_refl _, Nat.zero_le _⟩, ⟨Nat.le_refl _, Nat.zero_le _⟩, ⟨Nat.le_refl _, show (1 : Nat) ≤ 9223372036854775807 by decide⟩, ⟨Nat.le_refl _, show (1 : Nat) ≤ 9223372036854775807 by decide⟩, ⟨Nat.le_refl _, show (2 : Nat) ≤ 9223372036854775807 by decide⟩⟩, h2, h3⟩
/-- The closure that makes a return. -/
theorem ret_any (e : Nd) (w : World) :
    Calls Try.prog 27 #[e.val] w fun r w' => r = .returned (sR (w.heap.size + 1 + 1) e).val ∧ Below w.heap.size w w' ∧ w'.heap[w.heap.size + 1 + 1]? = some (oE e) := by
  unfold oE Nd.val
  go_enter Try.func27, Try.ntmps27
  go_wp2
  refine bodyPost_ret (v := (sR (w.heap.size + 1 + 1) e).val) (by simp [results, Try.results27, go_sem, sR, St.val, St.k, St.li, St.t, St.n, St.nm, St.ns, St.ix, St.ex, St.ta, St.tc, St.th, St.la, St.lc, St.el, bytesOf]) rfl ⟨rfl, ?_, ?_⟩
  · exact (((Below.refl _ w).alloc (Nat.le_refl _) _).alloc (by simp) _).alloc (by simp; omega) _
  · have := World.alloc_heap_new ((w.alloc (oE e)).alloc (.cells #[.int .i64 6, .int .i64 0, .int .i64 0, .int .i64 0, .string ⟨#[]⟩, .slice none 0 0, .slice none 0 0, .slice (some ⟨w.heap.size + 1 + 1, 0, none⟩) 1 1, .slice none 0 0, .slice none 0 0] 30)) (oE e)
    simpa [oE] using this
/-- The closure that makes a program. -/
theorem prog_any (ao : Option Addr) (n cap : Nat) (w : World) :
    Calls Try.prog 28 #[.slice ao n cap] w fun r w' => r = .returned (pV (w.heap.size + 1)) ∧ Below w.heap.size w w' ∧ w'.heap[w.heap.size + 1]? = some (oD ao n cap) := by
  unfold oD
  go_enter Try.func28, Try.ntmps28
  go_wp2
  refine bodyPost_ret (v := pV (w.heap.size + 1)) (by simp [results, Try.results28, go_sem, pV]) rfl ⟨rfl, ?_, ?_⟩
  · exact ((Below.refl _ w).alloc (Nat.le_refl _) _).alloc (by simp) _
  · exact row2_1 w _ _
/-- The program of some statements is at hand: its value; it lies in a block. -/
def PrV (l : List St) (v : Value) (w : World) : Prop := ∃ R1 ao cap, v = pV R1 ∧ w.heap[R1]? = some (oD ao l.length cap) ∧ Capd l.length cap ∧ Sts w w.heap.size ao l
def PrL (l : List St) (b : Nat) (w : World) : Prop := ∃ R1, w.heap[b]? = some (oP R1) ∧ PrV l (pV R1) w
theorem PrV.keep {l : List St} {v : Value} {w w' : World} (h : PrV l v w) (k : Below w.heap.size w w') : PrV l v w' := by
  obtain ⟨R1, ao, cap, h1, h2, h3, h4⟩ := h
  exact ⟨R1, ao, cap, h1, (k.block R1 (Array.getElem?_eq_some_iff.1 h2).1).trans h2, h3, (h4.keep (V := fun _ => False) (Keep.of k) (fun _ h => h.elim)).wide k.size⟩
theorem PrL.keep {l : List St} {b : Nat} {w w' : World} (h : PrL l b w) (k : Below w.heap.size w w') : PrL l b w' := by
  obtain ⟨R1, h1, h2⟩ := h
  exact ⟨R1, (k.block b (Array.getElem?_eq_some_iff.1 h1).1).trans h1, h2.keep k⟩
def Prs (ls : List (Nat × List St)) (w : World) : Prop := ∀ p ∈ ls, PrL p.2 p.1 w
theorem Prs.keep {ls : List (Nat × List St)} {w w' : World} (h : Prs ls w) (k : Below w.heap.size w w') : Prs ls w' := fun p hp => (h p hp).keep k
theorem size_v {l : List St} {v : Value} {w : World} {h c : Nat} (hv : PrV l v w) (hl : LitS h c l) (hh : h ≤ 1000) (hcc : c ≤ 10000) (z : Int) (hz : sz l = z) :
    Calls Try.prog 11 #[v] w fun r w' => r = .returned (.int .i64 z) ∧ Below w.heap.size w w' := by
  obtain ⟨R1, ao, cap, rfl, h2, h3, h4⟩ := hv
  rw [← hz]
  exact size_at h2 h4 h3 hl hh hcc
theorem deep_v {l : List St} {v : Value} {w : World} {h c : Nat} (hv : PrV l v w) (hl : LitS h c l) (hh : h ≤ 1000) (hcc : c ≤ 10000) (z : Int) (hz : dp l = z) :
    Calls Try.prog 12 #[v] w fun r w' => r = .returned (.int .i64 z) ∧ Below w.heap.size w w' := by
  obtain ⟨R1, ao, cap, rfl, h2, h3, h4⟩ := hv
  rw [← hz]
  exact deep_at h2 h4 h3 hl hh hcc
/-- What the law has of its two expressions and its statement. -/
structure Tri (W : World) (e f : Nd) (s : St) (w : World) : Prop where
  below : Below W.heap.size W w
  le : W.heap.size + 1 + 1 + 1 ≤ w.heap.size
  e : w.heap[W.heap.size]? = some (oE e)
  f : w.heap[W.heap.size + 1]? = some (oE f)
  s : w.heap[W.heap.size + 1 + 1]? = some (oS s)
theorem Tri.keep {W w w' : World} {e f : Nd} {s : St} (h : Tri W e f s w) (k : Below (W.heap.size + 1 + 1 + 1) w w') : Tri W e f s w' :=
  ⟨h.below.trans (k.mono (by omega)), Nat.le_trans h.le k.size, (k.block _ (by omega)).trans h.e, (k.block _ (by omega)).trans h.f, (k.block _ (by omega)).trans h.s⟩
theorem Tri.kp {W w w' : World} {e f : Nd} {s : St} (h : Tri W e f s w) (k : Below w.heap.size w w') : Tri W e f s w' := h.keep (k.mono h.le)
theorem tri_0 (W : World) (e f : Nd) (s : St) : Tri W e f s (((W.alloc (oE e)).alloc (oE f)).alloc (oS s)) := by
  refine ⟨(((Below.refl _ W).alloc (Nat.le_refl _) _).alloc (by simp) _).alloc (by simp; omega) _, by simp, ?_, ?_, ?_⟩
  · show (((W.heap.push (oE e)).push (oE f)).push (oS s))[W.heap.size]? = _
    rw [Array.getElem?_push, if_neg (by simp; omega), Array.getElem?_push, if_neg (by simp), Array.getElem?_push, if_pos rfl]
  · show (((W.heap.push (oE e)).push (oE f)).push (oS s))[W.heap.size + 1]? = _
    rw [Array.getElem?_push, if_neg (by simp), Array.getElem?_push, if_pos (by simp)]
  · show (((W.heap.push (oE e)).push (oE f)).push (oS s))[W.heap.size + 1 + 1]? = _
    rw [Array.getElem?_push, if_pos (by simp)]
/-- The sum lies in block g, its parts in block r. -/
def Sum (e f : Nd) (r g : Nat) (w : World) : Prop := w.heap[g]? = some (oE (nS r e f)) ∧ w.heap[r]? = some (oE2 e f)
theorem Sum.keep {e f : Nd} {r g : Nat} {w w' : World} (h : Sum e f r g w) (k : Below w.heap.size w w') : Sum e f r g w' :=
  ⟨(k.block g (Array.getElem?_eq_some_iff.1 h.1).1).trans h.1, (k.block r (Array.getElem?_eq_some_iff.1 h.2).1).trans h.2⟩
theorem nS_ht (r : Nat) (e f : Nd) : htF [nS r e f] = max (htF [e]) (htF [f]) + 1 := by
  rw [htF, htN_eq]
  show max (htF [e, f] + 1) (htF []) = _
  simp [htF]
theorem nS_mem {r : Nat} {e f : Nd} {d : Int} {p : Int × Nd} (h : p ∈ flatF d [nS r e f]) : p = (d, nS r e f) ∨ p ∈ flatF (d + 1) [e] ∨ p ∈ flatF (d + 1) [f] := by
  rw [nS_flat] at h
  rcases List.mem_cons.1 h with h | h
  · exact .inl h
  · exact .inr (List.mem_append.1 h)
/-- The sum as a little tree. -/
theorem nS_small {w : World} {N r : Nat} {e f : Nd} (he : Small w N e) (hf : Small w N f) : Tree (nS r e f) ∧ (∀ d, (flatF d [nS r e f]).length ≤ 601) ∧ ∀ d, ∀ q ∈ flatF d [nS r e f], PartOk (.e q.2) := by
  have hh := nS_ht r e f
  have h1 := he.ht
  have h2 := hf.ht
  have hl : ∀ d, (flatF d [nS r e f]).length ≤ 601 := fun d => by
    rw [nS_flat]
    have := he.few (d + 1)
    have := hf.few (d + 1)
    simp only [List.length_cons, List.length_append]
    omega
  have hp : ∀ d, ∀ q ∈ flatF d [nS r e f], PartOk (.e q.2) := fun d q hq => by
    rcases nS_mem hq with rfl | hq | hq
    · exact ⟨Nat.zero_le _, show (2 : Nat) ≤ 9223372036854775807 by decide⟩
    · exact part_e he _ q hq
    · exact part_e hf _ q hq
  refine ⟨⟨by omega, fun p hm => ?_, by have := hl 1; omega, fun p hm => ?_⟩, hl, hp⟩
  · have hd := depth_in (htF [nS r e f]) [nS r e f] 1 (Nat.le_refl _) p hm
    exact ⟨by omega, (hp 1 p hm).1, (hp 1 p hm).2⟩
  · rcases nS_mem hm with rfl | hm | hm
    · exact Nat.zero_le _
    · have := he.nm _ p hm; omega
    · have := hf.nm _ p hm; omega
theorem nS_kids {w : World} {N r : Nat} {e f : Nd} (he : Small w N e) (hf : Small w N f) (hN : N ≤ w.heap.size) (hr : w.heap[r]? = some (oE2 e f)) : Nds w w.heap.size (nS r e f).ao (nS r e f).kids :=
  row_2 he.kids he.cap hf.kids hf.cap hN (Array.getElem?_eq_some_iff.1 hr).1 hr
theorem check_nS {u : Nat → ByteArray} {w : World} {N r : Nat} {e f : Nd} (hu : UnT u w) (he : Small w N e) (hf : Small w N f) (hN : N ≤ w.heap.size) (hr : w.heap[r]? = some (oE2 e f)) (c : Int) (hc : chk u (flatF 1 [nS r e f]) = c) :
    Calls Try.prog 26 #[(nS r e f).val] w fun x w' => x = .returned (.int .i64 c) ∧ Below w.heap.size w w' := by
  have t := (nS_small (r := r) he hf).1
  rw [← hc]
  exact CheckExpr_any (u := u) (nS r e f) w (N := w.heap.size) (Nat.le_refl _) (nS_kids he hf hN hr) (by simp [nS, Nd.kids, Nd.cap]) t.deep t.fits hu
end As
namespace Opi
open Go.RowKit Go
variable {P : Program} {a : Act} {w : World} {o : Oper}
set_option maxRecDepth 100000 in
theorem run_eql3 {y z : Operand} {p q : Int} {b : Bool} (ho : o.op = .binOp .eql 3 y z 3) (hy : a.eval y = .int .i64 p) (hz : a.eval z = .int .i64 q) (hb : decide (p = q) = b) : (execOp a.eval o).run Try.prog w = .ok (.value (.bool b)) w := by
  subst hb
  unfold execOp
  simp only [ho, hy, hz]
  go_simp
  first | done | rfl
set_option maxRecDepth 100000 in
theorem run_neq3 {y z : Operand} {p q : Int} {b : Bool} (ho : o.op = .binOp .neq 3 y z 3) (hy : a.eval y = .int .i64 p) (hz : a.eval z = .int .i64 q) (hb : (!decide (p = q)) = b) : (execOp a.eval o).run Try.prog w = .ok (.value (.bool b)) w := by
  subst hb
  unfold execOp
  simp only [ho, hy, hz]
  go_simp
  first | done | rfl
set_option maxRecDepth 100000 in
theorem run_eqlE {y z : Operand} {p q : Int} {b : Bool} (ho : o.op = .binOp .eql 40 y z 40) (hy : a.eval y = .int .i64 p) (hz : a.eval z = .int .i64 q) (hb : decide (p = q) = b) : (execOp a.eval o).run Try.prog w = .ok (.value (.bool b)) w := by
  subst hb
  unfold execOp
  simp only [ho, hy, hz]
  go_simp
  first | done | rfl
set_option maxRecDepth 100000 in
theorem run_neq4 {y z : Operand} {p q b : Bool} (ho : o.op = .binOp .neq 4 y z 4) (hy : a.eval y = .bool p) (hz : a.eval z = .bool q) (hb : (!(p == q)) = b) : (execOp a.eval o).run Try.prog w = .ok (.value (.bool b)) w := by
  subst hb
  unfold execOp
  simp only [ho, hy, hz]
  go_simp
  first | done | rfl
set_option maxRecDepth 100000 in
theorem run_leq3 {y z : Operand} {p q : Int} {b : Bool} (ho : o.op = .binOp .leq 3 y z 3) (hy : a.eval y = .int .i64 p) (hz : a.eval z = .int .i64 q) (hb : decide (p ≤ q) = b) : (execOp a.eval o).run Try.prog w = .ok (.value (.bool b)) w := by
  subst hb
  unfold execOp
  simp only [ho, hy, hz]
  go_simp
  first | done | rfl
set_option maxRecDepth 100000 in
theorem run_add3 {y z : Operand} {p q r : Int} (ho : o.op = .binOp .add 3 y z 3) (hy : a.eval y = .int .i64 p) (hz : a.eval z = .int .i64 q) (hr : p + q = r ∧ -9223372036854775808 ≤ r ∧ r ≤ 9223372036854775807) : (execOp a.eval o).run Try.prog w = .ok (.value (.int .i64 r)) w := by
  have hw : IntKind.i64.wrap (p + q) = p + q := IntWalk.i64_in _ ⟨by omega, by omega⟩
  obtain ⟨rfl, _, _⟩ := hr
  unfold execOp
  simp only [ho, hy, hz]
  go_simp
  first | done | rfl
set_option maxRecDepth 100000 in
theorem run_sub3 {y z : Operand} {p q r : Int} (ho : o.op = .binOp .sub 3 y z 3) (hy : a.eval y = .int .i64 p) (hz : a.eval z = .int .i64 q) (hr : p - q = r ∧ -9223372036854775808 ≤ r ∧ r ≤ 9223372036854775807) : (execOp a.eval o).run Try.prog w = .ok (.value (.int .i64 r)) w := by
  have hw : IntKind.i64.wrap (p - q) = p - q := IntWalk.i64_in _ ⟨by omega, by omega⟩
  obtain ⟨rfl, _, _⟩ := hr
  unfold execOp
  simp only [ho, hy, hz]
  go_simp
  first | done | rfl
set_option maxRecDepth 100000 in
theorem run_mul3 {y z : Operand} {p q r : Int} (ho : o.op = .binOp .mul 3 y z 3) (hy : a.eval y = .int .i64 p) (hz : a.eval z = .int .i64 q) (hr : p * q = r ∧ -9223372036854775808 ≤ r ∧ r ≤ 9223372036854775807) : (execOp a.eval o).run Try.prog w = .ok (.value (.int .i64 r)) w := by
  obtain ⟨rfl, h1, h2⟩ := hr
  have hw : IntKind.i64.wrap (p * q) = p * q := IntWalk.i64_in _ ⟨h1, h2⟩
  unfold execOp
  simp only [ho, hy, hz]
  go_simp
  first | done | rfl
set_option maxRecDepth 100000 in
theorem run_max {y z : Operand} {p q r : Int} (ho : o.op = .call { callee := .builtin .max, args := #[y, z], argTypes := #[3, 3] }) (hy : a.eval y = .int .i64 p) (hz : a.eval z = .int .i64 q) (hr : max p q = r) : (execOp a.eval o).run Try.prog w = .ok (.value (.int .i64 r)) w := by
  subst hr
  unfold execOp
  simp only [ho, resolve, invoke, builtin, Sem.run_bind, Sem.run_pure, Result.andThen_ok, List.map_toArray, List.map_cons, List.map_nil, hy, hz]
  go_simp
set_option maxRecDepth 100000 in
theorem run_load_prog {y : Operand} {b R : Nat} (ho : o.op = .load 38 y) (hy : a.eval y = .pointer (some ⟨b, 0, none⟩)) (hc : w.heap[b]? = some (As.oP R)) : (execOp a.eval o).run Try.prog w = .ok (.value (As.pV R)) w := by
  unfold As.oP at hc
  have x0 : w.cell? ⟨b, 0, none⟩ = some (.int .i64 1) := by simp [World.cell?, hc]
  have x1 : w.cell? ⟨b, 1, none⟩ = some (.slice none 0 0) := by simp [World.cell?, hc]
  have x2 : w.cell? ⟨b, 2, none⟩ = some (.slice none 0 0) := by simp [World.cell?, hc]
  have x3 : w.cell? ⟨b, 3, none⟩ = some (.slice (some ⟨R, 0, none⟩) 1 1) := by simp [World.cell?, hc]
  clear hc
  unfold execOp As.pV
  simp only [ho, hy]
  go_simp
  first | done | rfl
set_option maxRecDepth 100000 in
theorem run_rowS {y : Operand} {s : As.St} (ho : o.op = .buildSlice 28 1 #[(0, y)]) (hy : a.eval y = s.val) : (execOp a.eval o).run Try.prog w = .ok (.value (.slice (some ⟨w.heap.size, 0, none⟩) 1 1)) (w.alloc (As.oS s)) := by
  unfold execOp
  simp only [ho, List.map_toArray, List.map_cons, List.map_nil, hy]
  unfold As.St.val As.oS
  go_simp
def zP : Array Value := #[.int .i64 0, .slice none 0 0, .slice none 0 0, .slice none 0 0]
set_option maxRecDepth 100000 in
theorem run_allocP (ho : o.op = .alloc 38) : (execOp a.eval o).run Try.prog w = .ok (.value (.pointer (some ⟨w.heap.size, 0, none⟩))) (w.alloc (.cells zP 38)) := by
  unfold execOp zP
  simp only [ho]
  go_simp
  first | done | rfl
def stoW (b R : Nat) (w : World) : World := (((w.setCell ⟨b, 0, none⟩ (.int .i64 1)).setCell ⟨b, 1, none⟩ (.slice none 0 0)).setCell ⟨b, 2, none⟩ (.slice none 0 0)).setCell ⟨b, 3, none⟩ (.slice (some ⟨R, 0, none⟩) 1 1)
set_option maxRecDepth 100000 in
theorem run_storeP {y z : Operand} {b R : Nat} {c0 c1 c2 c3 : Value} (ho : o.op = .store 38 y z) (hy : a.eval y = .pointer (some ⟨b, 0, none⟩)) (hz : a.eval z = As.pV R) (hc : w.heap[b]? = some (.cells #[c0, c1, c2, c3] 38)) :
    (execOp a.eval o).run Try.prog w = .ok .skip (stoW b R w) := by
  have hb := (Array.getElem?_eq_some_iff.1 hc).1
  have x0 : w.cell? ⟨b, 0, none⟩ = some c0 := by simp [World.cell?, hc]
  have x1 : w.cell? ⟨b, 1, none⟩ = some c1 := by simp [World.cell?, hc]
  have x2 : w.cell? ⟨b, 2, none⟩ = some c2 := by simp [World.cell?, hc]
  have x3 : w.cell? ⟨b, 3, none⟩ = some c3 := by simp [World.cell?, hc]
  have f0 : w.frozen? ⟨b, 0, none⟩ = false := by simp [World.frozen?, hc]
  have f1 : w.frozen? ⟨b, 1, none⟩ = false := by simp [World.frozen?, hc]
  have f2 : w.frozen? ⟨b, 2, none⟩ = false := by simp [World.frozen?, hc]
  have f3 : w.frozen? ⟨b, 3, none⟩ = false := by simp [World.frozen?, hc]
  clear hc
  unfold execOp stoW
  simp only [ho, hy, hz]
  unfold As.pV
  go_simp
theorem stoW_at {b R : Nat} {c0 c1 c2 c3 : Value} {w : World} (hc : w.heap[b]? = some (.cells #[c0, c1, c2, c3] 38)) : (stoW b R w).heap[b]? = some (As.oP R) := by
  unfold stoW As.oP
  simp [World.setCell, Array.getElem?_modify, hc]
theorem stoW_oth {b R c : Nat} {w : World} (h : c ≠ b) : (stoW b R w).heap[c]? = w.heap[c]? := by
  unfold stoW
  simp [World.setCell, Array.getElem?_modify, Ne.symm h]
theorem stoW_rest (b R : Nat) (w : World) : (stoW b R w).heap.size = w.heap.size ∧ (stoW b R w).os = w.os ∧ (stoW b R w).tape = w.tape ∧ (stoW b R w).output = w.output := by
  unfold stoW
  simp [World.setCell]
end Opi
end Go.Proofs.Ytbedcplkcaanhaa
namespace Go.Proofs.Ytbedcplkcaanhaa
namespace As
open Go.RowKit Go Rg Go.Shelf Oq Op
set_option linter.unusedVariables false

def IsR (e : Nd) (v : Value) (w : World) : Prop := ∃ R3, v = (sR R3 e).val ∧ w.heap[R3]? = some (oE e)
def IsRow (e : Nd) (v : Value) (w : World) : Prop := ∃ R2 R3, v = .slice (some ⟨R2, 0, none⟩) 1 1 ∧ w.heap[R2]? = some (oS (sR R3 e)) ∧ w.heap[R3]? = some (oE e)
def Chain (e : Nd) (R1 : Nat) (w : World) : Prop := ∃ R2 R3, w.heap[R1]? = some (oD (some ⟨R2, 0, none⟩) 1 1) ∧ w.heap[R2]? = some (oS (sR R3 e)) ∧ w.heap[R3]? = some (oE e)
def IsPe (e : Nd) (v : Value) (w : World) : Prop := ∃ R1, v = pV R1 ∧ Chain e R1 w
/-- A block for a program, from Z on. -/
def IsB (Z : Nat) (v : Value) (w : World) : Prop := ∃ b c0 c1 c2 c3, v = .pointer (some ⟨b, 0, none⟩) ∧ Z ≤ b ∧ w.heap[b]? = some (.cells #[c0, c1, c2, c3] 38)
def PrE (Z : Nat) (e : Nd) (v : Value) (w : World) : Prop := ∃ b R1, v = .pointer (some ⟨b, 0, none⟩) ∧ Z ≤ b ∧ w.heap[b]? = some (oP R1) ∧ Chain e R1 w
/-- A store of a program into block b. -/
structure Sto (b R : Nat) (w w' : World) : Prop where
  old : ∃ c0 c1 c2 c3, w.heap[b]? = some (.cells #[c0, c1, c2, c3] 38)
  new : w'.heap[b]? = some (oP R)
  oth : ∀ c, c ≠ b → w'.heap[c]? = w.heap[c]?
  size : w'.heap.size = w.heap.size
  os : w'.os = w.os
  tape : w'.tape = w.tape
  output : w'.output = w.output
theorem Sto.at {b R c : Nat} {w w' : World} (h : Sto b R w w') {cs : Array Value} {t : TypeId} (ht : t ≠ 38) (hc : w.heap[c]? = some (.cells cs t)) : w'.heap[c]? = some (.cells cs t) := by
  rw [h.oth c (fun e => ?_), hc]
  subst e
  obtain ⟨c0, c1, c2, c3, ho⟩ := h.old
  rw [ho] at hc
  simp only [Option.some.injEq, Obj.cells.injEq] at hc
  exact ht hc.2.1.symm
theorem ne_E : (25 : TypeId) ≠ 38 := by decide
theorem ne_S : (30 : TypeId) ≠ 38 := by decide
theorem ne_D : (33 : TypeId) ≠ 38 := by decide
theorem IsR.keep {e : Nd} {v : Value} {w w' : World} (h : IsR e v w) (k : Below w.heap.size w w') : IsR e v w' := by
  obtain ⟨R, h1, h2⟩ := h
  exact ⟨R, h1, (k.block R (Array.getElem?_eq_some_iff.1 h2).1).trans h2⟩
theorem IsR.sto {e : Nd} {v : Value} {b R : Nat} {w w' : World} (h : IsR e v w) (k : Sto b R w w') : IsR e v w' := by
  obtain ⟨R, h1, h2⟩ := h
  exact ⟨R, h1, k.at ne_E h2⟩
theorem IsRow.keep {e : Nd} {v : Value} {w w' : World} (h : IsRow e v w) (k : Below w.heap.size w w') : IsRow e v w' := by
  obtain ⟨R2, R3, h1, h2, h3⟩ := h
  exact ⟨R2, R3, h1, (k.block _ (Array.getElem?_eq_some_iff.1 h2).1).trans h2, (k.block _ (Array.getElem?_eq_some_iff.1 h3).1).trans h3⟩
theorem IsRow.sto {e : Nd} {v : Value} {b R : Nat} {w w' : World} (h : IsRow e v w) (k : Sto b R w w') : IsRow e v w' := by
  obtain ⟨R2, R3, h1, h2, h3⟩ := h
  exact ⟨R2, R3, h1, k.at ne_S h2, k.at ne_E h3⟩
theorem Chain.keep {e : Nd} {R1 : Nat} {w w' : World} (h : Chain e R1 w) (k : Below w.heap.size w w') : Chain e R1 w' := by
  obtain ⟨R2, R3, h1, h2, h3⟩ := h
  exact ⟨R2, R3, (k.block _ (Array.getElem?_eq_some_iff.1 h1).1).trans h1, (k.block _ (Array.getElem?_eq_some_iff.1 h2).1).trans h2, (k.block _ (Array.getElem?_eq_some_iff.1 h3).1).trans h3⟩
theorem Chain.sto {e : Nd} {R1 b R : Nat} {w w' : World} (h : Chain e R1 w) (k : Sto b R w w') : Chain e R1 w' := by
  obtain ⟨R2, R3, h1, h2, h3⟩ := h
  exact ⟨R2, R3, k.at ne_D h1, k.at ne_S h2, k.at ne_E h3⟩
theorem IsPe.keep {e : Nd} {v : Value} {w w' : World} (h : IsPe e v w) (k : Below w.heap.size w w') : IsPe e v w' := by
  obtain ⟨R1, h1, h2⟩ := h
  exact ⟨R1, h1, h2.keep k⟩
theorem IsPe.sto {e : Nd} {v : Value} {b R : Nat} {w w' : World} (h : IsPe e v w) (k : Sto b R w w') : IsPe e v w' := by
  obtain ⟨R1, h1, h2⟩ := h
  exact ⟨R1, h1, h2.sto k⟩
theorem IsB.keep {Z : Nat} {v : Value} {w w' : World} (h : IsB Z v w) (k : Below w.heap.size w w') : IsB Z v w' := by
  obtain ⟨b, c0, c1, c2, c3, h1, hZ, h2⟩ := h
  exact ⟨b, c0, c1, c2, c3, h1, hZ, (k.block _ (Array.getElem?_eq_some_iff.1 h2).1).trans h2⟩
theorem IsB.sto {Z : Nat} {v : Value} {b R : Nat} {w w' : World} (h : IsB Z v w) (k : Sto b R w w') : IsB Z v w' := by
  obtain ⟨b', c0, c1, c2, c3, h1, hZ, h2⟩ := h
  by_cases hb : b' = b
  · subst hb
    exact ⟨_, _, _, _, _, h1, hZ, k.new⟩
  · exact ⟨b', c0, c1, c2, c3, h1, hZ, (k.oth b' hb).trans h2⟩
theorem PrE.keep {Z : Nat} {e : Nd} {v : Value} {w w' : World} (h : PrE Z e v w) (k : Below w.heap.size w w') : PrE Z e v w' := by
  obtain ⟨b, R1, h1, hZ, h2, h3⟩ := h
  exact ⟨b, R1, h1, hZ, (k.block _ (Array.getElem?_eq_some_iff.1 h2).1).trans h2, h3.keep k⟩
theorem PrE.sto {Z : Nat} {e : Nd} {v : Value} {b R : Nat} {w w' : World} (h : PrE Z e v w) (hne : v ≠ .pointer (some ⟨b, 0, none⟩)) (k : Sto b R w w') : PrE Z e v w' := by
  obtain ⟨b', R1, h1, hZ, h2, h3⟩ := h
  exact ⟨b', R1, h1, hZ, (k.oth b' (fun e => hne (by rw [h1, e]))).trans h2, h3.sto k⟩
theorem sto_of {b R : Nat} {c0 c1 c2 c3 : Value} {w : World} (hc : w.heap[b]? = some (.cells #[c0, c1, c2, c3] 38)) : Sto b R w (Opi.stoW b R w) :=
  ⟨⟨_, _, _, _, hc⟩, Opi.stoW_at hc, fun c h => Opi.stoW_oth h, (Opi.stoW_rest b R w).1, (Opi.stoW_rest b R w).2.1, (Opi.stoW_rest b R w).2.2.1, (Opi.stoW_rest b R w).2.2.2⟩
/-- The three blocks are apart. -/
def Ap (x : Nat → Value) (w : World) : Prop := (∀ i, 18 ≤ i → i ≤ 20 → ∀ b, x i = .pointer (some ⟨b, 0, none⟩) → b < w.heap.size) ∧ ∀ i j, 18 ≤ i → i ≤ 20 → 18 ≤ j → j ≤ 20 → i ≠ j → ∀ b, x i = .pointer (some ⟨b, 0, none⟩) → x j ≠ .pointer (some ⟨b, 0, none⟩)
theorem Ap.none {x : Nat → Value} {w : World} (h : ∀ i, 18 ≤ i → i ≤ 20 → x i = undef) : Ap x w :=
  ⟨fun i h1 h2 b hb => (by rw [h i h1 h2] at hb; cases hb), fun i j h1 h2 _ _ _ b hb => (by rw [h i h1 h2] at hb; cases hb)⟩
theorem Ap.other {x : Nat → Value} {w w' : World} (h : Ap x w) (hs : w.heap.size ≤ w'.heap.size) {i : Nat} (hi : i < 18 ∨ 20 < i) (v : Value) : Ap (upd x i v) w' := by
  refine ⟨fun j h1 h2 b hb => ?_, fun j k h1 h2 h3 h4 hjk b hb => ?_⟩
  · rw [Opx.upd_ne (by omega)] at hb
    exact Nat.lt_of_lt_of_le (h.1 j h1 h2 b hb) hs
  · rw [Opx.upd_ne (by omega)] at hb ⊢
    exact h.2 j k h1 h2 h3 h4 hjk b hb
theorem Ap.new {x : Nat → Value} {w w' : World} (h : Ap x w) (hs : w'.heap.size = w.heap.size + 1) {i : Nat} (h1 : 18 ≤ i) (h2 : i ≤ 20) : Ap (upd x i (.pointer (some ⟨w.heap.size, 0, Option.none⟩))) w' := by
  have e : ∀ b, Value.pointer (some ⟨w.heap.size, 0, Option.none⟩) = .pointer (some ⟨b, 0, Option.none⟩) → w.heap.size = b := fun b hb => by injection hb with hb; injection hb with hb; injection hb
  refine ⟨fun j g1 g2 b hb => ?_, fun j k g1 g2 g3 g4 hjk b hb hk => ?_⟩
  · by_cases hj : j = i
    · subst hj
      rw [Opx.upd_same] at hb
      have := e b hb
      omega
    · rw [Opx.upd_ne hj] at hb
      have := h.1 j g1 g2 b hb
      omega
  · by_cases hj : j = i
    · subst hj
      rw [Opx.upd_same] at hb
      have hb' := e b hb
      rw [Opx.upd_ne (Ne.symm hjk)] at hk
      have := h.1 k g3 g4 b hk
      omega
    · rw [Opx.upd_ne hj] at hb
      by_cases hk' : k = i
      · subst hk'
        rw [Opx.upd_same] at hk
        have hb' := e b hk
        have := h.1 j g1 g2 b hb
        omega
      · rw [Opx.upd_ne hk'] at hk
        exact h.2 j k g1 g2 g3 g4 hjk b hb hk
def fRet : Value := .func (.func 27) #[] #[]
def fPrg : Value := .func (.func 28) #[] #[]
/-- What each operation leaves behind. -/
def p8 (Z : Nat) (e f g : Nd) : Nat → Value → World → Prop
  | 0, v, _ => v = fPrg
  | 1, v, _ => v = fRet
  | 2, v, _ => v = e.val
  | 3, v, w => IsR e v w
  | 4, v, w => IsRow e v w
  | 5, v, w => IsPe e v w
  | 6, v, _ => v = fPrg
  | 7, v, _ => v = fRet
  | 8, v, _ => v = f.val
  | 9, v, w => IsR f v w
  | 10, v, w => IsRow f v w
  | 11, v, w => IsPe f v w
  | 12, v, _ => v = fPrg
  | 13, v, _ => v = fRet
  | 14, v, _ => v = g.val
  | 15, v, w => IsR g v w
  | 16, v, w => IsRow g v w
  | 17, v, w => IsPe g v w
  | 18, v, w => IsB Z v w
  | 19, v, w => IsB Z v w
  | 20, v, w => IsB Z v w
  | _, _, _ => True
theorem p8.keep {Z : Nat} {e f g : Nd} {j : Nat} {u : Value} {w w' : World} (k : Below w.heap.size w w') (h : p8 Z e f g j u w) : p8 Z e f g j u w' := by
  match j, h with
  | 0, h | 1, h | 2, h | 6, h | 7, h | 8, h | 12, h | 13, h | 14, h => exact h
  | 3, h | 9, h | 15, h => exact IsR.keep h k
  | 4, h | 10, h | 16, h => exact IsRow.keep h k
  | 5, h | 11, h | 17, h => exact IsPe.keep h k
  | 18, h | 19, h | 20, h => exact IsB.keep h k
  | n + 21, h => exact h
theorem p8.sto {Z : Nat} {e f g : Nd} {j b R : Nat} {u : Value} {w w' : World} (k : Sto b R w w') (h : p8 Z e f g j u w) : p8 Z e f g j u w' := by
  match j, h with
  | 0, h | 1, h | 2, h | 6, h | 7, h | 8, h | 12, h | 13, h | 14, h => exact h
  | 3, h | 9, h | 15, h => exact IsR.sto h k
  | 4, h | 10, h | 16, h => exact IsRow.sto h k
  | 5, h | 11, h | 17, h => exact IsPe.sto h k
  | 18, h | 19, h | 20, h => exact IsB.sto h k
  | n + 21, h => exact h
def q8 (Z : Nat) (e f g : Nd) (j : Nat) (x : Nat → Value) (w : World) : Prop :=
  if j = 21 then PrE Z e (x 18) w else if j = 22 then PrE Z f (x 19) w else if j = 23 then PrE Z g (x 20) w else p8 Z e f g j (x j) w
theorem q8.low {Z : Nat} {e f g : Nd} {j : Nat} {x : Nat → Value} {w : World} (hj : j ≤ 20) : q8 Z e f g j x w = p8 Z e f g j (x j) w := by
  unfold q8
  rw [if_neg (by omega), if_neg (by omega), if_neg (by omega)]
theorem q8.keep {Z : Nat} {e f g : Nd} {i j : Nat} {v : Value} {x : Nat → Value} {w w' : World} (hji : j ≠ i) (h1 : j = 21 → i ≠ 18) (h2 : j = 22 → i ≠ 19) (h3 : j = 23 → i ≠ 20) (k : Below w.heap.size w w') (h : q8 Z e f g j x w) : q8 Z e f g j (upd x i v) w' := by
  unfold q8 at *
  by_cases a : j = 21
  · rw [if_pos a] at h ⊢
    rw [Opx.upd_ne (Ne.symm (h1 a))]
    exact h.keep k
  rw [if_neg a] at h ⊢
  by_cases a2 : j = 22
  · rw [if_pos a2] at h ⊢
    rw [Opx.upd_ne (Ne.symm (h2 a2))]
    exact h.keep k
  rw [if_neg a2] at h ⊢
  by_cases a3 : j = 23
  · rw [if_pos a3] at h ⊢
    rw [Opx.upd_ne (Ne.symm (h3 a3))]
    exact h.keep k
  rw [if_neg a3] at h ⊢
  rw [Opx.upd_ne hji]
  exact p8.keep k h
/-- A store, by number i (21 to 23) into the block of number i - 3. -/
theorem q8.sto {Z : Nat} {e f g : Nd} {i j b R : Nat} {v : Value} {x : Nat → Value} {w w' : World} (hji : j ≠ i) (hi : 21 ≤ i) (hi2 : i ≤ 23) (hap : Ap x w) (hb : x (i - 3) = .pointer (some ⟨b, 0, none⟩)) (k : Sto b R w w') (h : q8 Z e f g j x w) : q8 Z e f g j (upd x i v) w' := by
  unfold q8 at *
  by_cases a : j = 21
  · rw [if_pos a] at h ⊢
    rw [Opx.upd_ne (by omega)]
    exact h.sto (hap.2 (i - 3) 18 (by omega) (by omega) (by omega) (by omega) (by omega) b hb) k
  rw [if_neg a] at h ⊢
  by_cases a2 : j = 22
  · rw [if_pos a2] at h ⊢
    rw [Opx.upd_ne (by omega)]
    exact h.sto (hap.2 (i - 3) 19 (by omega) (by omega) (by omega) (by omega) (by omega) b hb) k
  rw [if_neg a2] at h ⊢
  by_cases a3 : j = 23
  · rw [if_pos a3] at h ⊢
    rw [Opx.upd_ne (by omega)]
    exact h.sto (hap.2 (i - 3) 20 (by omega) (by omega) (by omega) (by omega) (by omega) b hb) k
  rw [if_neg a3] at h ⊢
  rw [Opx.upd_ne hji]
  exact p8.sto k h
theorem Tri.sto {W w w' : World} {e f : Nd} {s : St} {b R : Nat} (h : Tri W e f s w) (hb : W.heap.size + 1 + 1 + 1 ≤ b) (k : Sto b R w w') : Tri W e f s w' :=
  ⟨h.below.trans ⟨k.os, k.tape, k.output, by rw [k.size]; exact Nat.le_refl _, fun c hc => k.oth c (by omega)⟩, by rw [k.size]; exact h.le, (k.oth _ (by omega)).trans h.e, (k.oth _ (by omega)).trans h.f, (k.oth _ (by omega)).trans h.s⟩
theorem Sum.sto {e f : Nd} {r g : Nat} {w w' : World} {b R : Nat} (h : Sum e f r g w) (k : Sto b R w w') : Sum e f r g w' := ⟨k.at ne_E h.1, k.at ne_E h.2⟩
/-- A program of one return, at hand. -/
theorem prl_of {w : World} {N : Nat} {e : Nd} {Z : Nat} {v : Value} (hk : Nds w N e.ao e.kids) (hc : e.kids.length ≤ e.cap ∧ e.cap ≤ 9223372036854775807) (hN : N ≤ w.heap.size) (h : PrE Z e v w) : ∃ b R, v = .pointer (some ⟨b, 0, none⟩) ∧ PrL [sR R e] b w := by
  obtain ⟨b, R1, h1, _, h2, R2, R3, g1, g2, g3⟩ := h
  have z2 := (Array.getElem?_eq_some_iff.1 g2).1
  have z3 := (Array.getElem?_eq_some_iff.1 g3).1
  refine ⟨b, R3, h1, R1, h2, R1, some ⟨R2, 0, none⟩, 1, rfl, g1, ⟨Nat.le_refl _, by decide⟩, ?_⟩
  exact row_S (N := w.heap.size) (inS_sR (row_1 hk hc hN z3 g3)) (Nat.le_refl _) z2 g2
end As
end Go.Proofs.Ytbedcplkcaanhaa
