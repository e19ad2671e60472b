/-
  PLAIN FACTS and WALKS for the law AstNamed: what is little, what the names of a call and an index are, what they are judged. Own work.
-/
import Derived.Test.YtbedcplkcaanhaaAsLight
namespace Go.Proofs.Ytbedcplkcaanhaa
namespace As
open Go.RowKit Go Rg Go.Shelf
set_option linter.unusedVariables false

theorem ret_intA {k : IntKind} {a b : Int} (h : a = b) : Ending.returned (.int k a) = .returned (.int k b) := by rw [h]
set_option maxHeartbeats 400000 in
theorem pick_8 (n : Int) (w : World) (h1 : -9223372036854775808 ≤ n) (h2 : n ≤ 9223372036854775807) (k : Nat) (hk8 : (n % 8).toNat = k) :
    Calls Try.prog 18 #[.int .i64 n, .int .i64 8] w fun e w' => e = .returned (.int .i64 (k : Int)) ∧ w' = w := by
  have hkk : n % 8 = (k : Int) := by omega
  by_cases hn : 0 ≤ n
  · have hp : 0 ≤ n % 8 := by omega
    have HK := Lib.hid hkk
    clear hkk hk8
    go_enter Try.func18, Try.ntmps18
    go_wp2
    go_ret
    exact ⟨ret_intA HK.out, rfl⟩
  · have hb1 : -8 < n.tmod 8 := Int.lt_tmod_of_pos n (by omega)
    have e1 : (-n).tmod 8 = -(n.tmod 8) := Int.neg_tmod ..
    have e2 : (-n).tmod 8 = (-n) % 8 := Int.tmod_eq_emod_of_nonneg (by omega)
    have hb2 : n.tmod 8 ≤ 0 := by omega
    have F : Hid ((n.tmod 8 < 0 → n.tmod 8 + 8 = (k : Int)) ∧ (n.tmod 8 = 0 → 0 = (k : Int))) := Lib.hid ⟨fun _ => by omega, fun _ => by omega⟩
    clear e1 e2 hkk hk8
    by_cases hz : n.tmod 8 < 0
    · go_enter Try.func18, Try.ntmps18
      go_wp2
      go_ret
      exact ⟨ret_intA (F.out.1 hz), rfl⟩
    · have hz0 : n.tmod 8 = 0 := by omega
      go_enter Try.func18, Try.ntmps18
      go_wp2
      go_ret
      exact ⟨ret_intA (F.out.2 hz0), rfl⟩
set_option maxHeartbeats 400000 in
theorem pick_6 (n : Int) (w : World) (h1 : -9223372036854775808 ≤ n) (h2 : n ≤ 9223372036854775807) (k : Nat) (hk6 : (n % 6).toNat = k) :
    Calls Try.prog 18 #[.int .i64 n, .int .i64 6] w fun e w' => e = .returned (.int .i64 (k : Int)) ∧ w' = w := by
  have hkk : n % 6 = (k : Int) := by omega
  by_cases hn : 0 ≤ n
  · have hp : 0 ≤ n % 6 := by omega
    have HK := Lib.hid hkk
    clear hkk hk6
    go_enter Try.func18, Try.ntmps18
    go_wp2
    go_ret
    exact ⟨ret_intA HK.out, rfl⟩
  · have hb1 : -6 < n.tmod 6 := Int.lt_tmod_of_pos n (by omega)
    have e1 : (-n).tmod 6 = -(n.tmod 6) := Int.neg_tmod ..
    have e2 : (-n).tmod 6 = (-n) % 6 := Int.tmod_eq_emod_of_nonneg (by omega)
    have hb2 : n.tmod 6 ≤ 0 := by omega
    have F : Hid ((n.tmod 6 < 0 → n.tmod 6 + 6 = (k : Int)) ∧ (n.tmod 6 = 0 → 0 = (k : Int))) := Lib.hid ⟨fun _ => by omega, fun _ => by omega⟩
    clear e1 e2 hkk hk6
    by_cases hz : n.tmod 6 < 0
    · go_enter Try.func18, Try.ntmps18
      go_wp2
      go_ret
      exact ⟨ret_intA (F.out.1 hz), rfl⟩
    · have hz0 : n.tmod 6 = 0 := by omega
      go_enter Try.func18, Try.ntmps18
      go_wp2
      go_ret
      exact ⟨ret_intA (F.out.2 hz0), rfl⟩
def goodL : List (List UInt8) := [[97], [95], [120, 57], [119, 104, 105, 108, 101, 115], [117, 56, 56], [122, 122, 95, 48]]
def badL : List (List UInt8) := [[], [105, 102], [117, 56], [65], [57], [97, 32, 98], [120, 45], [109, 97, 105, 110]]
theorem good_name : ∀ k : Fin 6, Lx.kindA (goodL.getD k.val []) = 1 ∧ goodL.getD k.val [] ≠ [] ∧ (goodL.getD k.val []).length ≤ 10 := by decide +kernel
theorem bad_name : ∀ k : Fin 8, Lx.kindA (badL.getD k.val []) ≠ 1 ∧ (badL.getD k.val []).length ≤ 10 := by decide +kernel
theorem snd_flat : ∀ (h : Nat) (l : List Nd) (d d' : Int), htF l ≤ h → (flatF d l).map (·.2) = (flatF d' l).map (·.2) := by
  intro h
  induction h using Nat.strongRecOn with
  | _ h ih =>
    intro l
    induction l with
    | nil => intro d d' _; simp [flatF]
    | cons e l ihl =>
      intro d d' hh
      rw [htF] at hh
      have he := htN_eq e
      rw [flatF, flatF, flatN_eq, flatN_eq, List.map_append, List.map_append, List.map_cons, List.map_cons, ihl d d' (by omega), ih (htF e.kids) (by omega) e.kids (d + 1) (d' + 1) (Nat.le_refl _)]
theorem nmL_snd (xs : List (Int × Nd)) : nmL xs = ((xs.map (·.2)).map (·.nm)).filter (fun s => !s.isEmpty) := by simp [nmL, Function.comp_def]
theorem nmL_depth (d d' : Int) (l : List Nd) : nmL (flatF d l) = nmL (flatF d' l) := by rw [nmL_snd, nmL_snd, snd_flat (htF l) l d d' (Nat.le_refl _)]
theorem nmL_app (a b : List (Int × Nd)) : nmL (a ++ b) = nmL a ++ nmL b := by simp [nmL]
theorem nmL_cons (d : Int) (e : Nd) (h : e.nm ≠ []) (xs : List (Int × Nd)) : nmL ((d, e) :: xs) = e.nm :: nmL xs := by simp [nmL, h]
/-- An index and a call of a name. -/
def nI (g : List UInt8) (r : Nat) (e : Nd) : Nd := .mk 3 0 0 0 g (some ⟨r, 0, none⟩) 1 [e]
def nC (g : List UInt8) (r : Nat) (e f : Nd) : Nd := .mk 4 0 0 0 g (some ⟨r, 0, none⟩) 2 [e, f]
theorem nI_names {g : List UInt8} (h : g ≠ []) (r : Nat) (e : Nd) : nmL (flatF 1 [nI g r e]) = g :: nmL (flatF 1 [e]) := by
  rw [flatF_one, nmL_cons _ _ (by simpa [nI, Nd.nm] using h)]
  show g :: nmL (flatF (1 + 1) [e]) = _
  rw [nmL_depth (1 + 1) 1]
theorem nC_names {g : List UInt8} (h : g ≠ []) (r : Nat) (e f : Nd) : nmL (flatF 1 [nC g r e f]) = g :: (nmL (flatF 1 [e]) ++ nmL (flatF 1 [f])) := by
  rw [flatF_one, nmL_cons _ _ (by simpa [nC, Nd.nm] using h)]
  show g :: nmL (flatF (1 + 1) [e, f]) = _
  rw [show [e, f] = [e] ++ [f] from rfl, flatF_app, nmL_app, nmL_depth (1 + 1) 1, nmL_depth (1 + 1) 1 [f]]
theorem all_snd (u : Nat → ByteArray) (xs : List (Int × Nd)) : xs.all (fun p => vN u p.2) = (xs.map (·.2)).all (vN u) := by rw [List.all_map]; rfl
theorem all_depth (u : Nat → ByteArray) (d d' : Int) (l : List Nd) : (flatF d l).all (fun p => vN u p.2) = (flatF d' l).all (fun p => vN u p.2) := by rw [all_snd, all_snd, snd_flat (htF l) l d d' (Nat.le_refl _)]
theorem chk_zero {u : Nat → ByteArray} {xs : List (Int × Nd)} (h : chk u xs = 0) : xs.all (fun p => vN u p.2) = true := by
  unfold chk at h
  by_cases ht : tooM xs = true
  · rw [if_pos ht] at h; cases h
  · rw [if_neg ht] at h
    by_cases ha : xs.all (fun p => vN u p.2) = true
    · exact ha
    · rw [if_neg ha] at h; cases h
theorem nI_ok {u : Nat → ByteArray} {g : List UInt8} (hg : Lx.kindA g = 1) (r : Nat) {e : Nd} (he : chk u (flatF 1 [e]) = 0) : chk u (flatF 1 [nI g r e]) = 0 ∨ chk u (flatF 1 [nI g r e]) = 3 := by
  have ha : (flatF 1 [nI g r e]).all (fun p => vN u p.2) = true := by
    rw [flatF_one, List.all_cons]
    have h1 : vN u (nI g r e) = true := by simp [vN, vB, nI, Nd.k, Nd.o, Nd.t, Nd.n, Nd.nm, Nd.kids, hg]
    rw [h1, Bool.true_and]
    show (flatF (1 + 1) [e]).all _ = true
    rw [all_depth u (1 + 1) 1]
    exact chk_zero he
  unfold chk
  by_cases ht : tooM (flatF 1 [nI g r e]) = true
  · right; rw [if_pos ht]
  · left; rw [if_neg ht, if_pos ha]
theorem chk_bad {u : Nat → ByteArray} {e : Nd} (h : vN u e = false) : chk u (flatF 1 [e]) = 3 ∨ chk u (flatF 1 [e]) = 2 := by
  unfold chk
  by_cases ht : tooM (flatF 1 [e]) = true
  · left; rw [if_pos ht]
  · right; rw [if_neg ht, if_neg (by rw [flatF_one, List.all_cons, h]; simp)]
theorem nI_bad (u : Nat → ByteArray) {b : List UInt8} (hb : Lx.kindA b ≠ 1) (r : Nat) (e : Nd) : vN u (nI b r e) = false := by simp [vN, vB, nI, Nd.k, Nd.o, Nd.t, Nd.n, Nd.nm, Nd.kids, hb]
theorem nC_bad (u : Nat → ByteArray) {b : List UInt8} (hb : Lx.kindA b ≠ 1) (r : Nat) (e f : Nd) : vN u (nC b r e f) = false := by simp [vN, vB, nC, Nd.k, Nd.o, Nd.t, Nd.n, Nd.nm, Nd.kids, hb]
/-- An atomic of some names. -/
def sAt (a : Option Addr) (l : List (List UInt8)) : St := .mk 10 0 0 0 [] ⟨a, l.length, l⟩ ⟨none, 0, []⟩ ⟨none, 0, []⟩ none 0 [] none 0 []
theorem sAt_parts (a : Option Addr) (l : List (List UInt8)) : partsL (flatS 1 [sAt a l]) = [(1, .s (sAt a l))] := by simp [sAt, flatS, flatT1_eq, St.kids, St.th, St.el, partsL, oneP, St.xs, St.ix, St.ex, flatF]
theorem sAt_two (u : Nat → ByteArray) (a : Option Addr) {g b : List UInt8} (hb : Lx.kindA b ≠ 1) : chkP u (partsL (flatS 1 [sAt a [g, b]])) = 2 := by
  rw [sAt_parts]
  simp [chkP, tooM, vP, vS, fitS, fB, sAt, St.k, St.li, St.t, St.n, St.nm, St.ns, St.ix, St.ex, St.th, St.el, namB, hb]
theorem sAt_one (u : Nat → ByteArray) (a : Option Addr) {g : List UInt8} (hg : Lx.kindA g = 1) : chkP u (partsL (flatS 1 [sAt a [g]])) = 0 := by
  rw [sAt_parts]
  simp [chkP, tooM, vP, vS, fitS, fB, sAt, St.k, St.li, St.t, St.n, St.nm, St.ns, St.ix, St.ex, St.th, St.el, namB, hg]
/-- Depths. -/
theorem depth_in : ∀ (h : Nat) (l : List Nd) (d : Int), htF l ≤ h → ∀ p ∈ flatF d l, d ≤ p.1 ∧ p.1 ≤ d + htF l := by
  intro h
  induction h using Nat.strongRecOn with
  | _ h ih =>
    intro l
    induction l with
    | nil => intro d _ p hp; simp [flatF] at hp
    | cons e l ihl =>
      intro d hh p hp
      rw [htF] at hh ⊢
      have he := htN_eq e
      rw [flatF, flatN_eq] at hp
      rcases List.mem_append.1 hp with hp | hp
      · rcases List.mem_cons.1 hp with rfl | hp
        · exact ⟨Int.le_refl _, by dsimp only; omega⟩
        · have := ih (htF e.kids) (by omega) e.kids (d + 1) (Nat.le_refl _) p hp
          omega
      · have := ihl d (by omega) p hp
        omega
theorem nds_kids {w : World} {N : Nat} {ao : Option Addr} {l : List Nd} (h : Nds w N ao l) : ∀ d, ∀ p ∈ flatF d l, p.2.kids.length ≤ 9223372036854775807 := by
  induction h with
  | none ao => intro d p hp; simp [flatF] at hp
  | some b off l hb hz hc hl hr ih =>
    intro d p hp
    obtain ⟨e, he, hp⟩ := flatF_mem hp
    obtain ⟨i, hi, rfl⟩ := List.getElem_of_mem he
    have hg : l.getD i d0 = l[i] := by rw [List.getD_eq_getElem?_getD, List.getElem?_eq_getElem hi]; rfl
    rw [flatF_one] at hp
    rcases List.mem_cons.1 hp with rfl | hp
    · have := hl i hi
      rw [hg] at this
      dsimp only
      omega
    · have := ih i hi (d + 1) p (by rw [hg]; exact hp)
      exact this
/-- An expression that is little, in memory. -/
structure Small (w : World) (N : Nat) (e : Nd) : Prop where
  kids : Nds w N e.ao e.kids
  cap : e.kids.length ≤ e.cap ∧ e.cap ≤ 9223372036854775807
  ht : htF [e] ≤ 300
  few : ∀ d, (flatF d [e]).length ≤ 300
  nm : ∀ d, ∀ p ∈ flatF d [e], p.2.nm.length ≤ 6019
theorem Small.keep {w w' : World} {N : Nat} {e : Nd} (h : Small w N e) (k : Below w.heap.size w w') : Small w' N e := ⟨h.kids.keep (V := fun _ => False) (Keep.of k) (fun _ h => h.elim), h.cap, h.ht, h.few, h.nm⟩
theorem small_of {w : World} {N : Nat} {e : Nd} (hk : Nds w N e.ao e.kids) (hc : e.kids.length ≤ e.cap ∧ e.cap ≤ 9223372036854775807) (hl : 0 ≤ liF [e] 300) : Small w N e := by
  have h := (li_facts (htF [e]) [e] 300 (Nat.le_refl _)).2 hl
  refine ⟨hk, hc, by have := (h 0).2.2; omega, fun d => by have := (h d).1; omega, fun d p hp => by have := (h d).2.1 p hp; omega⟩
/-- What the walks ask of a tree. -/
structure Tree (e : Nd) : Prop where
  deep : (1 : Int) + htF [e] ≤ 9223372036854775807
  fits : Fits (flatF 1 [e])
  few : (flatF 1 [e]).length ≤ 1000000
  nm : ∀ p ∈ flatF 1 [e], p.2.nm.length ≤ 281474976710656
theorem kids_of {w : World} {N : Nat} {e : Nd} (h : Small w N e) : ∀ d, ∀ p ∈ flatF d [e], p.2.kids.length ≤ 9223372036854775807 := fun d p hp => by
  rw [flatF_one] at hp
  rcases List.mem_cons.1 hp with rfl | hp
  · have := h.cap; dsimp only; omega
  · exact nds_kids h.kids _ p hp
theorem Small.tree {w : World} {N : Nat} {e : Nd} (h : Small w N e) : Tree e := by
  refine ⟨by have := h.ht; omega, fun p hp => ?_, by have := h.few 1; omega, fun p hp => by have := h.nm 1 p hp; omega⟩
  have hd := depth_in (htF [e]) [e] 1 (Nat.le_refl _) p hp
  have := h.ht
  exact ⟨by omega, by have := h.nm 1 p hp; omega, kids_of h 1 p hp⟩
theorem nI_tree {w : World} {N : Nat} {e : Nd} (h : Small w N e) {g : List UInt8} (hg : g.length ≤ 10) (r : Nat) : Tree (nI g r e) := by
  have hk : (nI g r e).kids = [e] := rfl
  have hht : htF [nI g r e] = htF [e] + 1 := by rw [htF, htN_eq, hk]; simp [htF]
  have h1 := h.ht
  refine ⟨by omega, fun p hp => ?_, by rw [flatF_one, hk]; have := h.few (1 + 1); simp only [List.length_cons]; omega, fun p hp => ?_⟩
  · have hd := depth_in (htF [nI g r e]) [nI g r e] 1 (Nat.le_refl _) p hp
    rw [flatF_one, hk] at hp
    rcases List.mem_cons.1 hp with rfl | hp
    · exact ⟨by omega, by show g.length ≤ _; omega, by show [e].length ≤ _; simp⟩
    · exact ⟨by omega, by have := h.nm _ p hp; omega, kids_of h _ p hp⟩
  · rw [flatF_one, hk] at hp
    rcases List.mem_cons.1 hp with rfl | hp
    · show g.length ≤ _; omega
    · have := h.nm _ p hp; omega
theorem nC_tree {w : World} {N N' : Nat} {e f : Nd} (h : Small w N e) (hf : Small w N' f) {g : List UInt8} (hg : g.length ≤ 10) (r : Nat) : Tree (nC g r e f) := by
  have hk : (nC g r e f).kids = [e] ++ [f] := rfl
  have hht : htF [nC g r e f] = max (htF [e]) (htF [f]) + 1 := by rw [htF, htN_eq, hk]; simp [htF]
  have h1 := h.ht
  have h2 := hf.ht
  refine ⟨by omega, fun p hp => ?_, by rw [flatF_one, hk, flatF_app]; have := h.few (1 + 1); have := hf.few (1 + 1); simp only [List.length_cons, List.length_append]; omega, fun p hp => ?_⟩
  · have hd := depth_in (htF [nC g r e f]) [nC g r e f] 1 (Nat.le_refl _) p hp
    rw [flatF_one, hk, flatF_app] at hp
    rcases List.mem_cons.1 hp with rfl | hp
    · exact ⟨by omega, by show g.length ≤ _; omega, by show ([e] ++ [f]).length ≤ _; simp⟩
    · rcases List.mem_append.1 hp with hp | hp
      · exact ⟨by omega, by have := h.nm _ p hp; omega, kids_of h _ p hp⟩
      · exact ⟨by omega, by have := hf.nm _ p hp; omega, kids_of hf _ p hp⟩
  · rw [flatF_one, hk, flatF_app] at hp
    rcases List.mem_cons.1 hp with rfl | hp
    · show g.length ≤ _; omega
    · rcases List.mem_append.1 hp with hp | hp
      · have := h.nm _ p hp; omega
      · have := hf.nm _ p hp; omega
end As
end Go.Proofs.Ytbedcplkcaanhaa
