/-
  From a row's data to the walks' facts: expressions that came in. No walk. Own work.
-/
import Derived.Test.YtbedcplkcaanhaaAsWalk
import Derived.Lib.SmallJoins
import Derived.Deep.Slices
import Derived.ChangeSlices
import Derived.OpenShut
namespace Go.Proofs.Ytbedcplkcaanhaa
namespace As
open Go.RowKit Go Go.ChangeShapes Go.WideShapes Go.Deep
set_option linter.unusedVariables false
set_option maxRecDepth 100000

theorem cellsE : Try.prog.cellsOf 25 = 6 := by kernel_rfl
theorem cellsI : Try.prog.cellsOf 3 = 1 := by kernel_rfl
theorem cellsU : Try.prog.cellsOf 22 = 1 := by kernel_rfl
theorem cellsS : Try.prog.cellsOf 9 = 1 := by kernel_rfl
theorem cellsL : Try.prog.cellsOf 23 = 1 := by kernel_rfl
/-- A list out of a function below a length. -/
theorem list_of {α : Type} (d : α) (n : Nat) (f : Nat → α) : ((List.range n).map f).length = n ∧ ∀ i, i < n → ((List.range n).map f).getD i d = f i :=
  ⟨by simp, fun i hi => by simp [List.getD_eq_getElem?_getD, hi]⟩
theorem flatF_mem {d : Int} {p : Int × Nd} {l : List Nd} (h : p ∈ flatF d l) : ∃ e ∈ l, p ∈ flatF d [e] := by
  induction l with
  | nil => simp [flatF] at h
  | cons x l ih =>
    rw [flatF] at h
    rcases List.mem_append.1 h with h | h
    · exact ⟨x, by simp, by rw [flatF_one]; rw [flatN_eq] at h; exact h⟩
    · obtain ⟨e, he, hp⟩ := ih h
      exact ⟨e, by simp [he], hp⟩
/-- No name longer than a text may be. -/
def NmAll (l : List Nd) : Prop := ∀ d, ∀ p ∈ flatF d l, p.2.nm.length ≤ 140737488351232
/-- Nothing in it is greater than what can be reached. -/
def Sized {H : Type} (t : TypeId) (d : DataW H) : Prop := ∀ v ∈ d.weights Try.prog t, v ≤ reachBytes
theorem sized_mem {H : Type} {e : TypeId} : ∀ {l : List (DataW H)} {d : DataW H}, d ∈ l → ∀ v ∈ d.weights Try.prog e, v ∈ DataW.weightsAll Try.prog e l := by
  intro l
  induction l with
  | nil => intro d h; cases h
  | cons a l ih =>
    intro d h v hv
    rw [DataW.weightsAll]
    rcases List.mem_cons.1 h with rfl | h
    · exact List.mem_append.2 (.inl hv)
    · exact List.mem_append.2 (.inr (ih h v hv))
theorem sized_each {H : Type} : ∀ {ts : List TypeId} {ds : List (DataW H)} {i : Nat} {t : TypeId} {d : DataW H}, ts[i]? = some t → ds[i]? = some d → ∀ v ∈ d.weights Try.prog t, v ∈ DataW.weightsEach Try.prog ts ds := by
  intro ts
  induction ts with
  | nil => intro ds i t d h; simp at h
  | cons a ts ih =>
    intro ds i t d h1 h2 v hv
    cases ds with
    | nil => simp at h2
    | cons b ds =>
      rw [DataW.weightsEach]
      cases i with
      | zero =>
        simp only [List.getElem?_cons_zero, Option.some.injEq] at h1 h2
        subst h1 h2
        exact List.mem_append.2 (.inl hv)
      | succ i => exact List.mem_append.2 (.inr (ih (by simpa using h1) (by simpa using h2) v hv))
theorem Sized.elem {H : Type} {t e : TypeId} (hu : Try.prog.underlying t = some (.slice e)) {a b : List (DataW H)} (h : Sized t (.slice a b)) {d : DataW H} (hd : d ∈ a) : Sized e d := fun v hv => by
  refine h v ?_
  rw [DataW.weights, hu]
  exact List.mem_cons_of_mem _ (List.mem_append.2 (.inl (sized_mem hd v hv)))
theorem Sized.len {H : Type} {t e : TypeId} (hu : Try.prog.underlying t = some (.slice e)) {a b : List (DataW H)} (h : Sized t (.slice a b)) : a.length * Try.prog.bytesOf e ≤ reachBytes := by
  have := h ((a.length + b.length) * Try.prog.bytesOf e) (by rw [DataW.weights, hu]; simp)
  exact Nat.le_trans (Nat.mul_le_mul_right _ (Nat.le_add_right _ _)) this
theorem Sized.part {H : Type} {t : TypeId} {fs : Array Field} (hu : Try.prog.underlying t = some (.struct fs)) {ds : List (DataW H)} (h : Sized t (.agg ds)) {i : Nat} {ft : TypeId} {d : DataW H} (hf : (fs.toList.map (·.type))[i]? = some ft) (hd : ds[i]? = some d) : Sized ft d := fun v hv => by
  refine h v ?_
  rw [DataW.weights, hu]
  exact sized_each hf hd v hv
theorem Sized.text {H : Type} {t : TypeId} {s : List UInt8} (h : Sized (H := H) t (.lit (.string s))) : s.length ≤ 140737488351232 := by
  have := h s.length (by rw [DataW.weights]; simp)
  unfold reachBytes at this
  omega
theorem bytes_of (s : ByteArray) : ∃ l : List UInt8, s = bytesOf l ∧ l.length = s.size := ⟨s.data.toList, by cases s; rfl, by rw [Array.length_toList]; rfl⟩
theorem add_pos (b off o : Nat) : (⟨b, off, none⟩ : Addr).add o = ⟨b, off + o, none⟩ := by
  by_cases ho : o = 0
  · subst ho; simp [Addr.add]
  · simp [Addr.add, ho]
section
variable {H : Type} {enc : TypeId × Value → H} {W : World}
theorem exprs_in : ∀ (fuel : Nat) {cs : List Value} {x : DataW H × List MemPlace}, DataW.trod enc Try.prog W 0 (fun _ => true) true fuel 23 cs = some x → Sized 23 x.1 →
    ∃ a0 len cap, ∃ l : List Nd, cs = [.slice a0 len cap] ∧ l.length = len ∧ Nds W W.heap.size a0 l ∧ len ≤ cap ∧ cap ≤ 9223372036854775807 ∧ NmAll l := by
  intro fuel
  induction fuel using Nat.strongRecOn with
  | _ fuel ih =>
    intro cs x h hw
    rcases DataW.trod_slice Try.underlying23 h with ⟨hc, _⟩ | ⟨a, len, cap, elems, rest, n, hfu, hc, hxx, _, hl, hm, hlen, hel, _, _⟩
    · exact ⟨none, 0, 0, [], hc, rfl, .none _, Nat.zero_le _, by decide, fun d p hp => by simp [flatF] at hp⟩
    · have hcap : cap ≤ 9223372036854775807 := by unfold maxLen at hm; omega
      by_cases h0 : len = 0
      · exact ⟨some a, len, cap, [], hc, h0.symm, .none _, hl, hcap, fun d p hp => by simp [flatF] at hp⟩
      · obtain ⟨b, off, spot⟩ := a
        have each : ∀ i, i < len → ∃ v : Nd, (∀ j, j < 6 → W.cell? ((⟨b, off, spot⟩ : Addr).add (i * 6 + j)) = some (v.cell j)) ∧ (v.kids.length ≤ v.cap ∧ v.cap ≤ 9223372036854775807) ∧ Nds W W.heap.size v.ao v.kids ∧ NmAll [v] := by
          intro i hi
          have key := hel i hi
          rw [List.getElem?_eq_getElem (by omega)] at key
          obtain ⟨cs', h1, h2⟩ := Option.bind_eq_some_iff.1 key
          rw [cellsE] at h1
          obtain ⟨_, hlen', hcell⟩ := World.cells?_some h1
          obtain ⟨xs, k, hk, hyy, _, hxl, hf⟩ := DataW.trod_struct Try.underlying25 h2
          have hse : Sized 25 (elems[i]'(by omega)).1 := by
            rw [hxx] at hw
            exact hw.elem Try.underlying23 (List.mem_map.2 ⟨_, List.getElem_mem _, rfl⟩)
          rw [hyy] at hse
          match xs, hxl, cs', hlen', hse with
          | [y0, y1, y2, y3, y4, y5], _, [v0, v1, v2, v3, v4, v5], _, hse =>
            have hs4 : Sized 9 y4.1 := hse.part (i := 4) Try.underlying25 rfl rfl
            have hs5 : Sized 23 y5.1 := hse.part (i := 5) Try.underlying25 rfl rfl
            have e0 := hcell 0 (by omega)
            have e1 := hcell 1 (by omega)
            have e2 := hcell 2 (by omega)
            have e3 := hcell 3 (by omega)
            have e4 := hcell 4 (by omega)
            have e5 := hcell 5 (by omega)
            have g0 := hf 0 _ rfl
            have g1 := hf 1 _ rfl
            have g2 := hf 2 _ rfl
            have g3 := hf 3 _ rfl
            have g4 := hf 4 _ rfl
            have g5 := hf 5 _ rfl
            simp [cellsI, cellsU, cellsS, cellsL] at g0 g1 g2 g3 g4 g5
            obtain ⟨z0, q0, _, _⟩ := DataW.trod_int Try.underlying3 g0
            obtain ⟨z1, q1, _, _⟩ := DataW.trod_int Try.underlying3 g1
            obtain ⟨z2, q2, _, _⟩ := DataW.trod_int Try.underlying3 g2
            obtain ⟨z3, q3, _, _⟩ := DataW.trod_int Try.underlying22 g3
            obtain ⟨z4, q4, r4, _⟩ := DataW.trod_string Try.underlying9 g4
            rw [r4] at hs4
            have w4 := hs4.text
            obtain ⟨ao, ln, cp, l, q5, hll, hnds, hcl, hcc, hnm⟩ := ih k (by omega) g5 hs5
            simp only [List.cons.injEq, and_true] at q0 q1 q2 q3 q4 q5
            obtain ⟨nm, rfl, hnml⟩ := bytes_of z4
            subst q0 q1 q2 q3 q4 q5
            refine ⟨.mk z0 z1 z2 z3 nm ao cp l, fun j hj => ?_, ⟨by simp only [Nd.kids, Nd.cap]; omega, by simp only [Nd.cap]; omega⟩, hnds, fun d p hp => ?_⟩
            · rw [add_add] at e0 e1 e2 e3 e4 e5
              rcases (by omega : j = 0 ∨ j = 1 ∨ j = 2 ∨ j = 3 ∨ j = 4 ∨ j = 5) with rfl | rfl | rfl | rfl | rfl | rfl
              · simpa [Nd.cell, Nd.k] using e0
              · simpa [Nd.cell, Nd.o] using e1
              · simpa [Nd.cell, Nd.t] using e2
              · simpa [Nd.cell, Nd.n] using e3
              · simpa [Nd.cell, Nd.nm] using e4
              · simpa [Nd.cell, Nd.ao, Nd.kids, Nd.cap, hll] using e5
            · rw [flatF_one] at hp
              rcases List.mem_cons.1 hp with rfl | hp
              · simp only [Nd.nm]; have : nm.length = (bytesOf nm).data.toList.length := rfl; omega
              · exact hnm _ p hp
        obtain ⟨vs, hvs⟩ := choose_lt each
        have hspot : spot = none := by simpa [Addr.add] using World.cell?_spot ((hvs 0 (by omega)).1 0 (by decide))
        subst hspot
        obtain ⟨ll, lg⟩ := list_of d0 len vs
        have hl0 : ∀ i j, i < len → j < 6 → W.cell? ⟨b, off + i * 6 + j, none⟩ = some ((vs i).cell j) := fun i j hi hj => by have := (hvs i hi).1 j hj; rwa [add_pos, ← Nat.add_assoc] at this
        refine ⟨_, len, cap, (List.range len).map vs, hc, ll, .some b off _ (World.block_lt_of_cell? W _ (hl0 0 0 (by omega) (by decide))) (World.block_lt_of_cell? W _ (hl0 0 0 (by omega) (by decide))) (fun i j hi hj => ?_) (fun i hi => ?_) (fun i hi => ?_), hl, hcap, fun d p hp => ?_⟩
        · rw [ll] at hi; rw [lg i hi]; exact hl0 i j hi hj
        · rw [ll] at hi; rw [lg i hi]; exact (hvs i hi).2.1
        · rw [ll] at hi; rw [lg i hi]; exact (hvs i hi).2.2.1
        · obtain ⟨e, he, hp⟩ := flatF_mem hp
          obtain ⟨i, hi, rfl⟩ := List.mem_map.1 he
          exact (hvs i (by simpa using hi)).2.2.2 d p hp
/-- One expression that came in. -/
theorem expr_in {v : Value} {d : DataW H} {p : List MemPlace} (h : DataW.Trod enc Try.prog W 0 (fun _ => true) true 25 v d p) (hw : Sized 25 d) {r : Reach} {b0 : Nat} (hv : Value.okWide Try.prog W r b0 25 v) :
    ∃ e : Nd, v = e.val ∧ (e.kids.length ≤ e.cap ∧ e.cap ≤ 9223372036854775807) ∧ Nds W W.heap.size e.ao e.kids ∧ NmAll [e] := by
  obtain ⟨cs, rfl, hsz⟩ := okWide_struct Try.underlying25 hv
  rw [cellsE] at hsz
  obtain ⟨fuel, h⟩ := h
  have ec : (Value.agg cs).cells.toList = cs.toList := rfl
  rw [ec] at h
  have hlen' : cs.toList.length = 6 := by simpa using hsz
  have hcs : cs = cs.toList.toArray := by simp
  obtain ⟨xs, k, hk, hyy, _, hxl, hf⟩ := DataW.trod_struct Try.underlying25 h
  have hse : Sized 25 (DataW.agg (xs.map (·.1))) := by have hd : d = DataW.agg (xs.map (·.1)) := congrArg Prod.fst hyy; rw [hd] at hw; exact hw
  clear hyy h hw
  generalize cs.toList = l' at *
  subst hcs
  match xs, hxl, l', hlen', hse with
  | [y0, y1, y2, y3, y4, y5], _, [v0, v1, v2, v3, v4, v5], _, hse =>
    have hs4 : Sized 9 y4.1 := hse.part (i := 4) Try.underlying25 rfl rfl
    have hs5 : Sized 23 y5.1 := hse.part (i := 5) Try.underlying25 rfl rfl
    have g0 := hf 0 _ rfl
    have g1 := hf 1 _ rfl
    have g2 := hf 2 _ rfl
    have g3 := hf 3 _ rfl
    have g4 := hf 4 _ rfl
    have g5 := hf 5 _ rfl
    simp [cellsI, cellsU, cellsS, cellsL] at g0 g1 g2 g3 g4 g5
    obtain ⟨z0, q0, _, _⟩ := DataW.trod_int Try.underlying3 g0
    obtain ⟨z1, q1, _, _⟩ := DataW.trod_int Try.underlying3 g1
    obtain ⟨z2, q2, _, _⟩ := DataW.trod_int Try.underlying3 g2
    obtain ⟨z3, q3, _, _⟩ := DataW.trod_int Try.underlying22 g3
    obtain ⟨z4, q4, r4, _⟩ := DataW.trod_string Try.underlying9 g4
    rw [r4] at hs4
    have w4 := hs4.text
    obtain ⟨ao, ln, cp, l, q5, hll, hnds, hcl, hcc, hnm⟩ := exprs_in k g5 hs5
    simp only [List.cons.injEq, and_true] at q0 q1 q2 q3 q4 q5
    obtain ⟨nm, rfl, hnml⟩ := bytes_of z4
    subst q0 q1 q2 q3 q4 q5
    subst hll
    refine ⟨.mk z0 z1 z2 z3 nm ao cp l, rfl, ⟨hcl, hcc⟩, hnds, fun d p hp => ?_⟩
    rw [flatF_one] at hp
    rcases List.mem_cons.1 hp with rfl | hp
    · simp only [Nd.nm]; have : nm.length = (bytesOf nm).data.toList.length := rfl; omega
    · exact hnm _ p hp
end
end As
end Go.Proofs.Ytbedcplkcaanhaa
