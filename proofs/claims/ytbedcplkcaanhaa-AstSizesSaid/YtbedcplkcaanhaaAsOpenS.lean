/-
  From a row's data to the walks' facts: texts and statements that came in. No walk. Own work.
-/
import Derived.Test.YtbedcplkcaanhaaAsOpen
import Derived.Test.YtbedcplkcaanhaaAsStmt
namespace Go.Proofs.Ytbedcplkcaanhaa
namespace As
open Go.RowKit Go Go.ChangeShapes Go.WideShapes Go.Deep
set_option linter.unusedVariables false
set_option maxRecDepth 100000

theorem cellsT : Try.prog.cellsOf 30 = 10 := by kernel_rfl
theorem cellsN : Try.prog.cellsOf 27 = 1 := by kernel_rfl
theorem bytesS : Try.prog.bytesOf 9 = 16 := by kernel_rfl
theorem cellsM : Try.prog.cellsOf 28 = 1 := by kernel_rfl
theorem flatS_mem {d : Int} {p : Int × St} {l : List St} (h : p ∈ flatS d l) : ∃ e ∈ l, p ∈ flatS d [e] := by
  induction l with
  | nil => simp [flatS] at h
  | cons x l ih =>
    rw [flatS] at h
    rcases List.mem_append.1 h with h | h
    · exact ⟨x, by simp, by rw [flatS_one]; rw [flatT1_eq] at h; exact h⟩
    · obtain ⟨e, he, hp⟩ := ih h
      exact ⟨e, by simp [he], hp⟩
/-- No text of a statement longer than any text. -/
def TxAll (s : St) : Prop := s.nm.length ≤ 140737488351232 ∧ (∀ x ∈ s.ns.l, x.length ≤ 140737488351232) ∧ s.ns.l.length ≤ 8796093022207 ∧ NmAll s.ix.l ∧ NmAll s.ex.l
def SmAll (l : List St) : Prop := ∀ d, ∀ p ∈ flatS d l, TxAll p.2
section
variable {H : Type} {enc : TypeId × Value → H} {W : World}
theorem texts_in {fuel : Nat} {cs : List Value} {x : DataW H × List MemPlace} (h : DataW.trod enc Try.prog W 0 (fun _ => true) true fuel 27 cs = some x) (hw : Sized 27 x.1) :
    ∃ a0 len cap, ∃ l : List (List UInt8), cs = [.slice a0 len cap] ∧ l.length = len ∧ Txs W W.heap.size ⟨a0, cap, l⟩ ∧ len ≤ cap ∧ cap ≤ 9223372036854775807 ∧ (∀ s ∈ l, s.length ≤ 140737488351232) ∧ len ≤ 8796093022207 := by
  rcases DataW.trod_slice Try.underlying27 h with ⟨hc, _⟩ | ⟨a, len, cap, elems, rest, n, hfu, hc, hxx, _, hl, hm, hlen, hel, _, _⟩
  · exact ⟨none, 0, 0, [], hc, rfl, .inl rfl, Nat.zero_le _, by decide, fun s hs => (by cases hs), by decide⟩
  · rw [hxx] at hw
    have hbl : len ≤ 8796093022207 := by
      have := hw.len Try.underlying27
      rw [bytesS, List.length_map, hlen] at this
      unfold reachBytes at this
      omega
    have hcap : cap ≤ 9223372036854775807 := by unfold maxLen at hm; omega
    by_cases h0 : len = 0
    · exact ⟨some a, len, cap, [], hc, h0.symm, .inl rfl, hl, hcap, fun s hs => (by cases hs), hbl⟩
    · obtain ⟨b, off, spot⟩ := a
      have each : ∀ i, i < len → ∃ v : List UInt8, W.cell? ((⟨b, off, spot⟩ : Addr).add i) = some (.string (bytesOf v)) ∧ v.length ≤ 140737488351232 := by
        intro i hi
        have key := hel i hi
        rw [List.getElem?_eq_getElem (by omega)] at key
        obtain ⟨cs', h1, h2⟩ := Option.bind_eq_some_iff.1 key
        rw [cellsS] at h1
        obtain ⟨_, hlen', hcell⟩ := World.cells?_some h1
        match cs', hlen' with
        | [v0], _ =>
          have e0 := hcell 0 (by omega)
          obtain ⟨z, q, rz, _⟩ := DataW.trod_string Try.underlying9 h2
          have hse : Sized 9 (elems[i]'(by omega)).1 := hw.elem Try.underlying27 (List.mem_map.2 ⟨_, List.getElem_mem _, rfl⟩)
          rw [rz] at hse
          have wz := hse.text
          simp only [List.cons.injEq, and_true] at q
          subst q
          obtain ⟨nm, rfl, hnml⟩ := bytes_of z
          exact ⟨nm, by rw [add_add] at e0; simpa using e0, by have : nm.length = (bytesOf nm).data.toList.length := rfl; omega⟩
      obtain ⟨vs, hvs⟩ := choose_lt each
      have hspot : spot = none := by simpa [Addr.add] using World.cell?_spot (hvs 0 (by omega)).1
      subst hspot
      obtain ⟨ll, lg⟩ := list_of ([] : List UInt8) len vs
      have hl0 : ∀ i, i < len → W.cell? ⟨b, off + i, none⟩ = some (.string (bytesOf (vs i))) := fun i hi => by have := (hvs i hi).1; rwa [add_pos] at this
      refine ⟨_, len, cap, (List.range len).map vs, hc, ll, .inr ⟨b, off, rfl, World.block_lt_of_cell? W _ (hl0 0 (by omega)), World.block_lt_of_cell? W _ (hl0 0 (by omega)), fun i hi => ?_⟩, hl, hcap, fun s hs => ?_, hbl⟩
      · dsimp only at hi ⊢
        rw [ll] at hi; rw [lg i hi]; exact hl0 i hi
      · obtain ⟨i, hi, rfl⟩ := List.mem_map.1 hs
        exact (hvs i (by simpa using hi)).2
theorem stmts_in : ∀ (fuel : Nat) {cs : List Value} {x : DataW H × List MemPlace}, DataW.trod enc Try.prog W 0 (fun _ => true) true fuel 28 cs = some x → Sized 28 x.1 →
    ∃ a0 len cap, ∃ l : List St, cs = [.slice a0 len cap] ∧ l.length = len ∧ Sts W W.heap.size a0 l ∧ len ≤ cap ∧ cap ≤ 9223372036854775807 ∧ SmAll l := by
  intro fuel
  induction fuel using Nat.strongRecOn with
  | _ fuel ih =>
    intro cs x h hw
    rcases DataW.trod_slice Try.underlying28 h with ⟨hc, _⟩ | ⟨a, len, cap, elems, rest, n, hfu, hc, hxx, _, hl, hm, hlen, hel, _, _⟩
    · exact ⟨none, 0, 0, [], hc, rfl, .none _, Nat.zero_le _, by decide, fun d p hp => by simp [flatS] at hp⟩
    · have hcap : cap ≤ 9223372036854775807 := by unfold maxLen at hm; omega
      by_cases h0 : len = 0
      · exact ⟨some a, len, cap, [], hc, h0.symm, .none _, hl, hcap, fun d p hp => by simp [flatS] at hp⟩
      · obtain ⟨b, off, spot⟩ := a
        have each : ∀ i, i < len → ∃ v : St, (∀ j, j < 10 → W.cell? ((⟨b, off, spot⟩ : Addr).add (i * 10 + j)) = some (v.cell j)) ∧ StIn W W.heap.size v ∧ Sts W W.heap.size v.ta v.th ∧ Sts W W.heap.size v.la v.el ∧ SmAll [v] := by
          intro i hi
          have key := hel i hi
          rw [List.getElem?_eq_getElem (by omega)] at key
          obtain ⟨cs', h1, h2⟩ := Option.bind_eq_some_iff.1 key
          rw [cellsT] at h1
          obtain ⟨_, hlen', hcell⟩ := World.cells?_some h1
          obtain ⟨xs, k, hk, hyy, _, hxl, hf⟩ := DataW.trod_struct Try.underlying30 h2
          have hse : Sized 30 (elems[i]'(by omega)).1 := by
            rw [hxx] at hw
            exact hw.elem Try.underlying28 (List.mem_map.2 ⟨_, List.getElem_mem _, rfl⟩)
          rw [hyy] at hse
          match xs, hxl, cs', hlen', hse with
          | [y0, y1, y2, y3, y4, y5, y6, y7, y8, y9], _, [v0, v1, v2, v3, v4, v5, v6, v7, v8, v9], _, hse =>
            have hs4 : Sized 9 y4.1 := hse.part (i := 4) Try.underlying30 rfl rfl
            have hs5 : Sized 27 y5.1 := hse.part (i := 5) Try.underlying30 rfl rfl
            have hs6 : Sized 23 y6.1 := hse.part (i := 6) Try.underlying30 rfl rfl
            have hs7 : Sized 23 y7.1 := hse.part (i := 7) Try.underlying30 rfl rfl
            have hs8 : Sized 28 y8.1 := hse.part (i := 8) Try.underlying30 rfl rfl
            have hs9 : Sized 28 y9.1 := hse.part (i := 9) Try.underlying30 rfl rfl
            have e0 := hcell 0 (by omega)
            have e1 := hcell 1 (by omega)
            have e2 := hcell 2 (by omega)
            have e3 := hcell 3 (by omega)
            have e4 := hcell 4 (by omega)
            have e5 := hcell 5 (by omega)
            have e6 := hcell 6 (by omega)
            have e7 := hcell 7 (by omega)
            have e8 := hcell 8 (by omega)
            have e9 := hcell 9 (by omega)
            have g0 := hf 0 _ rfl
            have g1 := hf 1 _ rfl
            have g2 := hf 2 _ rfl
            have g3 := hf 3 _ rfl
            have g4 := hf 4 _ rfl
            have g5 := hf 5 _ rfl
            have g6 := hf 6 _ rfl
            have g7 := hf 7 _ rfl
            have g8 := hf 8 _ rfl
            have g9 := hf 9 _ rfl
            simp [cellsI, cellsS, cellsL, cellsN, cellsM] at g0 g1 g2 g3 g4 g5 g6 g7 g8 g9
            obtain ⟨z0, q0, _, _⟩ := DataW.trod_int Try.underlying3 g0
            obtain ⟨z1, q1, _, _⟩ := DataW.trod_int Try.underlying3 g1
            obtain ⟨z2, q2, _, _⟩ := DataW.trod_int Try.underlying3 g2
            obtain ⟨z3, q3, _, _⟩ := DataW.trod_int Try.underlying3 g3
            obtain ⟨z4, q4, r4, _⟩ := DataW.trod_string Try.underlying9 g4
            rw [r4] at hs4
            have w4 := hs4.text
            obtain ⟨a5, n5, c5, l5, q5, hl5, ht5, hc5, hd5, hx5, hm5⟩ := texts_in g5 hs5
            obtain ⟨a6, n6, c6, l6, q6, hl6, ht6, hc6, hd6, hx6⟩ := exprs_in k g6 hs6
            obtain ⟨a7, n7, c7, l7, q7, hl7, ht7, hc7, hd7, hx7⟩ := exprs_in k g7 hs7
            obtain ⟨a8, n8, c8, l8, q8, hl8, ht8, hc8, hd8, hx8⟩ := ih k (by omega) g8 hs8
            obtain ⟨a9, n9, c9, l9, q9, hl9, ht9, hc9, hd9, hx9⟩ := ih k (by omega) g9 hs9
            simp only [List.cons.injEq, and_true] at q0 q1 q2 q3 q4 q5 q6 q7 q8 q9
            obtain ⟨nm, rfl, hnml⟩ := bytes_of z4
            subst q0 q1 q2 q3 q4 q5 q6 q7 q8 q9
            subst hl5 hl6 hl7 hl8 hl9
            refine ⟨.mk z0 z1 z2 z3 nm ⟨a5, c5, l5⟩ ⟨a6, c6, l6⟩ ⟨a7, c7, l7⟩ a8 c8 l8 a9 c9 l9, fun j hj => ?_, ⟨ht5, ht6, ht7, ⟨hc5, hd5⟩, ⟨hc6, hd6⟩, ⟨hc7, hd7⟩, ⟨hc8, hd8⟩, ⟨hc9, hd9⟩⟩, ht8, ht9, fun d p hp => ?_⟩
            · rw [add_add] at e0 e1 e2 e3 e4 e5 e6 e7 e8 e9
              rcases (by omega : j = 0 ∨ j = 1 ∨ j = 2 ∨ j = 3 ∨ j = 4 ∨ j = 5 ∨ j = 6 ∨ j = 7 ∨ j = 8 ∨ j = 9) with rfl | rfl | rfl | rfl | rfl | rfl | rfl | rfl | rfl | rfl
              · simpa [St.cell, St.k] using e0
              · simpa [St.cell, St.li] using e1
              · simpa [St.cell, St.t] using e2
              · simpa [St.cell, St.n] using e3
              · simpa [St.cell, St.nm] using e4
              · simpa [St.cell, St.ns] using e5
              · simpa [St.cell, St.ix] using e6
              · simpa [St.cell, St.ex] using e7
              · simpa [St.cell, St.ta, St.th, St.tc] using e8
              · simpa [St.cell, St.la, St.el, St.lc] using e9
            · rw [flatS_one] at hp
              rcases List.mem_cons.1 hp with rfl | hp
              · exact ⟨by simp only [St.nm]; have : nm.length = (bytesOf nm).data.toList.length := rfl; omega, hx5, hm5, hx6, hx7⟩
              · unfold St.kids at hp
                rw [flatS_app] at hp
                exact (List.mem_append.1 hp).elim (hx8 _ p) (hx9 _ p)
        obtain ⟨vs, hvs⟩ := choose_lt each
        have hspot : spot = none := by simpa [Addr.add] using World.cell?_spot ((hvs 0 (by omega)).1 0 (by decide))
        subst hspot
        obtain ⟨ll, lg⟩ := list_of s0 len vs
        have hl0 : ∀ i j, i < len → j < 10 → W.cell? ⟨b, off + i * 10 + j, none⟩ = some ((vs i).cell j) := fun i j hi hj => by have := (hvs i hi).1 j hj; rwa [add_pos, ← Nat.add_assoc] at this
        refine ⟨_, len, cap, (List.range len).map vs, hc, ll, .some b off _ (World.block_lt_of_cell? W _ (hl0 0 0 (by omega) (by decide))) (World.block_lt_of_cell? W _ (hl0 0 0 (by omega) (by decide))) (fun i j hi hj => ?_) (fun i hi => ?_) (fun i hi => ?_) (fun i hi => ?_), hl, hcap, fun d p hp => ?_⟩
        · rw [ll] at hi; rw [lg i hi]; exact hl0 i j hi hj
        · rw [ll] at hi; rw [lg i hi]; exact (hvs i hi).2.1
        · rw [ll] at hi; rw [lg i hi]; exact (hvs i hi).2.2.1
        · rw [ll] at hi; rw [lg i hi]; exact (hvs i hi).2.2.2.1
        · obtain ⟨e, he, hp⟩ := flatS_mem hp
          obtain ⟨i, hi, rfl⟩ := List.mem_map.1 he
          exact (hvs i (by simpa using hi)).2.2.2.2 d p hp
end
section
variable {H : Type} {enc : TypeId × Value → H} {W : World}
/-- One statement that came in. -/
theorem stmt_in {v : Value} {d : DataW H} {p : List MemPlace} (h : DataW.Trod enc Try.prog W 0 (fun _ => true) true 30 v d p) (hw : Sized 30 d) {r : Reach} {b0 : Nat} (hv : Value.okWide Try.prog W r b0 30 v) :
    ∃ s : St, v = s.val ∧ (StIn W W.heap.size s ∧ Sts W W.heap.size s.ta s.th ∧ Sts W W.heap.size s.la s.el) ∧ SmAll [s] := by
  obtain ⟨cs, rfl, hsz⟩ := okWide_struct Try.underlying30 hv
  rw [cellsT] at hsz
  obtain ⟨fuel, h⟩ := h
  have ec : (Value.agg cs).cells.toList = cs.toList := rfl
  rw [ec] at h
  have hlen' : cs.toList.length = 10 := by simpa using hsz
  have hcs : cs = cs.toList.toArray := by simp
  obtain ⟨xs, k, hk, hyy, _, hxl, hf⟩ := DataW.trod_struct Try.underlying30 h
  have hse : Sized 30 (DataW.agg (xs.map (·.1))) := by have hd : d = DataW.agg (xs.map (·.1)) := congrArg Prod.fst hyy; rw [hd] at hw; exact hw
  clear hyy h hw
  generalize cs.toList = l' at *
  subst hcs
  match xs, hxl, l', hlen', hse with
  | [y0, y1, y2, y3, y4, y5, y6, y7, y8, y9], _, [v0, v1, v2, v3, v4, v5, v6, v7, v8, v9], _, hse =>
    have hs4 : Sized 9 y4.1 := hse.part (i := 4) Try.underlying30 rfl rfl
    have hs5 : Sized 27 y5.1 := hse.part (i := 5) Try.underlying30 rfl rfl
    have hs6 : Sized 23 y6.1 := hse.part (i := 6) Try.underlying30 rfl rfl
    have hs7 : Sized 23 y7.1 := hse.part (i := 7) Try.underlying30 rfl rfl
    have hs8 : Sized 28 y8.1 := hse.part (i := 8) Try.underlying30 rfl rfl
    have hs9 : Sized 28 y9.1 := hse.part (i := 9) Try.underlying30 rfl rfl
    have g0 := hf 0 _ rfl
    have g1 := hf 1 _ rfl
    have g2 := hf 2 _ rfl
    have g3 := hf 3 _ rfl
    have g4 := hf 4 _ rfl
    have g5 := hf 5 _ rfl
    have g6 := hf 6 _ rfl
    have g7 := hf 7 _ rfl
    have g8 := hf 8 _ rfl
    have g9 := hf 9 _ rfl
    simp [cellsI, cellsS, cellsL, cellsN, cellsM] at g0 g1 g2 g3 g4 g5 g6 g7 g8 g9
    obtain ⟨z0, q0, _, _⟩ := DataW.trod_int Try.underlying3 g0
    obtain ⟨z1, q1, _, _⟩ := DataW.trod_int Try.underlying3 g1
    obtain ⟨z2, q2, _, _⟩ := DataW.trod_int Try.underlying3 g2
    obtain ⟨z3, q3, _, _⟩ := DataW.trod_int Try.underlying3 g3
    obtain ⟨z4, q4, r4, _⟩ := DataW.trod_string Try.underlying9 g4
    rw [r4] at hs4
    have w4 := hs4.text
    obtain ⟨a5, n5, c5, l5, q5, hl5, ht5, hc5, hd5, hx5, hm5⟩ := texts_in g5 hs5
    obtain ⟨a6, n6, c6, l6, q6, hl6, ht6, hc6, hd6, hx6⟩ := exprs_in k g6 hs6
    obtain ⟨a7, n7, c7, l7, q7, hl7, ht7, hc7, hd7, hx7⟩ := exprs_in k g7 hs7
    obtain ⟨a8, n8, c8, l8, q8, hl8, ht8, hc8, hd8, hx8⟩ := stmts_in k g8 hs8
    obtain ⟨a9, n9, c9, l9, q9, hl9, ht9, hc9, hd9, hx9⟩ := stmts_in k g9 hs9
    simp only [List.cons.injEq, and_true] at q0 q1 q2 q3 q4 q5 q6 q7 q8 q9
    obtain ⟨nm, rfl, hnml⟩ := bytes_of z4
    subst q0 q1 q2 q3 q4 q5 q6 q7 q8 q9
    subst hl5 hl6 hl7 hl8 hl9
    refine ⟨.mk z0 z1 z2 z3 nm ⟨a5, c5, l5⟩ ⟨a6, c6, l6⟩ ⟨a7, c7, l7⟩ a8 c8 l8 a9 c9 l9, rfl, ⟨⟨ht5, ht6, ht7, ⟨hc5, hd5⟩, ⟨hc6, hd6⟩, ⟨hc7, hd7⟩, ⟨hc8, hd8⟩, ⟨hc9, hd9⟩⟩, ht8, ht9⟩, fun d p hp => ?_⟩
    rw [flatS_one] at hp
    rcases List.mem_cons.1 hp with rfl | hp
    · exact ⟨by simp only [St.nm]; have : nm.length = (bytesOf nm).data.toList.length := rfl; omega, hx5, hm5, hx6, hx7⟩
    · unfold St.kids at hp
      rw [flatS_app] at hp
      exact (List.mem_append.1 hp).elim (hx8 _ p) (hx9 _ p)
end
end As
end Go.Proofs.Ytbedcplkcaanhaa
