/-
  From a row's data to the walks' facts: the three variables that the row lists; a witness. No walk. Own work.
-/
import Derived.Test.YtaeblnlbelebkaaGreatDoorCoRow
import Derived.Test.YtaeblnlbelebkaaGreatDoorCoCheck
import Derived.Test.YtaeblnlbelebkaaGreatDoorCoEffect
import Derived.Lib.LaidTab
import Derived.Lib.LaidU8
import Derived.Lib.SmallJoins
import Derived.Deep.Slices
import Derived.ChangeSlices
import Derived.Stop.Joined
import Derived.MakeChecks
import Derived.OpenShut
import Derived.LaidMore
import Derived.LaidOnce
namespace Go.Proofs.YtaeblnlbelebkaaGreatDoor
namespace Co
open Go.RowKit Go Go.ChangeShapes Go.WideShapes Go.Deep
set_option maxRecDepth 100000

def allLaid : List (String × DataW Unit) := [("lamplighter/word.signs", Rows.laid_lamplighter_word_signs), ("lamplighter/word.names", Rows.laid_lamplighter_word_names), ("lamplighter/code.rows", Rows.laid_lamplighter_code_rows)]

theorem cellsInt : Tryz.prog.cellsOf 3 = 1 := by kernel_rfl
theorem cellsKind : Tryz.prog.cellsOf 128 = 1 := by kernel_rfl
theorem cellsBool : Tryz.prog.cellsOf 4 = 1 := by kernel_rfl
theorem cellsString : Tryz.prog.cellsOf 9 = 1 := by kernel_rfl
theorem cellsRow : Tryz.prog.cellsOf 131 = 8 := by kernel_rfl
theorem cellsIns : Tryz.prog.cellsOf 55 = 4 := by kernel_rfl
theorem ownK : ownKnob Tryz.prog.godebug = none := by kernel_rfl
theorem laidOutK : laidOutB Tryz.prog = true := by kernel_rfl

section
variable {H : Type} {enc : TypeId × Value → H} {W : World} {base : Nat} {sp : Nat → Bool} {held : Bool}

/-- An array of strings that reads as a list of texts holds these texts, cell for cell. -/
theorem cells_of_texts {P : Program} {fuel : Nat} {t e : TypeId} {n : Nat} {cs : List Value} {bs : List (List UInt8)} {p : List MemPlace}
    (ht : P.underlying t = some (.array n e)) (he : P.underlying e = some .string) (hce : P.cellsOf e = 1) (hct : P.cellsOf t = n)
    (h : DataW.trod enc P W base sp held fuel t cs = some (.agg (bs.map fun b => .lit (.string b)), p)) : cs = bs.map fun b => Value.string (bytesOf b) := by
  cases fuel with
  | zero => simp [DataW.trod] at h
  | succ fuel =>
    simp only [DataW.trod, ht, hce, hct, Nat.mul_one] at h
    split at h
    · obtain ⟨xs, hm, hx⟩ := Option.map_eq_some_iff.1 h
      have hxs : xs.map (·.1) = bs.map fun b => (DataW.lit (.string b) : DataW H) := by
        have := congrArg Prod.fst hx
        simpa using this
      have hxl : xs.length = n := by simpa using Lib.mapM_length hm
      have hbl : bs.length = n := by
        have := congrArg List.length hxs
        simp at this
        omega
      apply List.ext_getElem?
      intro i
      by_cases hi : i < n
      · obtain ⟨b, hb, hf⟩ := Lib.mapM_at hm i i (by simp [hi])
        obtain ⟨s, hc, rfl, _⟩ := DataW.trod_string he hf
        have h1 : cs[i]? = some (.string s) := by
          have := congrArg (·[0]?) hc
          simpa [List.getElem?_take, List.getElem?_drop] using this
        have h2 : (xs.map (·.1))[i]? = some (DataW.lit (.string s.data.toList) : DataW H) := by simp [hb]
        rw [hxs] at h2
        simp only [List.getElem?_map, Option.map_eq_some_iff, DataW.lit.injEq, Lit.string.injEq] at h2
        obtain ⟨b', hb', he'⟩ := h2
        have e3 : bytesOf b' = s := by
          subst he'
          rfl
        simp [h1, hb', e3]
      · rw [List.getElem?_eq_none (by omega), List.getElem?_eq_none (by simp; omega)]
    · cases h
theorem texts_in (bs : List (List UInt8)) {P : Program} {name : String} {g : Nat} {t e : TypeId} {n : Nat}
    (hg : P.globalNamed name = some g) (hty : (P.globals[g]?).map (·.type) = some t) (ht : P.underlying t = some (.array n e)) (he : P.underlying e = some .string) (hce : P.cellsOf e = 1) (hct : P.cellsOf t = n)
    (h : Lib.VarReads P W name (.agg (bs.map fun b => .lit (.string b)))) : ∀ i, i < bs.length → W.cell? ⟨g, i, none⟩ = some (.string (bytesOf (bs.getD i []))) := by
  obtain ⟨g', t', cs, fuel, p, hg', ht', hvar, hd⟩ := h
  obtain rfl := Option.some.inj (hg.symm.trans hg')
  obtain rfl := Option.some.inj (hty.symm.trans ht')
  intro i hi
  have hv : W.var? P name = some (bs.map fun b => Value.string (bytesOf b)).toArray := by rw [hvar, ← cells_of_texts ht he hce hct hd]
  have := World.var?_cell hg hv i
  simpa [List.getD, hi] using this
theorem tab_in {P : Program} {name : String} {k : IntKind} {zs : List Int} {g : Nat} {t e : TypeId} {n : Nat}
    (hg : P.globalNamed name = some g) (hty : (P.globals[g]?).map (·.type) = some t) (ht : P.underlying t = some (.array n e)) (he : P.underlying e = some (.int k)) (hce : P.cellsOf e = 1) (hct : P.cellsOf t = n)
    (h : Lib.VarReads P W name (Lib.tabData k zs)) : Lib.TabIs P W name k zs := by
  obtain ⟨g', t', cs, fuel, p, hg', ht', hvar, hd⟩ := h
  obtain rfl := Option.some.inj (hg.symm.trans hg')
  obtain rfl := Option.some.inj (hty.symm.trans ht')
  unfold Lib.TabIs
  rw [hvar, ← Lib.cells_of_tab ht he hce hct hd]

def rowD (r : Rw) : DataW H := .agg [.lit (.string r.name), .lit (.int .i64 r.a), .lit (.int .i64 r.b), .lit (.int .i64 r.c), .lit (.int .i64 r.tk), .lit (.int .i64 r.gv), .lit (.bool r.jm), .lit (.bool r.sp)]
/-- A row that reads as these data holds them, cell for cell. -/
theorem row_cells {fuel : Nat} {cs : List Value} {r : Rw} {p : List MemPlace} (h : DataW.trod enc Tryz.prog W base sp held fuel 131 cs = some (rowD r, p)) :
    cs = [.string (bytesOf r.name), .int .i64 r.a, .int .i64 r.b, .int .i64 r.c, .int .i64 r.tk, .int .i64 r.gv, .bool r.jm, .bool r.sp] := by
  obtain ⟨xs, n, rfl, hx, hl, hxl, hf⟩ := DataW.trod_struct Tryz.underlying131 h
  have hxs : xs.map (·.1) = [.lit (.string r.name), .lit (.int .i64 r.a), .lit (.int .i64 r.b), .lit (.int .i64 r.c), .lit (.int .i64 r.tk), .lit (.int .i64 r.gv), .lit (.bool r.jm), .lit (.bool r.sp)] := by
    have := congrArg Prod.fst hx
    simpa [rowD] using this.symm
  rw [cellsRow] at hl
  match xs, hxs, cs, hl with
  | [y0, y1, y2, y3, y4, y5, y6, y7], hxs, [v0, v1, v2, v3, v4, v5, v6, v7], _ =>
    have g0 := hf 0 _ rfl
    have g1 := hf 1 _ rfl
    have g2 := hf 2 _ rfl
    have g3 := hf 3 _ rfl
    have g4 := hf 4 _ rfl
    have g5 := hf 5 _ rfl
    have g6 := hf 6 _ rfl
    have g7 := hf 7 _ rfl
    simp [cellsInt, cellsKind, cellsBool, cellsString] at g0 g1 g2 g3 g4 g5 g6 g7
    obtain ⟨s0, q0, e0, _⟩ := DataW.trod_string Tryz.underlying9 g0
    obtain ⟨z1, q1, e1, _⟩ := DataW.trod_int Tryz.underlying128 g1
    obtain ⟨z2, q2, e2, _⟩ := DataW.trod_int Tryz.underlying128 g2
    obtain ⟨z3, q3, e3, _⟩ := DataW.trod_int Tryz.underlying128 g3
    obtain ⟨z4, q4, e4, _⟩ := DataW.trod_int Tryz.underlying3 g4
    obtain ⟨z5, q5, e5, _⟩ := DataW.trod_int Tryz.underlying3 g5
    obtain ⟨z6, q6, e6⟩ := DataW.trod_bool Tryz.underlying4 g6
    obtain ⟨z7, q7, e7⟩ := DataW.trod_bool Tryz.underlying4 g7
    simp only [List.cons.injEq, and_true] at q0 q1 q2 q3 q4 q5 q6 q7
    subst q0 q1 q2 q3 q4 q5 q6 q7 e0 e1 e2 e3 e4 e5 e6 e7
    simp only [List.map_cons, List.map_nil, List.cons.injEq, DataW.lit.injEq, Lit.string.injEq, Lit.int.injEq, Lit.bool.injEq, true_and, and_true] at hxs
    obtain ⟨h0, h1, h2, h3, h4, h5, h6, h7⟩ := hxs
    rw [← h0, ← h1, ← h2, ← h3, ← h4, ← h5, ← h6, ← h7, bytesOf_mk]
end

theorem rows_in {W : World} (h : Lib.VarReads Tryz.prog W "lamplighter/code.rows" (.slice (tab.map rowD) [])) : RowsIn W := by
  obtain ⟨g, t, cs, fuel, p, hg, hty, hvar, hd⟩ := h
  obtain rfl := Option.some.inj ((show Tryz.prog.globalNamed "lamplighter/code.rows" = some 0 by kernel_rfl).symm.trans hg)
  obtain rfl := Option.some.inj ((show (Tryz.prog.globals[0]?).map (·.type) = some 152 by kernel_rfl).symm.trans hty)
  rcases DataW.trod_slice Tryz.underlying152 hd with ⟨_, hx⟩ | ⟨a, len, cap, el, rs, m, _, hcs, hx, _, hlc, hcm, hel, helem, _⟩
  · cases hx
  · simp only [Prod.mk.injEq, DataW.slice.injEq] at hx
    obtain ⟨⟨eE, _⟩, _⟩ := hx
    have hlen : len = 25 := by
      have := congrArg List.length eE
      simp [tab] at this
      omega
    subst hlen
    obtain ⟨R, off, spot⟩ := a
    have each : ∀ i, i < 25 → ∀ j, j < 8 → W.cell? ((⟨R, off, spot⟩ : Addr).add (i * 8 + j)) = [Value.string (bytesOf (tab.getD i r0).name), .int .i64 (tab.getD i r0).a, .int .i64 (tab.getD i r0).b, .int .i64 (tab.getD i r0).c, .int .i64 (tab.getD i r0).tk, .int .i64 (tab.getD i r0).gv, .bool (tab.getD i r0).jm, .bool (tab.getD i r0).sp][j]? := by
      intro i hi j hj
      have h1 := helem i hi
      rw [cellsRow] at h1
      obtain ⟨b, hb⟩ : ∃ b, el[i]? = some b := ⟨el[i]'(by omega), List.getElem?_eq_getElem (by omega)⟩
      rw [hb] at h1
      obtain ⟨ce, hce, hte⟩ := Option.bind_eq_some_iff.1 h1
      have hb1 : b.1 = rowD (tab.getD i r0) := by
        have := congrArg (·[i]?) eE
        have hi' : i < tab.length := hi
        simp only [List.getElem?_map, hb, Option.map_some, List.getElem?_eq_getElem hi', Option.some.injEq] at this
        rw [← this, List.getD_eq_getElem?_getD, List.getElem?_eq_getElem hi']
        rfl
      have hcs := row_cells (p := b.2) (by rw [← hb1]; exact hte)
      obtain ⟨_, _, hcc⟩ := World.cells?_some hce
      have := hcc j hj
      rw [hcs] at this
      rw [← this, add_add]
    have hspot : spot = none := by simpa [Addr.add] using World.cell?_spot (each 0 (by omega) 0 (by omega))
    subst hspot
    have pos : ∀ o, (⟨R, off, none⟩ : Addr).add o = ⟨R, off + o, none⟩ := fun o => by
      by_cases ho : o = 0
      · subst ho; simp [Addr.add]
      · simp [Addr.add, ho]
    have at' : ∀ i, i < 25 → ∀ j, j < 8 → W.cell? ⟨R, off + i * 8 + j, none⟩ = [Value.string (bytesOf (tab.getD i r0).name), .int .i64 (tab.getD i r0).a, .int .i64 (tab.getD i r0).b, .int .i64 (tab.getD i r0).c, .int .i64 (tab.getD i r0).tk, .int .i64 (tab.getD i r0).gv, .bool (tab.getD i r0).jm, .bool (tab.getD i r0).sp][j]? := fun i hi j hj => by
      have := each i hi j hj
      rwa [pos, ← Nat.add_assoc] at this
    refine ⟨R, off, cap, ?_, fun i hi => ?_⟩
    · have := World.var?_cell hg hvar 0
      obtain ⟨l⟩ := cs
      simp only at hcs
      subst hcs
      simpa using this
    · exact ⟨at' i hi 0 (by omega), at' i hi 1 (by omega), at' i hi 2 (by omega), at' i hi 3 (by omega), at' i hi 4 (by omega), at' i hi 5 (by omega), at' i hi 6 (by omega), at' i hi 7 (by omega)⟩

/-- From the three variables that the walks read. -/
theorem env_of {L : List (String × DataW Unit)} {W : World} (h : laidMet Tryz.prog L W) (m1 : ("lamplighter/word.signs", Rows.laid_lamplighter_word_signs) ∈ L) (m2 : ("lamplighter/word.names", Rows.laid_lamplighter_word_names) ∈ L) (m3 : ("lamplighter/code.rows", Rows.laid_lamplighter_code_rows) ∈ L) : Env W := by
  have r1 := Lib.laidMet.reads h m1
  have r2 := Lib.laidMet.reads h m2
  have r6 := Lib.laidMet.reads h m3
  have e6 : (Rows.laid_lamplighter_code_rows : DataW Unit) = .slice (tab.map rowD) [] := by kernel_rfl
  rw [e6] at r6
  exact {
    rows := rows_in r6
    signs := texts_in signList (g := 1) (t := 163) (by kernel_rfl) (by kernel_rfl) Tryz.underlying163 Tryz.underlying9 cellsString (by kernel_rfl) r1
    names := texts_in nameList (g := 2) (t := 164) (by kernel_rfl) (by kernel_rfl) Tryz.underlying164 Tryz.underlying9 cellsString (by kernel_rfl) r2 }
theorem env_in {W : World} (h0 : laidMetH Tryz.prog allLaid W) : Env W := by
  have h : laidMet Tryz.prog allLaid W := by rw [MakeChecks.laidMetH_plain _ _ _ (by kernel_rfl)] at h0; exact h0
  exact env_of h (by simp [allLaid]) (by simp [allLaid]) (by simp [allLaid])

/- A world for the witness: the one that the initialisers leave. -/
theorem door_leaves (os : Os) : doorLeaves Tryz.prog 160 8 257 allLaid os (fun _ _ => 0) = some (allLaid.filter fun x => x.2.handleName?.isNone, (funcsListed allLaid).map (·.2.funcsOut)) := by kernel_rfl
theorem door_met (os : Os) : laidMet Tryz.prog allLaid (varsWorld Tryz.prog 160 (varsId Tryz.prog) os (fun _ _ => 0)).memory := by
  have d := door_leaves os
  unfold doorLeaves at d
  split at d
  · rename_i v w hr
    have hw : varsWorld Tryz.prog 160 (varsId Tryz.prog) os (fun _ _ => 0) = w := by unfold varsWorld; rw [hr]
    rw [hw]
    simp only [Option.bind_eq_some_iff] at d
    obtain ⟨x, hx, d⟩ := d
    split at d
    · rename_i hb
      simp only [Bool.and_eq_true] at hb
      simp only [Option.map_eq_some_iff, Prod.mk.injEq] at d
      obtain ⟨y, hy, e1, e2⟩ := d
      have ef : (allLaid.filter fun x => x.2.handleName?.isNone) = allLaid := by kernel_rfl
      rw [ef] at hx e1
      exact laidMet_of_run (ps := x.2) 8 (by rw [hx, ← e1]) (decide_eq_true (nodupBits_sound hb.1.1).1) hb.1.2
    · cases d
  · cases d
theorem wit_met (os : Os) (args : Array Value) : laidMet Tryz.prog allLaid ((World.doorLaid Tryz.prog 160 os).forCall (fun _ _ => 0) ⟨#[], args, []⟩).memory :=
  (door_met os).of_heap (by simp [World.doorLaid, World.forCall, World.memory, Input.heap])
end Co
end Go.Proofs.YtaeblnlbelebkaaGreatDoor
