/-
  WALKS: package ast: the statements of a program's functions. Own work.
-/
import Derived.Test.YtbedcplkcaanhaaAsStmt
import Derived.Deep.AppendLies
import Derived.ProofKit
namespace Go.Proofs.Ytbedcplkcaanhaa
namespace As
open Go.RowKit Go Rg Go.Shelf
set_option linter.unusedVariables false

/-- A parameter. -/
structure Pm where
  nm : List UInt8
  t : Int
/-- A function, and where what it has lies. -/
structure Dc where
  k : Int
  nm : List UInt8
  pa : Option Addr
  pc : Nat
  ps : List Pm
  on : Int
  pr : Int
  bd : Lt
  li : Int
def c0 : Dc := ⟨0, [], none, 0, [], 0, 0, ⟨none, 0, []⟩, 0⟩
def Dc.cell (d : Dc) : Nat → Value
  | 0 => .int .i64 d.k
  | 1 => .string (bytesOf d.nm)
  | 2 => .slice d.pa d.ps.length d.pc
  | 3 => .int .i64 d.on
  | 4 => .int .i64 d.pr
  | 5 => .slice d.bd.ao d.bd.l.length d.bd.cap
  | _ => .int .i64 d.li
def Dc.val (d : Dc) : Value := .agg #[.int .i64 d.k, .string (bytesOf d.nm), .slice d.pa d.ps.length d.pc, .int .i64 d.on, .int .i64 d.pr, .slice d.bd.ao d.bd.l.length d.bd.cap, .int .i64 d.li]
def pm0 : Pm := ⟨[], 0⟩
/-- Parameters lie there. -/
def PmsIn (w : World) (N : Nat) (ao : Option Addr) (l : List Pm) : Prop := l = [] ∨ ∃ b off, ao = some ⟨b, off, none⟩ ∧ b < N ∧ b < w.heap.size ∧ ∀ i, i < l.length → w.cell? ⟨b, off + i * 2, none⟩ = some (.string (bytesOf (l.getD i pm0).nm)) ∧ w.cell? ⟨b, off + i * 2 + 1, none⟩ = some (.int .i64 (l.getD i pm0).t)
theorem PmsIn.keep {w w' : World} {N : Nat} {V : Nat → Prop} (k : Keep V w w') (hV : ∀ b, V b → N ≤ b) {ao : Option Addr} {l : List Pm} (h : PmsIn w N ao l) : PmsIn w' N ao l := by
  rcases h with h | ⟨b, off, ha, hb, hz, hc⟩
  · exact .inl h
  · have g := fun o => k.cell (p := ⟨b, o, none⟩) hz (fun e => by have := hV b e; omega)
    exact .inr ⟨b, off, ha, hb, Nat.lt_of_lt_of_le hz k.size, fun i hi => ⟨(g _).trans (hc i hi).1, (g _).trans (hc i hi).2⟩⟩
structure DcIn (w : World) (N : Nat) (d : Dc) : Prop where
  ps : PmsIn w N d.pa d.ps
  bd : Sts w N d.bd.ao d.bd.l
  cps : Capd d.ps.length d.pc
  cbd : Capd d.bd.l.length d.bd.cap
theorem DcIn.keep {w w' : World} {N : Nat} {V : Nat → Prop} (k : Keep V w w') (hV : ∀ b, V b → N ≤ b) {d : Dc} (h : DcIn w N d) : DcIn w' N d := ⟨h.ps.keep k hV, h.bd.keep k hV, h.cps, h.cbd⟩
/-- Functions lie there. -/
def DcsIn (w : World) (N : Nat) (ao : Option Addr) (l : List Dc) : Prop := l = [] ∨ ∃ b off, ao = some ⟨b, off, none⟩ ∧ b < N ∧ b < w.heap.size ∧ (∀ i j, i < l.length → j < 7 → w.cell? ⟨b, off + i * 7 + j, none⟩ = some ((l.getD i c0).cell j)) ∧ ∀ d ∈ l, DcIn w N d
theorem DcsIn.keep {w w' : World} {N : Nat} {V : Nat → Prop} (k : Keep V w w') (hV : ∀ b, V b → N ≤ b) {ao : Option Addr} {l : List Dc} (h : DcsIn w N ao l) : DcsIn w' N ao l := by
  rcases h with h | ⟨b, off, ha, hb, hz, hc, hd⟩
  · exact .inl h
  · have g := fun o => k.cell (p := ⟨b, o, none⟩) hz (fun e => by have := hV b e; omega)
    exact .inr ⟨b, off, ha, hb, Nat.lt_of_lt_of_le hz k.size, fun i j hi hj => (g _).trans (hc i j hi hj), fun d hm => (hd d hm).keep k hV⟩
theorem DcsIn.all {w : World} {N : Nat} {ao : Option Addr} {l : List Dc} (h : DcsIn w N ao l) : ∀ d ∈ l, DcIn w N d := fun d hd => by
  rcases h with h | ⟨b, off, ha, hb, hz, hc, hall⟩
  · subst h; cases hd
  · exact hall d hd
def bodL (l : List Dc) : List St := l.flatMap (fun d => d.bd.l)
theorem bod_trees {w : World} {N : Nat} {ao : Option Addr} {l : List Dc} (h : DcsIn w N ao l) : TreesS w N (bodL l) := fun x hx => by
  obtain ⟨d, hd, hx⟩ := List.mem_flatMap.1 hx
  exact (h.all d hd).bd.trees x hx
def bdV (l : List Dc) : List Value := l.map (fun d => .slice d.bd.ao d.bd.l.length d.bd.cap)
theorem bdV_take {l : List Dc} {j : Nat} (hj : j < l.length) : bdV (l.take (j + 1)) = bdV (l.take j) ++ [.slice (l.getD j c0).bd.ao (l.getD j c0).bd.l.length (l.getD j c0).bd.cap] := by
  unfold bdV
  rw [List.take_add_one, List.map_append, List.getElem?_eq_getElem hj, List.getD_eq_getElem?_getD, List.getElem?_eq_getElem hj]
  rfl
theorem own_low {w w' : World} {base : Nat} {e : TypeId} {size : Nat} {v : Value} {n : Nat} {xs : List Value} (h : w.ownsRow base e size v n xs) (k : Below w.heap.size w w') : w'.ownsRow base e size v n xs := by
  refine ⟨h.1, ?_⟩
  rcases h.2 with h | ⟨g, cap, cur, hv, hb, hg, rest⟩
  · exact .inl h
  · exact .inr ⟨g, cap, cur, hv, hb, (k.block g (Array.getElem?_eq_some_iff.1 hg).1).trans hg, rest⟩
theorem own_at {w : World} {base : Nat} {e : TypeId} {g n cap : Nat} {xs : List Value} (h : w.ownsRow base e 1 (.slice (some ⟨g, 0, none⟩) n cap) n xs) {i : Nat} (hi : i < n) : w.cell? ⟨g, i, none⟩ = xs[i]? ∧ g < w.heap.size := by
  rcases h.2 with ⟨h, _⟩ | ⟨g', cap', cur, hv, _, hg, _, _, hs, ht⟩
  · cases h
  · obtain ⟨rfl, rfl⟩ : g = g' ∧ cap = cap' := by injection hv with h1 _ h3; injection h1 with h1; injection h1 with h1; exact ⟨h1, h3⟩
    refine ⟨?_, (Array.getElem?_eq_some_iff.1 hg).1⟩
    rw [← ht, List.getElem?_take, if_pos (by omega)]
    simp [World.cell?, hg]
theorem grown_below {w w2 w' : World} {base : Nat} {e : TypeId} {size n : Nat} {v : Value} {xs : List Value} (b : Below base w w2) (hz : base ≤ w2.heap.size) (h : w2.ownsRow base e size v n xs) (g : w2.grownBy w' v.ownBlock) : Below base w w' := by
  refine b.trans ⟨g.os, g.tape, g.output, g.size, fun k hk => g.block k (by omega) (fun e => ?_)⟩
  rcases h.2 with ⟨rfl, _⟩ | ⟨q, _, _, rfl, hq, _⟩
  · simp [Value.ownBlock] at e
  · have : k = q := by simpa [Value.ownBlock] using e
    omega
theorem own_form {w : World} {base : Nat} {e : TypeId} {v : Value} {n : Nat} {xs : List Value} (h : w.ownsRow base e 1 v n xs) : ∃ ao cap g, v = .slice ao n cap ∧ (n = 0 ∨ (ao = some ⟨g, 0, none⟩ ∧ base ≤ g ∧ g < w.heap.size ∧ ∀ i, i < n → w.cell? ⟨g, i, none⟩ = xs[i]?)) := by
  rcases h.2 with ⟨rfl, rfl⟩ | ⟨g, cap, cur, rfl, hb, hg, _⟩
  · exact ⟨none, 0, 0, rfl, .inl rfl⟩
  · exact ⟨_, cap, g, rfl, .inr ⟨rfl, hb, (Array.getElem?_eq_some_iff.1 hg).1, fun i hi => (own_at h hi).1⟩⟩
theorem info_ST : (Try.prog.info? 28).map (fun i => (i.zero, i.size, i.bytes)) = some (some (.slice none 0 0), 1, 24) := by kernel_rfl
/-- A program, and where what it has lies. -/
structure Pg where
  st : Int
  ga : Option Addr
  gn : Nat
  gc : Nat
  ta : Option Addr
  tn : Nat
  tc : Nat
  fa : Option Addr
  fc : Nat
  fs : List Dc
def Pg.val (p : Pg) : Value := .agg #[.int .i64 p.st, .slice p.ga p.gn p.gc, .slice p.ta p.tn p.tc, .slice p.fa p.fs.length p.fc]
set_option maxHeartbeats 4000000 in
set_option maxRecDepth 100000 in
theorem bodies_any (p : Pg) (w : World) {N : Nat} (hN : N ≤ w.heap.size) (hk : DcsIn w N p.fa p.fs) (hc : p.fs.length ≤ 1000000) :
    Calls Try.prog 33 #[p.val] w fun r w' => ∃ v bs, r = .returned v ∧ Below w.heap.size w w' ∧ SeqB encNS w' bs v N (bodL p.fs) ∧ ∀ b ∈ bs, w.heap.size ≤ b := by
  obtain ⟨i0, hi, hz0, hz1, hz2⟩ := info_parts info_ST
  have HK := Lib.hid hk
  have HTK : Hid (∀ j, j < p.fs.length → bdV (p.fs.take (j + 1)) = bdV (p.fs.take j) ++ [.slice (p.fs.getD j c0).bd.ao (p.fs.getD j c0).bd.l.length (p.fs.getD j c0).bd.cap]) := Lib.hid (fun j hj => bdV_take hj)
  have HM : Hid (∃ m, p.fs.length = m) := Lib.hid ⟨_, rfl⟩
  unfold Pg.val
  obtain ⟨m, hm⟩ := HM.out
  rw [hm] at hc ⊢
  have HQ := Lib.hid hm
  clear hk hm HM
  obtain ⟨pst, pga, pgn, pgc, pta, ptn, ptc, pfa, pfc, pfs⟩ := p
  dsimp only at HK HTK HQ ⊢
  go_enter Try.func33, Try.ntmps33
  go_wp2
  go_loopw [3, 5, 9] (fun v _ i wr => ∃ j : Nat, j ≤ m ∧ i = .int .i64 j ∧ wr.ownsRow w.heap.size 28 1 v j (bdV (pfs.take j)) ∧ Below w.heap.size w wr) (fun _ _ i _ => m - (intOf i).toNat)
  case atStart => exact ⟨0, Nat.zero_le _, rfl, World.ownsRow_nil _ _ _ _, (Below.refl _ w).alloc (Nat.le_refl _) _⟩
  case round =>
    obtain ⟨j, hj, rfl, hown, kr⟩ := hrel
    by_cases hjm : j < m
    · have hjl : j < pfs.length := by rw [HQ.out]; exact hjm
      have hne : pfs ≠ [] := fun e => by subst e; simp at hjl
      obtain ⟨b, off, ha, hb, hz, hcc, hall⟩ := HK.out.elim (fun e => (hne e).elim) id
      subst ha
      have g := fun k (hk : k < 7) => (kr.cell (p := ⟨b, off + j * 7 + k, none⟩) hz).trans (hcc j k hjl hk)
      have d0 := g 0 (by decide)
      have d1 := g 1 (by decide)
      have d2 := g 2 (by decide)
      have d3 := g 3 (by decide)
      have d4 := g 4 (by decide)
      have d5 := g 5 (by decide)
      have d6 := g 6 (by decide)
      have HBT := Lib.hid (HTK.out j hjl)
      have HKR := Lib.hid kr
      have hk0 : (0 : Int) ≤ (j : Int) := Int.natCast_nonneg _
      have hk1 : (j : Int) < (m : Int) := by omega
      have zb : b < wr.heap.size := Nat.lt_of_lt_of_le hz kr.size
      have hsw := kr.size
      clear hcc g hall kr hjl hne
      generalize pfs.getD j c0 = d at *
      simp only [Dc.cell, Nat.add_zero] at d0 d1 d2 d3 d4 d5 d6
      have HOWN := Lib.hid hown
      clear hown
      go_wp2_with (at_builtin; refine wpList_append_own _ rfl _ _ 107 rfl w.heap.size 28 i0 (.slice none 0 0) 1 24 Try.underlying107 hi hz0 hz1 hz2 rfl (by decide) _ _ _ rfl (own_low HOWN.out (((Below.refl wr.heap.size wr).alloc (Nat.le_refl _) _).alloc (by simp) _)) ⟨wr.heap.size + 1, 0, none⟩ 1 1 [.slice d.bd.ao d.bd.l.length d.bd.cap] rfl rfl ?c1 ?c2 ?c3 ?c4 ?c5 ?_)
      case c1 =>
        intro k u hk
        match k, hk with
        | 0, hk => simp at hk; subst hk; simp [Addr.add]
      case c2 => intro u hu; simp at hu; subst hu; rfl
      case c3 => unfold maxLen; omega
      case c4 => omega
      case c5 => simp; omega
      intro v' w' hown' hgrow _
      have HB' := Lib.hid (grown_below (HKR.out.trans ((((Below.refl wr.heap.size wr).alloc (Nat.le_refl _) _).alloc (by simp) _).mono hsw)) (by simp; omega) (own_low HOWN.out (((Below.refl wr.heap.size wr).alloc (Nat.le_refl _) _).alloc (by simp) _)) hgrow)
      have HO' := Lib.hid hown'
      clear hown' hgrow
      go_wp2
      go_roundw
      case rel => exact ⟨j + 1, by omega, by go_num, by rw [HBT.out]; exact HO'.out, HB'.out⟩
      case measure => simp [intOf]; omega
    · obtain rfl : j = m := by omega
      rw [List.take_of_length_le (by rw [HQ.out]; exact Nat.le_refl _)] at hown
      obtain ⟨ao, cap, g, rfl, hform⟩ := own_form hown
      have HFORM := Lib.hid hform
      have HKR := Lib.hid kr
      clear hown hform kr
      go_wp2_with (refine (lists_anyS _ _ _ _).mono ?_)
      rintro r w4 ⟨rfl, b4, c3, c2⟩
      have HB4 := Lib.hid b4
      have HC := Lib.hid (And.intro c3 c2)
      clear b4 c3 c2
      go_wp2
      go_ret
      have hw4 := HB4.out.size
      have hwr := HKR.out.size
      have hk4 : DcsIn w4 N pfa pfs := HK.out.keep (V := fun _ => False) (Keep.of (HKR.out.trans (HB4.out.mono hwr))) (fun _ h => h.elim)
      have hls : pfs.map (·.bd) = [] ∨ ao = some ⟨g, 0, none⟩ := HFORM.out.imp (fun h => by rw [List.map_eq_nil_iff]; exact List.length_eq_zero_iff.1 (by rw [HQ.out]; exact h)) (fun h => h.1)
      have hlen : (pfs.map (·.bd)).length = j := by rw [List.length_map]; exact HQ.out
      have hgd : ∀ i (hi : i < (pfs.map (·.bd)).length), (pfs.map (·.bd)).getD i ⟨none, 0, []⟩ = (pfs.getD i c0).bd := fun i hi => by
        have hi' : i < pfs.length := by simpa using hi
        rw [List.getD_eq_getElem?_getD, List.getD_eq_getElem?_getD, List.getElem?_map, List.getElem?_eq_getElem hi']
        rfl
      have hmem : ∀ i (hi : i < (pfs.map (·.bd)).length), pfs.getD i c0 ∈ pfs := fun i hi => by
        have hi' : i < pfs.length := by simpa using hi
        rw [List.getD_eq_getElem?_getD, List.getElem?_eq_getElem hi']
        exact List.getElem_mem hi'
      have hfl : bodL pfs = flatT (pfs.map (·.bd)) := by simp [bodL, flatT, List.flatMap_map]
      have hlt : LtIn w4 N g 0 (pfs.map (·.bd)) := by
        refine ⟨?_, fun i hi => ?_, fun i hi => ?_, fun i hi => ?_⟩
        · exact HFORM.out.imp (fun h => by rw [List.map_eq_nil_iff]; exact List.length_eq_zero_iff.1 (by rw [HQ.out]; exact h)) (fun h => by have := h.2.2.1; omega)
        · rcases HFORM.out with h | ⟨_, _, hgz, hcl⟩
          · omega
          · rw [hgd i hi, Nat.zero_add]
            refine (HB4.out.cell (p := ⟨g, i, none⟩) hgz).trans ((hcl i (by omega)).trans ?_)
            unfold bdV
            have hi' : i < pfs.length := by simpa using hi
            rw [List.getElem?_map, List.getElem?_eq_getElem hi', List.getD_eq_getElem?_getD, List.getElem?_eq_getElem hi']
            rfl
        · rw [hgd i hi]
          exact (hk4.all _ (hmem i hi)).bd
        · rw [hgd i hi]
          have := (hk4.all _ (hmem i hi)).cbd
          exact Nat.le_trans this.1 this.2
      refine ⟨_, (wr.heap.size + 1) :: wr.heap.size :: (if pfs.isEmpty then [] else [g]), rfl, HKR.out.trans (HB4.out.mono hwr), ?_, fun x hx => ?_⟩
      rotate_left
      · rcases List.mem_cons.1 hx with rfl | hx
        · omega
        rcases List.mem_cons.1 hx with rfl | hx
        · omega
        by_cases hp : pfs = []
        · subst hp; simp at hx
        · have hx' : x = g := by simpa [hp] using hx
          rcases HFORM.out with h | ⟨_, hgb, _, _⟩
          · exact (hp (List.length_eq_zero_iff.1 (by rw [HQ.out]; exact h))).elim
          · omega
      rw [hfl]
      refine seqs_lists (b := g) (off := 0) (cap := cap) (ao := ao) hlt hls (by rw [hlen]; omega) (by omega) HC.out.2 (by rw [hlen]; exact HC.out.1) ?_ ?_
      · by_cases hp : pfs = []
        · exact .inl (by rw [hp]; rfl)
        · exact .inr (.inr (by simp [hp]))
      · intro x hx
        by_cases hp : pfs = []
        · subst hp; simp at hx
        · have hx' : x = g := by simpa [hp] using hx
          rcases HFORM.out with h | ⟨_, _, hgz, _⟩
          · exact (hp (List.length_eq_zero_iff.1 (by rw [HQ.out]; exact h))).elim
          · omega
end As
end Go.Proofs.Ytbedcplkcaanhaa
