/-
  PLAIN FACTS: the numbers of a valid image; an image as bytes, and what reads it; no program. Own work.
-/
import Derived.Test.YtaeblnlbelebkaaGreatDoorImBytes
namespace Go.Proofs.YtaeblnlbelebkaaGreatDoor
namespace Im
open Co (In in0)
open Ln (Vc)
set_option linter.unusedVariables false

theorem getD_mem' {α : Type} {l : List α} {d : α} {k : Nat} (hk : k < l.length) : l.getD k d ∈ l := by
  rw [List.getD_eq_getElem?_getD, List.getElem?_eq_getElem hk]
  exact List.getElem_mem hk
theorem all_getD {α : Type} {l : List α} (d : α) {p : α → Prop} (h : ∀ k, k < l.length → p (l.getD k d)) : ∀ x ∈ l, p x := by
  intro x hx
  obtain ⟨k, hk, e⟩ := List.mem_iff_getElem.1 hx
  have := h k hk
  rwa [List.getD_eq_getElem?_getD, List.getElem?_eq_getElem hk, Option.getD_some, e] at this
theorem alw_word {k n : Int} (h : Co.alw k n = true) : Word n := by
  unfold Co.alw at h
  unfold Word
  repeat' split at h
  all_goals (simp only [decide_eq_true_eq] at h; omega)
def okFn (f : Fn) : Prop := Word f.e ∧ Word f.p ∧ Word f.l
def okVc (f : Vc) : Prop := Word f.l ∧ Word f.p ∧ Word f.f
def okIn (i : In) : Prop := Word i.op ∧ Word i.a ∧ Word i.b ∧ Word i.c
theorem chk_word {i : In} (h : Co.chk i = true) : okIn i := by
  unfold Co.chk at h
  simp only [Bool.and_eq_true, decide_eq_true_eq] at h
  exact ⟨by unfold Word; omega, alw_word h.1.1.2, alw_word h.1.2, alw_word h.2⟩
/-- The code's instructions are all some function's. -/
theorem FnsB.owner {m : Im} (h : FnsB m) {i : Nat} (hi : i < m.code.length) : ∃ f, f < m.funcs.length ∧ m.fr f ≤ i ∧ (i : Int) < m.to f := by
  have key : ∀ n, n ≤ m.funcs.length → (∃ f, f < n ∧ m.fr f ≤ i ∧ (i : Int) < m.to f) ∨ (n = 0) ∨ (0 < n ∧ m.to (n - 1) ≤ i) := by
    intro n
    induction n with
    | zero => intro _; exact .inr (.inl rfl)
    | succ n ih =>
      intro hn
      rcases ih (by omega) with ⟨f, a, b⟩ | h0 | ⟨h0, h1⟩
      · exact .inl ⟨f, by omega, b⟩
      · subst h0
        by_cases hc : (i : Int) < m.to 0
        · exact .inl ⟨0, by omega, by rw [h.2.1]; omega, hc⟩
        · exact .inr (.inr ⟨by omega, by simpa using (by omega : m.to 0 ≤ (i : Int))⟩)
      · by_cases hc : (i : Int) < m.to n
        · refine .inl ⟨n, by omega, ?_, hc⟩
          have e := to_next (m := m) (f := n - 1) (by omega)
          rw [show n - 1 + 1 = n by omega] at e
          omega
        · exact .inr (.inr ⟨by omega, by simpa using (by omega : m.to n ≤ (i : Int))⟩)
  have hpos : 0 < m.funcs.length := by have := h.1; omega
  rcases key m.funcs.length (Nat.le_refl _) with h1 | h1 | ⟨_, h1⟩
  · exact h1
  · omega
  · rw [to_last (by omega)] at h1
    omega
/-- All numbers of a valid image are words. -/
structure Words (m : Im) : Prop where
  fn : ∀ f ∈ m.funcs, okFn f
  vc : ∀ v ∈ m.vecs, okVc v
  main : Word m.main
  stack : Word m.stack
  at' : ∀ l ∈ m.atoms, l.length ≤ 4096 ∧ ∀ x ∈ l, Word x
  code : ∀ i ∈ m.code, okIn i
theorem May.words {m : Im} (hm : May m) (hl : ¬ Long m) : Words m := by
  have hL : ¬ Large m ∧ ¬ Deepl m := ⟨fun h => hl (.inl h), fun h => hl (.inr h)⟩
  have hb := hL.1
  unfold Large at hb
  refine ⟨all_getD f0 fun k hk => ?_, all_getD v0 fun k hk => ?_, ?_, ?_, all_getD [] fun k hk => ⟨?_, all_getD 0 fun j hj => ?_⟩, all_getD in0 fun i hi => ?_⟩
  · have a := hm.fns.2.2 k hk
    have b := hm.fns.fr0 hk
    have c := hm.fns.toN hk
    have := a.lt
    have p0 := a.p0
    have pl := a.pl
    have l64 := a.l64
    unfold Im.fr Im.fn at *
    refine ⟨?_, ?_, ?_⟩ <;> (unfold Word; omega)
  · obtain ⟨h1, h2⟩ := Ln.chk_zero.1 hm.vecs.1
    have a := Ln.vaB_iff.1 (h2 k hk).1
    have b := (hm.vecs.2 k hk).1
    unfold Bare at b
    unfold Im.vec at *
    refine ⟨?_, ?_, ?_⟩ <;> (unfold Word; omega)
  · have := hm.main
    unfold MainB Bare at this
    unfold Word; omega
  · have := hm.stack
    unfold StackB at this
    unfold Word; omega
  · apply Nat.le_of_not_lt
    intro h
    exact hL.2 ⟨k, hk, h⟩
  · have := hm.secs k hk j hj
    unfold CellOk Im.at' at this
    unfold Word; omega
  · obtain ⟨f, hf, h1, h2⟩ := hm.fns.owner hi
    have h0 := hm.fns.fr0 hf
    have := (hm.ins f hf (i - (m.fr f).toNat) (by omega)).chk
    rw [show (m.fr f).toNat + (i - (m.fr f).toNat) = i by omega] at this
    exact chk_word this

/-! ### an image as bytes -/
def wdEnc (x : Int) : List UInt8 := vint x.toNat
def fnEnc (f : Fn) : List UInt8 := vints (fnN f)
def vcEnc (f : Vc) : List UInt8 := vints (vcN f)
def inEnc (i : In) : List UInt8 := vints (inN i)
def ptEnc (p : Pt) : List UInt8 := vint (acc p).toNat
def encI (m : Im) : List UInt8 :=
  liEnc fnEnc m.funcs ++ (liEnc vcEnc m.vecs ++ (vint m.main.toNat ++ (liEnc wdEnc m.init ++ (liEnc ptEnc m.ports ++ (vint m.stack.toNat ++ (liEnc (liEnc wdEnc) m.atoms ++ liEnc inEnc m.code))))))
theorem vints_flat {α : Type} (enc : α → List Int) : ∀ (l : List α), vints (l.flatMap enc) = l.flatMap fun x => vints (enc x)
  | [] => rfl
  | x :: l => by rw [List.flatMap_cons, vints_append, vints_flat enc l, List.flatMap_cons]
theorem vints_all : ∀ (l : List Int), vints l = l.flatMap wdEnc := fun _ => rfl
theorem vints_map {α : Type} (f : α → Int) : ∀ (l : List α), vints (l.map f) = l.flatMap fun x => vint (f x).toNat
  | [] => rfl
  | x :: l => by rw [List.map_cons, vints_cons, vints_map f l, List.flatMap_cons]
theorem vints_at (l : List Int) : vints (atN l) = liEnc wdEnc l := by
  unfold atN liEnc
  rw [vints_cons, vints_all, Int.toNat_natCast]
theorem byts_enc (m : Im) : byts m = encI m := by
  unfold byts nums encI
  simp only [vints_append, vints_cons, vints_flat, vints_map, Int.toNat_natCast, List.append_assoc, List.cons_append]
  have e : (fun x => vints (atN x)) = liEnc wdEnc := by funext x; exact vints_at x
  rw [e, vints_all]
  simp only [liEnc, List.append_assoc]
  rfl
def atE : El (List Int) := liE 4096 nmE
def r1 (s : Rd) : Rd := liR 64 fnE s
def r2 (s : Rd) : Rd := liR 32 vcE (r1 s)
def r3 (s : Rd) : Rd := nmR (r2 s)
def r4 (s : Rd) : Rd := liR 4096 nmE (r3 s)
def r5 (s : Rd) : Rd := liR 32 ptE (r4 s)
def r6 (s : Rd) : Rd := nmR (r5 s)
def r7 (s : Rd) : Rd := liR 64 atE (r6 s)
def imV (s : Rd) : Im := ⟨liV 16384 inE (r7 s), liV 64 fnE s, liV 32 vcE (r1 s), nmV (r2 s), liV 4096 nmE (r3 s), liV 32 ptE (r4 s), nmV (r5 s), liV 64 atE (r6 s)⟩
def imR (s : Rd) : Rd := liR 16384 inE (r7 s)
theorem li_out {α : Type} {most : Nat} (hm : most ≤ 4294967295) {e : El α} {enc : α → List UInt8} {ok : α → Prop} (c : Cod e enc ok) {s : Rd} {r : List UInt8} (h : liR most e s = some r) : ∃ bs, s = some bs ∧ bs = liEnc enc (liV most e s) ++ r := by
  obtain ⟨b, h1, h2, _⟩ := (li_cod hm c).out s r h
  exact ⟨b, h1, h2⟩
theorem li_in {α : Type} {most : Nat} (hm : most ≤ 4294967295) {e : El α} {enc : α → List UInt8} {ok : α → Prop} (c : Cod e enc ok) {l : List α} (r : List UInt8) (hl : l.length ≤ most) (ho : ∀ x ∈ l, ok x) : liV most e (some (liEnc enc l ++ r)) = l ∧ liR most e (some (liEnc enc l ++ r)) = some r :=
  (li_cod hm c).in' l r ⟨hl, ho⟩
theorem fn_cod' : Cod fnE fnEnc okFn := fn_cod
theorem vc_cod' : Cod vcE vcEnc okVc := vc_cod
theorem in_cod' : Cod inE inEnc okIn := in_cod
theorem pt_cod' : Cod ptE ptEnc (fun _ => True) := pt_cod
theorem wd_cod' : Cod nmE wdEnc Word := nm_cod
theorem at_cod' : Cod atE (liEnc wdEnc) (fun l => l.length ≤ 4096 ∧ ∀ x ∈ l, Word x) := li_cod (by decide) wd_cod'
set_option maxHeartbeats 4000000 in
theorem im_out {s : Rd} {r : List UInt8} (h : imR s = some r) : s = some (encI (imV s) ++ r) := by
  unfold imR at h
  obtain ⟨b8, h8, e8⟩ := li_out (by decide) in_cod' h
  unfold r7 at h8
  obtain ⟨b7, h7, e7⟩ := li_out (by decide) at_cod' h8
  unfold r6 at h7
  obtain ⟨b6, h6, e6⟩ := nmR_some h7
  unfold r5 at h6
  obtain ⟨b5, h5, e5⟩ := li_out (by decide) pt_cod' h6
  unfold r4 at h5
  obtain ⟨b4, h4, e4⟩ := li_out (by decide) wd_cod' h5
  unfold r3 at h4
  obtain ⟨b3, h3, e3⟩ := nmR_some h4
  unfold r2 at h3
  obtain ⟨b2, h2, e2⟩ := li_out (by decide) vc_cod' h3
  unfold r1 at h2
  obtain ⟨b1, h1, e1⟩ := li_out (by decide) fn_cod' h2
  have k1 : b1 = liEnc fnEnc (imV s).funcs ++ b2 := e1
  have k2 : b2 = liEnc vcEnc (imV s).vecs ++ b3 := e2
  have k3 : b3 = vint (imV s).main.toNat ++ b4 := e3
  have k4 : b4 = liEnc wdEnc (imV s).init ++ b5 := e4
  have k5 : b5 = liEnc ptEnc (imV s).ports ++ b6 := e5
  have k6 : b6 = vint (imV s).stack.toNat ++ b7 := e6
  have k7 : b7 = liEnc (liEnc wdEnc) (imV s).atoms ++ b8 := e7
  have k8 : b8 = liEnc inEnc (imV s).code ++ r := e8
  have h1' : s = some b1 := h1
  clear e1 e2 e3 e4 e5 e6 e7 e8 h1 h2 h3 h4 h5 h6 h7 h8 h
  generalize imV s = m at *
  rw [h1', k1, k2, k3, k4, k5, k6, k7, k8]
  unfold encI
  simp only [List.append_assoc]
structure OkI (m : Im) : Prop where
  words : Words m
  nF : m.funcs.length ≤ 64
  nV : m.vecs.length ≤ 32
  nI : m.init.length ≤ 4096
  nP : m.ports.length ≤ 32
  nA : m.atoms.length ≤ 64
  nC : m.code.length ≤ 16384
  init : ∀ x ∈ m.init, Word x
theorem im_in {m : Im} (h : OkI m) (r : List UInt8) : imV (some (encI m ++ r)) = m ∧ imR (some (encI m ++ r)) = some r := by
  obtain ⟨⟨w1, w2, w3, w4, w5, w6⟩, nF, nV, nI, nP, nA, nC, wi⟩ := h
  have e : encI m ++ r = liEnc fnEnc m.funcs ++ (liEnc vcEnc m.vecs ++ (vint m.main.toNat ++ (liEnc wdEnc m.init ++ (liEnc ptEnc m.ports ++ (vint m.stack.toNat ++ (liEnc (liEnc wdEnc) m.atoms ++ (liEnc inEnc m.code ++ r))))))) := by
    unfold encI; simp only [List.append_assoc]
  obtain ⟨a1, b1⟩ := li_in (most := 64) (by decide) fn_cod' (liEnc vcEnc m.vecs ++ (vint m.main.toNat ++ (liEnc wdEnc m.init ++ (liEnc ptEnc m.ports ++ (vint m.stack.toNat ++ (liEnc (liEnc wdEnc) m.atoms ++ (liEnc inEnc m.code ++ r))))))) nF w1
  obtain ⟨a2, b2⟩ := li_in (most := 32) (by decide) vc_cod' (vint m.main.toNat ++ (liEnc wdEnc m.init ++ (liEnc ptEnc m.ports ++ (vint m.stack.toNat ++ (liEnc (liEnc wdEnc) m.atoms ++ (liEnc inEnc m.code ++ r)))))) nV w2
  obtain ⟨a3, b3⟩ := nm_vint (x := m.main.toNat) (by unfold Word at w3; omega) (liEnc wdEnc m.init ++ (liEnc ptEnc m.ports ++ (vint m.stack.toNat ++ (liEnc (liEnc wdEnc) m.atoms ++ (liEnc inEnc m.code ++ r)))))
  obtain ⟨a4, b4⟩ := li_in (most := 4096) (by decide) wd_cod' (liEnc ptEnc m.ports ++ (vint m.stack.toNat ++ (liEnc (liEnc wdEnc) m.atoms ++ (liEnc inEnc m.code ++ r)))) nI wi
  obtain ⟨a5, b5⟩ := li_in (most := 32) (by decide) pt_cod' (vint m.stack.toNat ++ (liEnc (liEnc wdEnc) m.atoms ++ (liEnc inEnc m.code ++ r))) nP (fun _ _ => trivial)
  obtain ⟨a6, b6⟩ := nm_vint (x := m.stack.toNat) (by unfold Word at w4; omega) (liEnc (liEnc wdEnc) m.atoms ++ (liEnc inEnc m.code ++ r))
  obtain ⟨a7, b7⟩ := li_in (most := 64) (by decide) at_cod' (liEnc inEnc m.code ++ r) nA w5
  obtain ⟨a8, b8⟩ := li_in (most := 16384) (by decide) in_cod' r nC w6
  rw [e]
  have q1 : r1 (some (liEnc fnEnc m.funcs ++ (liEnc vcEnc m.vecs ++ (vint m.main.toNat ++ (liEnc wdEnc m.init ++ (liEnc ptEnc m.ports ++ (vint m.stack.toNat ++ (liEnc (liEnc wdEnc) m.atoms ++ (liEnc inEnc m.code ++ r))))))))) = _ := b1
  have q2 := b2
  rw [← q1] at q2
  have q3 := b3
  rw [← q2] at q3
  have q4 := b4
  rw [← q3] at q4
  have q5 := b5
  rw [← q4] at q5
  have q6 := b6
  rw [← q5] at q6
  have q7 := b7
  rw [← q6] at q7
  have q8 := b8
  rw [← q7] at q8
  have hm : ((m.main.toNat : Nat) : Int) = m.main := by unfold Word at w3; omega
  have hs : ((m.stack.toNat : Nat) : Int) = m.stack := by unfold Word at w4; omega
  refine ⟨?_, q8⟩
  unfold imV r7 r6 r5 r4 r3 r2 r1
  rw [a1, b1, a2, b2, a3, b3, a4, b4, a5, b5, a6, b6, a7, b7, a8, hm, hs]
theorem OkI.of {m : Im} (h : chkI m = 0) (hi : ∀ i, 0 ≤ m.init.getD i 0 ∧ m.init.getD i 0 ≤ 4294967295) : OkI m := by
  obtain ⟨hl, hm, _⟩ := chkI_zero.1 h
  have hb : ¬ Large m := fun g => hl (.inl g)
  unfold Large at hb
  exact ⟨hm.words hl, by omega, by omega, by omega, by omega, by omega, by omega, all_getD 0 fun k _ => hi k⟩
/-- What bytes are read as. -/
def readI (bs : List UInt8) : Option Im := if imR (some bs) = some [] ∧ chkI (imV (some bs)) = 0 then some (imV (some bs)) else none
theorem read_sound {bs : List UInt8} {m : Im} (h : readI bs = some m) : chkI m = 0 ∧ byts m = bs := by
  unfold readI at h
  split at h
  · rename_i hc
    simp only [Option.some.injEq] at h
    subst h
    refine ⟨hc.2, ?_⟩
    have := im_out hc.1
    rw [List.append_nil] at this
    rw [byts_enc]
    exact (Option.some.inj this).symm
  · cases h
theorem read_byts {m : Im} (h : chkI m = 0) (hi : ∀ i, 0 ≤ m.init.getD i 0 ∧ m.init.getD i 0 ≤ 4294967295) : readI (byts m) = some m := by
  obtain ⟨a, b⟩ := im_in (OkI.of h hi) []
  rw [List.append_nil] at a b
  unfold readI
  rw [byts_enc, a, b, if_pos ⟨rfl, h⟩]
theorem imV_init (s : Rd) : ∀ i, 0 ≤ (imV s).init.getD i 0 ∧ (imV s).init.getD i 0 ≤ 4294967295 := by
  intro i
  have key : ∀ (k : Nat) (t : Rd), ∀ x ∈ lsV nmE k t, Word x := by
    intro k
    induction k with
    | zero => intro t x hx; simp [lsV] at hx
    | succ k ih =>
      intro t x hx
      simp only [lsV, List.mem_cons] at hx
      rcases hx with rfl | hx
      · have := nmV_bd t
        unfold Word nmE
        simp only
        omega
      · exact ih _ x hx
  by_cases hi : i < (imV s).init.length
  · have := key _ _ _ (show (imV s).init.getD i 0 ∈ lsV nmE _ _ from getD_mem' hi)
    exact this
  · rw [List.getD_eq_getElem?_getD, List.getElem?_eq_none (by omega)]
    simp
theorem read_more {m : Im} (h : chkI m = 0) (hi : ∀ i, 0 ≤ m.init.getD i 0 ∧ m.init.getD i 0 ≤ 4294967295) {r : List UInt8} (hr : r ≠ []) : readI (byts m ++ r) = none := by
  obtain ⟨a, b⟩ := im_in (OkI.of h hi) r
  unfold readI
  rw [byts_enc, b, if_neg]
  rintro ⟨e, _⟩
  exact hr (Option.some.inj e)
theorem read_less {m : Im} (h : chkI m = 0) (hi : ∀ i, 0 ≤ m.init.getD i 0 ∧ m.init.getD i 0 ≤ 4294967295) {p r : List UInt8} (hr : r ≠ []) (hp : byts m = p ++ r) : readI p = none := by
  cases hq : readI p with
  | none => rfl
  | some m' =>
    obtain ⟨h1, h2⟩ := read_sound hq
    have h3 : m' = imV (some p) := by
      unfold readI at hq
      split at hq
      · exact (Option.some.inj hq).symm
      · cases hq
    have h4 := read_more h1 (by rw [h3]; exact imV_init _) hr
    rw [h2, ← hp, read_byts h hi] at h4
    cases h4
theorem byts_pos (m : Im) : 1 ≤ (byts m).length := by
  unfold byts nums
  simp only [List.cons_append, vints_cons, List.length_append]
  have := vint_pos ((m.funcs.length : Int).toNat)
  omega
theorem byts_inj {a b : Im} (ha : chkI a = 0) (hb : chkI b = 0) (ia : ∀ i, 0 ≤ a.init.getD i 0 ∧ a.init.getD i 0 ≤ 4294967295) (ib : ∀ i, 0 ≤ b.init.getD i 0 ∧ b.init.getD i 0 ≤ 4294967295) (h : byts a = byts b) : a = b := by
  have x := read_byts ha ia
  rw [h, read_byts hb ib] at x
  exact (Option.some.inj x).symm
end Im
end Go.Proofs.YtaeblnlbelebkaaGreatDoor
