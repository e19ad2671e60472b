/-
  WALKS: package ast: parts are checked. Own work.
-/
import Derived.Test.YtbedcplkcaanhaaAsValidS
import Derived.Test.YtbedcplkcaanhaaAsCheck
import Derived.Test.YtbedcplkcaanhaaAsMuchP
namespace Go.Proofs.Ytbedcplkcaanhaa
namespace As
open Go.RowKit Go Rg Go.Shelf
set_option linter.unusedVariables false
attribute [local go_sem] Oper.semAt_some

def vP (u : Nat → ByteArray) : Pt → Bool
  | .s x => vS x
  | .e x => vN u x
/-- What the check of parts answers. -/
def chkP (u : Nat → ByteArray) (xs : List (Int × Pt)) : Int := if tooM xs then 3 else if xs.all (fun p => vP u p.2) then 0 else 2
def AllP (u : Nat → ByteArray) (ys : List (Int × Pt)) : Prop := ∀ p ∈ ys, vP u p.2 = true
def NotP (u : Nat → ByteArray) (ys : List (Int × Pt)) : Prop := ∃ p ∈ ys, vP u p.2 = false
/-- A part as it lies there, and no name too long. -/
def PartIn (w : World) (N : Nat) : Pt → Prop
  | .s x => StIn w N x ∧ x.nm.length ≤ 1000000000000000000 ∧ ∀ s ∈ x.ns.l, s.length ≤ 1000000000000000000
  | .e x => x.nm.length ≤ 1000000000000000000 ∧ x.kids.length ≤ 9223372036854775807
theorem PartIn.keep {w w' : World} {N : Nat} {V : Nat → Prop} (k : Keep V w w') (hV : ∀ b, V b → N ≤ b) {p : Pt} (h : PartIn w N p) : PartIn w' N p := by
  cases p with
  | s x => exact ⟨h.1.keep k hV, h.2⟩
  | e x => exact h
def FitsP (w : World) (N : Nat) (xs : List (Int × Pt)) : Prop := ∀ p ∈ xs, (0 ≤ p.1 ∧ p.1 ≤ 9223372036854775807) ∧ PartIn w N p.2
theorem chkP_ok {u : Nat → ByteArray} {xs : List (Int × Pt)} (h : tooM xs = false) (hv : AllP u xs) : chkP u xs = 0 := by
  unfold chkP
  rw [h, if_neg (by decide), if_pos (List.all_eq_true.2 hv)]
theorem chkP_no {u : Nat → ByteArray} {xs ys : List (Int × Pt)} (h : tooM xs = false) (hp : ys <+: xs) (hv : ∃ p ∈ ys, vP u p.2 = false) : chkP u xs = 2 := by
  unfold chkP
  obtain ⟨p, hm, hf⟩ := hv
  rw [h, if_neg (by decide), if_neg]
  intro e
  have := List.all_eq_true.1 e p (hp.subset hm)
  rw [hf] at this
  cases this
theorem AllP.snoc {u : Nat → ByteArray} {ys : List (Int × Pt)} {p : Int × Pt} (h : AllP u ys) (hp : vP u p.2 = true) : AllP u (ys ++ [p]) := fun q hq => by
  rcases List.mem_append.1 hq with hq | hq
  · exact h q hq
  · obtain rfl : q = p := by simpa using hq
    exact hp
set_option maxHeartbeats 4000000 in
set_option maxRecDepth 100000 in
theorem check_anyP {u : Nat → ByteArray} {w : World} {bs : List Nat} {r : Value} {N : Nat} {xs : List (Int × Pt)} (hs : SeqB encP w bs r N xs) (hN : N ≤ w.heap.size) (hf : FitsP w N xs) (hu : UnT u w) :
    Calls Try.prog 31 #[r] w fun e w' => e = .returned (.int .i64 (chkP u xs)) ∧ Below w.heap.size w w' := by
  have HS := Lib.hid hs
  have HF := Lib.hid hf
  have HU := Lib.hid hu
  obtain ⟨gf, lb, rfl, eg, hbs, hsq⟩ := hs
  clear eg hbs hsq hf hu
  refine (callsIn_wide (n := 3)).1 ?_
  refine callsIn_of_wp_marks Try.func31 rfl trivial ?_ rfl
  simp only [Try.ntmps31, List.size_toArray, List.length_cons, List.length_nil, Nat.reduceAdd, Nat.reduceSub, Array.replicate_succ, Array.replicate_zero, List.push_toArray, List.append_toArray, List.nil_append, List.cons_append]
  have hent : ∀ (args : Array Value) (W' : World), Sem.run Try.prog (callFunc 53 args) W' = .ok (.enter 53 args) W' := fun _ _ => by kernel_rfl
  gi_wp2
  refine ⟨trivial, ?_⟩
  refine (callsIn_wide.2 (much_anyP (HS.out.later ((Below.refl _ w).alloc (Nat.le_refl _) _)) (by simp; omega) (fun p hp => (HF.out p hp).1))).mono ?_
  rintro e w1 ⟨rfl, b1⟩
  have c2 := new_in b1 (by simp) 0 _ rfl
  have f2 : w1.frozen? ⟨w.heap.size, 0, none⟩ = false := (b1.frozen (p := ⟨w.heap.size, 0, none⟩) (by simp)).trans (by simp)
  have z1 : w.heap.size < w1.heap.size := World.block_lt_of_cell? w1 _ c2
  have bw : Below w.heap.size w w1 := ((Below.refl _ w).alloc (Nat.le_refl _) _).trans (b1.mono (by simp))
  clear b1
  cases htm : tooM xs
  · have HB := Lib.hid bw
    have HC2 := Lib.hid (And.intro c2 f2)
    gi_wp2
    have hss := HS.out.later bw
    obtain ⟨gf', lb', he, eg, hbs, hsq⟩ := hss
    obtain ⟨rfl, rfl⟩ : gf' = gf ∧ lb' = lb := by injection he with h1 h2 h3; injection h1 with h1; exact ⟨h1.symm, h3.symm⟩
    have EG := Lib.hid eg
    have HBS := Lib.hid hbs
    obtain ⟨_, _, he0, _, hbs0, _⟩ := HS.out
    have HBS0 := Lib.hid hbs0
    have HSQ := Lib.hid hsq
    clear he eg hbs hsq he0 hbs0
    refine range_out (fun _ => trivial) rfl rfl (gf := gf') (lb := lb') rfl (fun args W => EG.out args W) (encs := encP) (N := N) (bs := bs) (xs := xs) (fun W bW => HSQ.out W bW) (fun _ => rfl)
      (fun b => b = w.heap.size) ?_ ?_
      (fun ys W => Keep (fun _ => False) w1 W ∧ AllP u ys)
      (fun c ys W => c = .ret ∧ Keep (fun b => b = w.heap.size) w1 W ∧ W.cell? ⟨w.heap.size, 0, none⟩ = some (.int .i64 2) ∧ NotP u ys) ?_ ?_ ⟨Keep.refl _ _, fun p hp => by cases hp⟩
      (fun x a' W => a' = { tmps := #[.func (.func gf') #[] lb', undef, .pointer (some ⟨w.heap.size, 0, none⟩), undef, x.2.val, .func (.func gf') #[] lb', .bool false, .func (.func gf') #[] lb', .int .i64 x.1, x.2.val, undef, undef, undef], defers := [] }) ?_ ?assign ?body ?done ?stop
    · rintro b rfl
      exact ⟨fun e => by rcases e with e | e; omega; have := HBS0.out _ e; omega, z1⟩
    · rintro b (e | e)
      · omega
      · exact HBS.out b e
    · rintro ys A B k ⟨kk, h⟩
      exact ⟨keep_more kk k, h⟩
    · rintro c ys A B k ⟨rfl, kk, c2, h⟩
      exact ⟨rfl, keep_more kk k, (World.cell?_of_block (w := A) (k.block w.heap.size (by omega))).trans c2, h⟩
    · rintro L x a' W r o hL rfl
      rfl
    case assign =>
      intro L m pre x W K hL hi hr hK
      unfold encP
      gi_wp2
      exact hK _ _ (Keep.refl _ W) hi rfl
    case body =>
      rintro L m pre x a' W hL hpx ⟨kk, hv⟩ rfl ⟨rr, hrr⟩
      obtain ⟨dx, ex⟩ := x
      have hf := HF.out (dx, ex) (hpx.subset (by simp))
      dsimp only at hf ⊢
      have c9 : W.cell? ⟨w.heap.size, 0, none⟩ = some (.int .i64 0) := (kk.cell (p := ⟨w.heap.size, 0, none⟩) z1 (fun h => h)).trans HC2.out.1
      have f9 : W.frozen? ⟨w.heap.size, 0, none⟩ = false := (kk.frozen (p := ⟨w.heap.size, 0, none⟩) z1 (fun h => h)).trans HC2.out.2
      have huW : UnT u W := fun i hi => by
        have hh := un_keep HU.out HB.out i hi
        exact (kk.cell (World.block_lt_of_cell? w1 _ hh) (fun h => h)).trans hh
      have HV := Lib.hid hv
      have HKK := Lib.hid kk
      have HPX := Lib.hid hpx
      have hvc : ∃ (g : Nat) (v : Nat × Value), ex.val = .iface v.1 v.2 ∧ (∀ W', Sem.run Try.prog (method 270 v.1 v.2 "lamplighter/ast.valid") W' = .ok (g, v.2) W') ∧ (∀ (args : Array Value) (W' : World), Sem.run Try.prog (callFunc g args) W' = .ok (.enter g args) W') ∧
          Calls Try.prog g #[v.2] W (fun e w' => e = .returned (.bool (vP u ex)) ∧ Below W.heap.size W w') := by
        cases ex with
        | s x => exact ⟨120, (105, x.val), rfl, fun _ => by kernel_rfl, fun _ _ => by kernel_rfl, validS_any x W ((hf.2 : PartIn w N (.s x)).keep (V := fun _ => False) ((Keep.of HB.out).trans kk) (fun _ h => h.elim))⟩
        | e x => exact ⟨113, (89, x.val), rfl, fun _ => by kernel_rfl, fun _ _ => by kernel_rfl, valid_any u x W huW (hf.2 : PartIn w N (.e x)).1 (hf.2 : PartIn w N (.e x)).2⟩
      obtain ⟨g, ⟨ty, vv⟩, hval, hmeth, hent1, hcal⟩ := hvc
      dsimp only at hval hmeth hent1 hcal
      rw [hval]
      have HVC := Lib.hid hcal
      clear hv kk hpx hf huW hcal hval
      gi_wp2
      refine ⟨trivial, fun h => (by cases h), ?_⟩
      refine CallsIn.mono (show CallsIn (Fence.wide.inRound L) (m - 1) Try.prog g #[vv] W _ from callsIn_wide.2 HVC.out) ?_
      rintro e w3 ⟨rfl, b3⟩
      have c3 : w3.cell? ⟨w.heap.size, 0, none⟩ = some (.int .i64 0) := (b3.cell (World.block_lt_of_cell? W _ c9)).trans c9
      have f3 : w3.frozen? ⟨w.heap.size, 0, none⟩ = false := (b3.frozen (World.block_lt_of_cell? W _ c9)).trans f9
      have KK3 := Lib.hid (HKK.out.trans (Keep.of b3))
      have B3 := Lib.hid b3
      clear HVC
      cases hvx : vP u ex
      · have HNV : Hid (NotP u (pre ++ [(dx, ex)])) := Lib.hid ⟨(dx, ex), by simp, hvx⟩
        clear hvx b3
        gi_wp2
        exact ⟨((Keep.of (V := fun b => b = w.heap.size) B3.out).setCell (p := ⟨w.heap.size, 0, none⟩) (.inl rfl) _), rfl, (KK3.out.wider (V' := fun b => b = w.heap.size) (fun _ h => h.elim)).setCell (p := ⟨w.heap.size, 0, none⟩) (.inl rfl) _, World.cell?_setCell_same' _ _ _ (by rw [c3]; rfl), HNV.out⟩
      · have HAV : Hid (AllP u (pre ++ [(dx, ex)])) := Lib.hid (HV.out.snoc hvx)
        clear hvx b3
        gi_wp2
        exact ⟨Keep.of B3.out, KK3.out, HAV.out⟩
    case done =>
      rintro W ⟨kk, hv⟩ hD
      have c9 : W.cell? ⟨w.heap.size, 0, none⟩ = some (.int .i64 0) := (kk.cell (p := ⟨w.heap.size, 0, none⟩) z1 (fun h => h)).trans HC2.out.1
      have f9 : W.frozen? ⟨w.heap.size, 0, none⟩ = false := (kk.frozen (p := ⟨w.heap.size, 0, none⟩) z1 (fun h => h)).trans HC2.out.2
      have HV := Lib.hid hv
      have HKK := Lib.hid kk
      clear hv kk
      gi_wp2
      have hDD : (W.setCell ⟨w.heap.size, 0, none⟩ (.int .i64 0)).heap[w1.heap.size]? = some (.deferred (some [])) := (Below.heap_setCell W ⟨w.heap.size, 0, none⟩ _ _ (by intro e; dsimp only at e; omega)).trans hD
      have hcc : ((W.setCell ⟨w.heap.size, 0, none⟩ (.int .i64 0)).putObj w1.heap.size (.deferred none)).cell? ⟨w.heap.size, 0, none⟩ = some (.int .i64 0) :=
        (World.cell?_of_block (World.putObj_heap_other (by intro e; dsimp only at e; omega))).trans (World.cell?_setCell_same' _ _ _ (by rw [c9]; rfl))
      refine ⟨by simp, .inl ⟨_, _, rfl, run_takeDeferred hDD, ?_⟩⟩
      refine ⟨.int .i64 0, by simp [results, Try.results31, go_sem, hcc], by rw [chkP_ok htm HV.out], ?_⟩
      exact HB.out.trans ((((HKK.out.wider (V' := fun b => b = w.heap.size) (fun _ h => h.elim)).setCell (p := ⟨w.heap.size, 0, none⟩) (.inl rfl) _).putObj (.inr (Nat.le_refl _)) _).below (by omega) (fun i h => by omega))
    case stop =>
      rintro c pre W hp ⟨rfl, kk, c2, hm⟩ hD
      have HM := Lib.hid hm
      have HKK := Lib.hid kk
      clear hm kk
      gi_wp2
      have hcc : (W.putObj w1.heap.size (.deferred none)).cell? ⟨w.heap.size, 0, none⟩ = some (.int .i64 2) :=
        (World.cell?_of_block (World.putObj_heap_other (by intro e; dsimp only at e; omega))).trans c2
      refine ⟨by simp, .inl ⟨_, _, rfl, run_takeDeferred hD, ?_⟩⟩
      refine ⟨.int .i64 2, by simp [results, Try.results31, go_sem, hcc], by rw [chkP_no htm hp HM.out], ?_⟩
      exact HB.out.trans ((HKK.out.putObj (.inr (Nat.le_refl _)) _).below (by omega) (fun i h => by omega))
  · gi_wp2
    refine ⟨.int .i64 3, by simp [results, Try.results31, go_sem, World.cell?_setCell_same' _ _ _ (by rw [c2]; rfl)], by unfold chkP; rw [htm]; rfl, ?_⟩
    exact bw.setCell (p := ⟨w.heap.size, 0, none⟩) (Nat.le_refl _) _
end As
end Go.Proofs.Ytbedcplkcaanhaa
