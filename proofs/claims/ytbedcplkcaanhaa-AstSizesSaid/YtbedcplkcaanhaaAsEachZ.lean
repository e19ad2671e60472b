/-
  WALKS: package ast: the elements of lists, as nodes, one behind the other, to a visitor that may collect texts. Own work.
-/
import Derived.Test.YtbedcplkcaanhaaAsEach
import Derived.Test.YtbedcplkcaanhaaRgz
import Derived.WalkKit
import Derived.WalkSpells
import Derived.WalkLawsBesides
import Derived.Lib.Hide
import Derived.Shelf.Abstract
import Derived.Shelf.RegionOpen
import Derived.OwnWalkIn
import Derived.TacticsInMore
import Derived.LoopNIn
import Derived.LoopIn
namespace Go.Proofs.Ytbedcplkcaanhaa
namespace As
open Go.RowKit Go Go.Shelf
set_option linter.unusedVariables false
attribute [local go_sem] Oper.semAt_some

theorem Nds.keepZ {w w' : World} {Z N : Nat} {V : Nat → Prop} (k : Rgz.Keep Z V w w') (hV : ∀ b, V b → N ≤ b) (hZ : N ≤ Z) : ∀ {ao : Option Addr} {l : List Nd}, Nds w N ao l → Nds w' N ao l := by
  intro ao l h
  induction h with
  | none ao => exact .none ao
  | some b off l hb hz hc hl hr ih =>
    exact .some b off l hb (Nat.lt_of_lt_of_le hz k.size) (fun i j hi hj => (k.cell (p := ⟨b, off + i * 6 + j, Option.none⟩) hz (fun e => by have := hV b e; omega) (Rgz.Ex.not_lt (by show b < Z; omega))).trans (hc i j hi hj)) hl (fun i hi => ih i hi)
/-- A row of expressions lies there, in a block below N or of bs; its parts lie below N. -/
def RowN (w : World) (N : Nat) (bs : List Nat) (ao : Option Addr) (l : List Nd) : Prop :=
  l = [] ∨ ∃ b off, ao = Option.some ⟨b, off, Option.none⟩ ∧ (b < N ∨ b ∈ bs) ∧ b < w.heap.size ∧ (∀ i j, i < l.length → j < 6 → w.cell? ⟨b, off + i * 6 + j, Option.none⟩ = Option.some ((l.getD i d0).cell j)) ∧
    ∀ i, i < l.length → ((l.getD i d0).kids.length ≤ (l.getD i d0).cap ∧ (l.getD i d0).cap ≤ 9223372036854775807) ∧ Nds w N (l.getD i d0).ao (l.getD i d0).kids
theorem RowN.of {w : World} {N : Nat} {bs : List Nat} {ao : Option Addr} {l : List Nd} (h : Nds w N ao l) : RowN w N bs ao l := by
  cases h with
  | none => exact .inl rfl
  | some b off _ hb hz hc hl hr => exact .inr ⟨b, off, rfl, .inl hb, hz, hc, fun i hi => ⟨hl i hi, hr i hi⟩⟩
theorem RowN.keepZ {w w' : World} {Z N : Nat} {bs : List Nat} {V : Nat → Prop} (k : Rgz.Keep Z V w w') (hV : ∀ b, V b → N ≤ b) (hZ : N ≤ Z) (hbs : ∀ b ∈ bs, ¬ V b ∧ ¬ Rgz.Ex Z w b) {ao : Option Addr} {l : List Nd} (h : RowN w N bs ao l) : RowN w' N bs ao l := by
  rcases h with h | ⟨b, off, ha, hb, hz, hc, hl⟩
  · exact .inl h
  · have hv : ¬ V b ∧ ¬ Rgz.Ex Z w b := hb.elim (fun g => ⟨fun e => by have := hV b e; omega, Rgz.Ex.not_lt (by omega)⟩) (hbs b)
    exact .inr ⟨b, off, ha, hb, Nat.lt_of_lt_of_le hz k.size, fun i j hi hj => (k.cell (p := ⟨b, off + i * 6 + j, Option.none⟩) hz hv.1 hv.2).trans (hc i j hi hj), fun i hi => ⟨(hl i hi).1, (hl i hi).2.keepZ k hV hZ⟩⟩
theorem RowN.at {w : World} {N : Nat} {bs : List Nat} {ao : Option Addr} {l : List Nd} (h : RowN w N bs ao l) {i : Nat} (hi : i < l.length) :
    ∃ b off, ao = Option.some ⟨b, off, Option.none⟩ ∧ b < w.heap.size ∧ (∀ j, j < 6 → w.cell? ⟨b, off + i * 6 + j, Option.none⟩ = Option.some ((l.getD i d0).cell j)) := by
  rcases h with h | ⟨b, off, ha, hb, hz, hc, hl⟩
  · subst h; simp at hi
  · exact ⟨b, off, ha, hz, fun j hj => hc i j hi hj⟩
/-- The row of lists lies there. -/
structure LsR (w : World) (N : Nat) (bs : List Nat) (b off : Nat) (ls : List Ls) : Prop where
  size : b < w.heap.size
  at' : ∀ i, i < ls.length → w.cell? ⟨b, off + i, Option.none⟩ = Option.some (.slice (ls.getD i ⟨none, 0, []⟩).ao (ls.getD i ⟨none, 0, []⟩).l.length (ls.getD i ⟨none, 0, []⟩).cap)
  in' : ∀ i, i < ls.length → RowN w N bs (ls.getD i ⟨none, 0, []⟩).ao (ls.getD i ⟨none, 0, []⟩).l
  len : ∀ i, i < ls.length → (ls.getD i ⟨none, 0, []⟩).l.length ≤ 9223372036854775807
theorem LsR.keepZ {w w' : World} {Z N : Nat} {bs : List Nat} {V : Nat → Prop} {b off : Nat} {ls : List Ls} (h : LsR w N bs b off ls) (k : Rgz.Keep Z V w w') (hV : ∀ b, V b → N ≤ b) (hZ : N ≤ Z) (hbs : ∀ b ∈ bs, ¬ V b ∧ ¬ Rgz.Ex Z w b) (hb : ¬ V b) (hx : ¬ Rgz.Ex Z w b) : LsR w' N bs b off ls :=
  ⟨Nat.lt_of_lt_of_le h.size k.size, fun i hi => (k.cell (p := ⟨b, off + i, Option.none⟩) h.size hb hx).trans (h.at' i hi), fun i hi => (h.in' i hi).keepZ k hV hZ hbs, h.len⟩
set_option maxHeartbeats 4000000 in
set_option maxRecDepth 100000 in
theorem each_exZ {N B1 B2 b off cap : Nat} {ls : List Ls} {bs : List Nat} {W : World} (hN : N ≤ W.heap.size)
    (h1 : W.cell? ⟨B1, 0, none⟩ = some (.slice (some ⟨b, off, none⟩) ls.length cap)) (h2 : W.cell? ⟨B2, 0, none⟩ = some (.func (.func 74) #[] #[]))
    (z1 : B1 < W.heap.size) (z2 : B2 < W.heap.size) (hl : LsR W N bs b off ls) (hm : ls.length ≤ 9223372036854775807) (m1 : B1 ∈ bs) (m2 : B2 ∈ bs) (m3 : b ∈ bs ∨ b < N) :
    Rgz.SeqAt Fence.wide Try.prog 84 #[.pointer (some ⟨B1, 0, none⟩), .pointer (some ⟨B2, 0, none⟩)] (fun e : Nd => #[e.val]) N bs (flatL ls) W := by
  intro Z l J Jx V hZ hbx hV hJ hJx hY h0 n
  have hVN : ∀ b, V b → N ≤ b := fun b hb => Nat.le_of_not_lt (fun g => (hV b hb).1 (.inl g))
  have hVW : ∀ b, V b → b < W.heap.size := fun b hb => (hV b hb).2
  have v1 : ¬ V B1 := fun e => (hV _ e).1 (.inr m1)
  have v2 : ¬ V B2 := fun e => (hV _ e).1 (.inr m2)
  have v3 : ¬ V b := fun e => (hV _ e).1 (m3.elim .inr .inl)
  have hent : ∀ (args : Array Value) (w : World), Sem.run Try.prog (callFunc 74 args) w = .ok (.enter 74 args) w := fun _ _ => by kernel_rfl
  have x2 : ¬ Rgz.Ex Z W B2 := hbx _ m2
  have x3 : ¬ Rgz.Ex Z W b := m3.elim (fun h => hbx _ h) (fun h => Rgz.Ex.not_lt (by omega))
  have HZ := Lib.hid (And.intro hZ (And.intro x2 x3))
  have HBX := Lib.hid (fun b (hb : b ∈ bs) => And.intro (fun e : V b => (hV _ e).1 (.inr hb)) (hbx b hb))
  clear x2 x3 hbx hZ
  have HL := Lib.hid hl
  have HY := Lib.hid hY
  have HJ := Lib.hid hJ
  have HJX := Lib.hid hJx
  have HVN := Lib.hid hVN
  have HVW := Lib.hid hVW
  have HV := Lib.hid (And.intro v1 (And.intro v2 v3))
  have HC := Lib.hid (And.intro h1 h2)
  clear hl hY hJ hJx hVN hVW v1 v2 v3 hV h2
  refine callsIn_of_wp Try.func84 rfl trivial ?_ rfl
  simp only [Try.ntmps84, List.size_toArray, List.length_cons, List.length_nil, Nat.reduceAdd, Nat.reduceSub, Array.replicate_succ, Array.replicate_zero, List.push_toArray, List.append_toArray, List.nil_append, List.cons_append]
  gi_wp2
  gi_loopw [5, 7, 10] (fun v p i wr => ∃ k : Nat, k ≤ ls.length ∧ i = .int .i64 k ∧ J (flatL (ls.take k)) wr ∧ Rgz.Keep Z V W wr) (fun _ _ i _ => ls.length - (intOf i).toNat)
  case atStart => exact ⟨0, Nat.zero_le _, rfl, h0, Rgz.Keep.refl _ _⟩
  case round =>
    obtain ⟨k, hk, rfl, hj, kr⟩ := hrel
    by_cases hlt : k < ls.length
    · have hlr := HL.out.keepZ kr HVN.out HZ.out.1 HBX.out HV.out.2.2 HZ.out.2.2
      have c0 := hlr.at' k hlt
      have hin := Lib.hid (HL.out.in' k hlt)
      have hll := hlr.len k hlt
      have zb := hlr.size
      have hflat := flat_take hlt
      have HPRE : Hid (flatL (ls.take k) ++ (ls.getD k ⟨none, 0, []⟩).l <+: flatL ls) := Lib.hid (by
        rw [← hflat]
        unfold flatL
        conv => rhs; rw [← List.take_append_drop (k + 1) ls, List.flatMap_append]
        exact List.prefix_append _ _)
      have HFL := Lib.hid hflat
      have hk0 : (0 : Int) ≤ (k : Int) := Int.natCast_nonneg _
      have hk1 : (k : Int) < (ls.length : Int) := by omega
      have KR := Lib.hid kr
      have HJ1 := Lib.hid hj
      clear hlr hflat kr hj
      generalize flatL (ls.take k) = pre at *
      generalize (ls.getD k ⟨none, 0, []⟩).ao = xa at *
      generalize (ls.getD k ⟨none, 0, []⟩).cap = xc at *
      generalize (ls.getD k ⟨none, 0, []⟩).l = xl at *
      obtain ⟨m, hm'⟩ : ∃ m, xl.length = m := ⟨_, rfl⟩
      have HM := Lib.hid hm'
      rw [hm'] at c0 hll
      clear hm'
      gi_wp2
      gi_loopw [7, 16] (fun p i wx => ∃ j : Nat, j ≤ m ∧ i = .int .i64 j ∧ J (pre ++ xl.take j) wx ∧ Rgz.Keep Z V W wx) (fun _ i _ => m - (intOf i).toNat)
      case atStart => exact ⟨0, Nat.zero_le _, rfl, by simpa using HJ1.out, KR.out⟩
      case round =>
        obtain ⟨j, hj, rfl, hjj, kx⟩ := hrel
        by_cases hjm : j < m
        · obtain ⟨b2, o2, hao, zb2, cc⟩ := (hin.out.keepZ kx HVN.out HZ.out.1 HBX.out).at (i := j) (by rw [HM.out]; exact hjm)
          subst hao
          have e0 := cc 0 (by decide)
          have e1 := cc 1 (by decide)
          have e2 := cc 2 (by decide)
          have e3 := cc 3 (by decide)
          have e4 := cc 4 (by decide)
          have e5 := cc 5 (by decide)
          have g2 := (kx.cell (p := ⟨B2, 0, none⟩) z2 HV.out.2.1 HZ.out.2.1).trans HC.out.2
          have y2 := Nat.lt_of_lt_of_le z2 kx.size
          have hx1 := take_one (l := xl) (j := j) (by rw [HM.out]; exact hjm)
          have HX1 := Lib.hid hx1
          have hxp : Hid (pre ++ xl.take j ++ [xl.getD j d0] <+: flatL ls) := Lib.hid (by
            rw [List.append_assoc, ← hx1]
            refine List.IsPrefix.trans ?_ HPRE.out
            conv => rhs; rw [← List.take_append_drop (j + 1) xl, ← List.append_assoc]
            exact List.prefix_append _ _)
          have hj0 : (0 : Int) ≤ (j : Int) := Int.natCast_nonneg _
          have hj1 : (j : Int) < (m : Int) := by omega
          clear cc hx1
          generalize xl.getD j d0 = e at *
          simp only [Nd.cell, Nat.add_zero] at e0 e1 e2 e3 e4 e5
          have HKX := Lib.hid kx
          have HJJ := Lib.hid hjj
          clear kx hjj
          gi_wp2
          refine ⟨trivial, fun h => (by cases h), ?_⟩
          refine (callsIn_wide.2 (conv_any e _)).mono ?_
          rintro r w3 ⟨rfl, b3⟩
          have bw : Rgz.BelowZ Z W.heap.size wr w3 := Rgz.BelowZ.of (((Below.refl _ wr).alloc (Nat.le_refl _) _).trans (b3.mono (by simp))) HKX.out.size
          have kw : Rgz.Keep Z V W w3 := HKX.out.trans (Rgz.Keep.of (((Below.refl _ wr).alloc (Nat.le_refl _) _).trans (b3.mono (by simp))))
          obtain ⟨fn, tmps, assign, body, hy, hR⟩ := HY.out (n - 1) (pre ++ xl.take j) e w3 (HJ.out _ _ _ bw HJJ.out) hxp.out
          have KW := Lib.hid kw
          clear b3 bw kw
          gi_wp2
          refine ⟨fun h => (by cases h), ?_⟩
          refine hR.mono ?_
          rintro r w4 (⟨rfl, j4, k4⟩ | ⟨rfl, x4, k4⟩)
          · have KW4 := Lib.hid (KW.out.trans k4)
            have HJ4 := Lib.hid j4
            clear k4 j4
            gi_wp2
            go_roundw
            case rel => exact ⟨j + 1, by omega, by go_num, by rw [HX1.out, ← List.append_assoc]; exact HJ4.out, KW4.out⟩
            case measure => simp [intOf]; omega
          · have KW4 := Lib.hid (KW.out.trans k4)
            clear k4
            gi_wp2
            refine bodyPost_ret (results_none rfl _ _ _) rfl ?_
            exact ⟨⟨_, rfl⟩, .inr ⟨_, hxp.out, x4, KW4.out⟩⟩
        · obtain rfl : j = m := by omega
          have hjt : xl.take j = xl := List.take_of_length_le (by rw [HM.out]; exact Nat.le_refl _)
          rw [hjt] at hjj
          have HJJ := Lib.hid hjj
          have HKX := Lib.hid kx
          clear hjj kx hjt
          gi_wp2
          go_roundw
          case rel => exact ⟨k + 1, by omega, by go_num, by rw [HFL.out]; exact HJJ.out, HKX.out⟩
          case measure => simp [intOf]; omega
    · obtain rfl : k = ls.length := by omega
      gi_wp2
      go_end0
      rw [List.take_of_length_le (Nat.le_refl _)] at hj
      exact ⟨⟨_, rfl⟩, .inl ⟨hj, kr⟩⟩
end As
end Go.Proofs.Ytbedcplkcaanhaa
