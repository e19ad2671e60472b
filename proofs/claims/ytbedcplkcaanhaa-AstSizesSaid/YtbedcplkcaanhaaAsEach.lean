/-
  WALKS: package ast: the elements of lists, as nodes, one behind the other, to whatever visitor. Own work.
-/
import Derived.Test.YtbedcplkcaanhaaAsMem
import Derived.WalkKit
import Derived.WalkSpells
import Derived.WalkLawsBesides
import Derived.Lib.Hide
import Derived.Shelf.Abstract
import Derived.Shelf.RegionOpen
import Derived.OwnWalkIn
import Derived.TacticsInMore
import Derived.LoopNIn
import Derived.LoopIn
namespace Go.Proofs.Ytbedcplkcaanhaa
namespace As
open Go.RowKit Go Rg Go.Shelf
set_option linter.unusedVariables false
attribute [local go_sem] Oper.semAt_some

theorem conv_any (e : Nd) (w : World) : Calls Try.prog 74 #[e.val] w fun r w' => r = .returned e.val ∧ Below w.heap.size w w' := by
  unfold Nd.val
  go_enter Try.func74, Try.ntmps74
  go_wp2
  refine bodyPost_ret (v := .agg #[.int .i64 e.k, .int .i64 e.o, .int .i64 e.t, .int .u32 e.n, .string (bytesOf e.nm), .slice e.ao e.kids.length e.cap]) (by simp [results, Try.results74, go_sem]) rfl ⟨rfl, ?_⟩
  exact ((Below.refl _ w).alloc (Nat.le_refl _) _).alloc (by simp) _
set_option maxHeartbeats 4000000 in
set_option maxRecDepth 100000 in
theorem each_ex {N B1 B2 b off cap : Nat} {ls : List Ls} {bs : List Nat} {W : World} (hN : N ≤ W.heap.size)
    (h1 : W.cell? ⟨B1, 0, none⟩ = some (.slice (some ⟨b, off, none⟩) ls.length cap)) (h2 : W.cell? ⟨B2, 0, none⟩ = some (.func (.func 74) #[] #[]))
    (z1 : B1 < W.heap.size) (z2 : B2 < W.heap.size) (hl : LsIn W N b off ls) (hm : ls.length ≤ 9223372036854775807) (m1 : B1 ∈ bs) (m2 : B2 ∈ bs) (m3 : b ∈ bs ∨ b < N) :
    SeqAt Fence.wide Try.prog 84 #[.pointer (some ⟨B1, 0, none⟩), .pointer (some ⟨B2, 0, none⟩)] (fun e : Nd => #[e.val]) N bs (flatL ls) W := by
  intro l J Jx V hV hJ hJx hY h0 n
  have hVN : ∀ b, V b → N ≤ b := fun b hb => Nat.le_of_not_lt (fun g => (hV b hb).1 (.inl g))
  have hVW : ∀ b, V b → b < W.heap.size := fun b hb => (hV b hb).2
  have v1 : ¬ V B1 := fun e => (hV _ e).1 (.inr m1)
  have v2 : ¬ V B2 := fun e => (hV _ e).1 (.inr m2)
  have v3 : ¬ V b := fun e => (hV _ e).1 (m3.elim .inr .inl)
  have hent : ∀ (args : Array Value) (w : World), Sem.run Try.prog (callFunc 74 args) w = .ok (.enter 74 args) w := fun _ _ => by kernel_rfl
  have HL := Lib.hid hl
  have HY := Lib.hid hY
  have HJ := Lib.hid hJ
  have HJX := Lib.hid hJx
  have HVN := Lib.hid hVN
  have HVW := Lib.hid hVW
  have HV := Lib.hid (And.intro v1 (And.intro v2 v3))
  have HC := Lib.hid (And.intro h1 h2)
  clear hl hY hJ hJx hVN hVW v1 v2 v3 hV h2
  refine callsIn_of_wp Try.func84 rfl trivial ?_ rfl
  simp only [Try.ntmps84, List.size_toArray, List.length_cons, List.length_nil, Nat.reduceAdd, Nat.reduceSub, Array.replicate_succ, Array.replicate_zero, List.push_toArray, List.append_toArray, List.nil_append, List.cons_append]
  gi_wp2
  gi_loopw [5, 7, 10] (fun v p i wr => ∃ k : Nat, k ≤ ls.length ∧ i = .int .i64 k ∧ J (flatL (ls.take k)) wr ∧ Keep V W wr) (fun _ _ i _ => ls.length - (intOf i).toNat)
  case atStart => exact ⟨0, Nat.zero_le _, rfl, h0, Keep.refl _ _⟩
  case round =>
    obtain ⟨k, hk, rfl, hj, kr⟩ := hrel
    by_cases hlt : k < ls.length
    · have hlr := HL.out.keep kr HVN.out HV.out.2.2
      have c0 := hlr.at' k hlt
      have hin := Lib.hid (HL.out.in' k hlt)
      have hll := hlr.len k hlt
      have zb := hlr.size
      have hflat := flat_take hlt
      have HPRE : Hid (flatL (ls.take k) ++ (ls.getD k ⟨none, 0, []⟩).l <+: flatL ls) := Lib.hid (by
        rw [← hflat]
        unfold flatL
        conv => rhs; rw [← List.take_append_drop (k + 1) ls, List.flatMap_append]
        exact List.prefix_append _ _)
      have HFL := Lib.hid hflat
      have hk0 : (0 : Int) ≤ (k : Int) := Int.natCast_nonneg _
      have hk1 : (k : Int) < (ls.length : Int) := by omega
      have KR := Lib.hid kr
      have HJ1 := Lib.hid hj
      clear hlr hflat kr hj
      generalize flatL (ls.take k) = pre at *
      generalize (ls.getD k ⟨none, 0, []⟩).ao = xa at *
      generalize (ls.getD k ⟨none, 0, []⟩).cap = xc at *
      generalize (ls.getD k ⟨none, 0, []⟩).l = xl at *
      obtain ⟨m, hm'⟩ : ∃ m, xl.length = m := ⟨_, rfl⟩
      have HM := Lib.hid hm'
      rw [hm'] at c0 hll
      clear hm'
      gi_wp2
      gi_loopw [7, 16] (fun p i wx => ∃ j : Nat, j ≤ m ∧ i = .int .i64 j ∧ J (pre ++ xl.take j) wx ∧ Keep V W wx) (fun _ i _ => m - (intOf i).toNat)
      case atStart => exact ⟨0, Nat.zero_le _, rfl, by simpa using HJ1.out, KR.out⟩
      case round =>
        obtain ⟨j, hj, rfl, hjj, kx⟩ := hrel
        by_cases hjm : j < m
        · obtain ⟨b2, o2, hao, hbN, zb2, cc, hcap, hkids⟩ := (hin.out.keep kx HVN.out).at (i := j) (by rw [HM.out]; exact hjm)
          subst hao
          have e0 := cc 0 (by decide)
          have e1 := cc 1 (by decide)
          have e2 := cc 2 (by decide)
          have e3 := cc 3 (by decide)
          have e4 := cc 4 (by decide)
          have e5 := cc 5 (by decide)
          have g2 := (kx.cell (p := ⟨B2, 0, none⟩) z2 HV.out.2.1).trans HC.out.2
          have y2 := Nat.lt_of_lt_of_le z2 kx.size
          have hx1 := take_one (l := xl) (j := j) (by rw [HM.out]; exact hjm)
          have HX1 := Lib.hid hx1
          have hxp : Hid (pre ++ xl.take j ++ [xl.getD j d0] <+: flatL ls) := Lib.hid (by
            rw [List.append_assoc, ← hx1]
            refine List.IsPrefix.trans ?_ HPRE.out
            conv => rhs; rw [← List.take_append_drop (j + 1) xl, ← List.append_assoc]
            exact List.prefix_append _ _)
          have hj0 : (0 : Int) ≤ (j : Int) := Int.natCast_nonneg _
          have hj1 : (j : Int) < (m : Int) := by omega
          clear cc hx1
          generalize xl.getD j d0 = e at *
          simp only [Nd.cell, Nat.add_zero] at e0 e1 e2 e3 e4 e5
          have HKX := Lib.hid kx
          have HJJ := Lib.hid hjj
          clear kx hjj
          gi_wp2
          refine ⟨trivial, fun h => (by cases h), ?_⟩
          refine (callsIn_wide.2 (conv_any e _)).mono ?_
          rintro r w3 ⟨rfl, b3⟩
          have bw : Below W.heap.size wr w3 := ((Below.refl _ wr).alloc HKX.out.size _).trans (b3.mono (by have := HKX.out.size; simp; omega))
          have kw : Keep V W w3 := HKX.out.trans (Keep.of (((Below.refl _ wr).alloc (Nat.le_refl _) _).trans (b3.mono (by simp))))
          obtain ⟨fn, tmps, assign, body, hy, hR⟩ := HY.out (n - 1) (pre ++ xl.take j) e w3 (HJ.out _ _ _ bw HJJ.out) hxp.out
          have KW := Lib.hid kw
          clear b3 bw kw
          gi_wp2
          refine ⟨fun h => (by cases h), ?_⟩
          refine hR.mono ?_
          rintro r w4 (⟨rfl, j4, k4⟩ | ⟨rfl, x4, k4⟩)
          · have KW4 := Lib.hid (KW.out.trans k4)
            have HJ4 := Lib.hid j4
            clear k4 j4
            gi_wp2
            go_roundw
            case rel => exact ⟨j + 1, by omega, by go_num, by rw [HX1.out, ← List.append_assoc]; exact HJ4.out, KW4.out⟩
            case measure => simp [intOf]; omega
          · have KW4 := Lib.hid (KW.out.trans k4)
            clear k4
            gi_wp2
            refine bodyPost_ret (results_none rfl _ _ _) rfl ?_
            exact ⟨⟨_, rfl⟩, .inr ⟨_, hxp.out, x4, KW4.out⟩⟩
        · obtain rfl : j = m := by omega
          have hjt : xl.take j = xl := List.take_of_length_le (by rw [HM.out]; exact Nat.le_refl _)
          rw [hjt] at hjj
          have HJJ := Lib.hid hjj
          have HKX := Lib.hid kx
          clear hjj kx hjt
          gi_wp2
          go_roundw
          case rel => exact ⟨k + 1, by omega, by go_num, by rw [HFL.out]; exact HJJ.out, HKX.out⟩
          case measure => simp [intOf]; omega
    · obtain rfl : k = ls.length := by omega
      gi_wp2
      go_end0
      rw [List.take_of_length_le (Nat.le_refl _)] at hj
      exact ⟨⟨_, rfl⟩, .inl ⟨hj, kr⟩⟩
end As
end Go.Proofs.Ytbedcplkcaanhaa
