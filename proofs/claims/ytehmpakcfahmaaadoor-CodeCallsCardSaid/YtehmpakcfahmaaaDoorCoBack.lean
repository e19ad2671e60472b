/-
  WALK: the statement CodeBack. Own work.
-/
import Derived.Test.YtehmpakcfahmaaaDoorCoGoes
namespace Go.Proofs.YtehmpakcfahmaaaDoor
namespace Co
open Go.RowKit Go
set_option linter.unusedVariables false

theorem join_head : ∀ (ps : List (List UInt8)), ps ≠ [] → (∀ p ∈ ps, clean p = true) → ∃ b l, join ps = b :: l ∧ 33 ≤ b.toNat
  | [], h, _ => absurd rfl h
  | [x], _, h => by
    have hx := h x List.mem_cons_self
    cases x with
    | nil => exact absurd rfl (clean_ne hx)
    | cons b l => exact ⟨b, l, rfl, (clean_at hx b List.mem_cons_self).1⟩
  | x :: y :: r, _, h => by
    have hx := h x List.mem_cons_self
    cases x with
    | nil => exact absurd rfl (clean_ne hx)
    | cons b l => exact ⟨b, _, rfl, (clean_at hx b List.mem_cons_self).1⟩
theorem join_last : ∀ (ps : List (List UInt8)), ps ≠ [] → (∀ p ∈ ps, clean p = true) → ∃ l b, join ps = l ++ [b] ∧ 33 ≤ b.toNat
  | [], h, _ => absurd rfl h
  | [x], _, h => by
    have hx := h x List.mem_cons_self
    have hne := clean_ne hx
    refine ⟨x.dropLast, x.getLast hne, ?_, (clean_at hx _ (List.getLast_mem hne)).1⟩
    rw [join, List.dropLast_concat_getLast]
  | x :: y :: r, _, h => by
    obtain ⟨l, b, e, hb⟩ := join_last (y :: r) (by simp) (fun p hp => h p (List.mem_cons_of_mem _ hp))
    exact ⟨x ++ 32 :: l, b, by rw [join, e]; simp, hb⟩
theorem shape_ne {i : In} {ps : List (List UInt8)} (h : Shape i ps) : ps ≠ [] := by cases h <;> simp
theorem prs_after {i : In} (h : chk i = true) : prs (txt i ++ [32]) = none := by
  cases hp : prs (txt i ++ [32]) with
  | none => rfl
  | some j =>
    obtain ⟨hc, ht⟩ := prs_sound hp
    obtain ⟨ps, hs, he⟩ := shape_of hc
    obtain ⟨l, b, e, hb⟩ := join_last ps (shape_ne hs) (shape_clean (chk_parts hc).1 hs)
    rw [ht, e] at he
    have := (List.append_inj' he rfl).2
    simp only [List.cons.injEq, and_true] at this
    subst this
    exact absurd hb (by decide)
theorem prs_before {i : In} (h : chk i = true) : prs (32 :: txt i) = none := by
  cases hp : prs (32 :: txt i) with
  | none => rfl
  | some j =>
    obtain ⟨hc, ht⟩ := prs_sound hp
    obtain ⟨ps, hs, he⟩ := shape_of hc
    obtain ⟨b, l, e, hb⟩ := join_head ps (shape_ne hs) (shape_clean (chk_parts hc).1 hs)
    rw [ht, e] at he
    simp only [List.cons.injEq] at he
    obtain ⟨rfl, _⟩ := he
    exact absurd hb (by decide)
theorem prs_wf {s : List UInt8} {i : In} (h : prs s = some i) : Wf i := by
  unfold prs at h
  split at h
  · cases h
  · split at h
    · simp only [Option.some.injEq] at h
      subst h
      exact rd_wf _
    · cases h
theorem prsI_none {s : List UInt8} (h : prs s = none) : prsI s = ⟨0, 0, 0, 0⟩ := by unfold prsI; rw [h]; rfl
theorem prsE_none {s : List UInt8} (h : prs s = none) : prsE s = 11 := by unfold prsE; rw [h]; rfl
theorem prsI_some {s : List UInt8} {i : In} (h : prs s = some i) : prsI s = i := by unfold prsI; rw [h]; rfl
theorem prsE_some {s : List UInt8} {i : In} (h : prs s = some i) : prsE s = 0 := by unfold prsE; rw [h]; rfl

set_option maxHeartbeats 1000000 in
set_option maxRecDepth 100000 in
theorem back_long (op x y z : Int) (s : List UInt8) (w : World) (hE : Env w) (hs : (100 : Int) < ((bytesOf s).size : Int)) (hm : (bytesOf s).size ≤ 9223372036854775807) :
    Calls Tryd.prog 5 #[.agg #[.int .i64 op, .int .i64 x, .int .i64 y, .int .i64 z], .string (bytesOf s)] w (Yes w) := by
  have K0 := (Kp.refl w).alloc #[.int .i64 op, .int .i64 x, .int .i64 y, .int .i64 z] 27
  go_enter Tryd.func5, Tryd.ntmps5
  go_wp2_with fail
  refine (lives_k hE K0).mono ?_
  rintro e w1 ⟨rfl, k1⟩
  go_wp2
  go_ret
  exact ⟨rfl, K0.trans k1⟩

/-- An instruction in a block of one's own. -/
structure Box (w : World) (B : Nat) (a b c d : Int) : Prop where
  size : B < w.heap.size
  c0 : w.cell? ⟨B, 0, none⟩ = some (.int .i64 a)
  c1 : w.cell? ⟨B, 1, none⟩ = some (.int .i64 b)
  c2 : w.cell? ⟨B, 2, none⟩ = some (.int .i64 c)
  c3 : w.cell? ⟨B, 3, none⟩ = some (.int .i64 d)
  fro : ∀ j, w.frozen? ⟨B, j, none⟩ = false
theorem Box.kp {w w' : World} {B : Nat} {a b c d : Int} (h : Box w B a b c d) (k : Kp w w') : Box w' B a b c d :=
  ⟨Nat.lt_of_lt_of_le h.size k.size, (k.cells _ _ h.size).trans h.c0, (k.cells _ _ h.size).trans h.c1, (k.cells _ _ h.size).trans h.c2, (k.cells _ _ h.size).trans h.c3, fun j => (k.fros _ _ h.size).trans (h.fro j)⟩
theorem Box.new (w : World) (a b c d : Int) : Box (w.alloc (.cells #[.int .i64 a, .int .i64 b, .int .i64 c, .int .i64 d] 27)) w.heap.size a b c d :=
  ⟨by simp, by simp, by simp, by simp, by simp, fun j => by simp⟩
theorem Box.far {w : World} {B B' : Nat} {a b c d : Int} (h : Box w B a b c d) (hB : B' ≠ B) (o : Nat) (v : Value) : Box (w.setCell ⟨B', o, none⟩ v) B a b c d :=
  ⟨by simpa using h.size, (World.cell?_setCell_other _ _ _ _ (fun e => hB (congrArg Addr.block e))).trans h.c0, (World.cell?_setCell_other _ _ _ _ (fun e => hB (congrArg Addr.block e))).trans h.c1, (World.cell?_setCell_other _ _ _ _ (fun e => hB (congrArg Addr.block e))).trans h.c2, (World.cell?_setCell_other _ _ _ _ (fun e => hB (congrArg Addr.block e))).trans h.c3, fun j => by rw [World.frozen?_setCell]; exact h.fro j⟩
theorem Box.set0 {w : World} {B : Nat} {a b c d : Int} (h : Box w B a b c d) (v : Int) : Box (w.setCell ⟨B, 0, none⟩ (.int .i64 v)) B v b c d :=
  ⟨by simpa using h.size, World.cell?_setCell_same _ _ _ h.c0, by rw [World.cell?_setCell_other (h := by simp)]; exact h.c1, by rw [World.cell?_setCell_other (h := by simp)]; exact h.c2, by rw [World.cell?_setCell_other (h := by simp)]; exact h.c3, fun j => by rw [World.frozen?_setCell]; exact h.fro j⟩
theorem Box.set1 {w : World} {B : Nat} {a b c d : Int} (h : Box w B a b c d) (v : Int) : Box (w.setCell ⟨B, 1, none⟩ (.int .i64 v)) B a v c d :=
  ⟨by simpa using h.size, by rw [World.cell?_setCell_other (h := by simp)]; exact h.c0, World.cell?_setCell_same _ _ _ h.c1, by rw [World.cell?_setCell_other (h := by simp)]; exact h.c2, by rw [World.cell?_setCell_other (h := by simp)]; exact h.c3, fun j => by rw [World.frozen?_setCell]; exact h.fro j⟩
theorem Box.set2 {w : World} {B : Nat} {a b c d : Int} (h : Box w B a b c d) (v : Int) : Box (w.setCell ⟨B, 2, none⟩ (.int .i64 v)) B a b v d :=
  ⟨by simpa using h.size, by rw [World.cell?_setCell_other (h := by simp)]; exact h.c0, by rw [World.cell?_setCell_other (h := by simp)]; exact h.c1, World.cell?_setCell_same _ _ _ h.c2, by rw [World.cell?_setCell_other (h := by simp)]; exact h.c3, fun j => by rw [World.frozen?_setCell]; exact h.fro j⟩
theorem Box.set3 {w : World} {B : Nat} {a b c d : Int} (h : Box w B a b c d) (v : Int) : Box (w.setCell ⟨B, 3, none⟩ (.int .i64 v)) B a b c v :=
  ⟨by simpa using h.size, by rw [World.cell?_setCell_other (h := by simp)]; exact h.c0, by rw [World.cell?_setCell_other (h := by simp)]; exact h.c1, by rw [World.cell?_setCell_other (h := by simp)]; exact h.c2, World.cell?_setCell_same _ _ _ h.c3, fun j => by rw [World.frozen?_setCell]; exact h.fro j⟩

theorem Parse_af {w0 w : World} (hE : Env w0) (hk : Kp w0 w) (t : List UInt8) (hm : t.length ≤ 22) (h : prs (t ++ [32]) = none) :
    Calls Tryd.prog 16 #[.string (bytesOf t ++ ⟨#[32]⟩)] w fun r w' => r = .returned (.tuple #[.agg #[.int .i64 0, .int .i64 0, .int .i64 0, .int .i64 0], .int .i64 11]) ∧ Kp w w' := by
  have e : bytesOf t ++ ⟨#[32]⟩ = bytesOf (t ++ [32]) := bytesOf_append t [32]
  rw [e]
  exact Parse_k hE hk _ (by simp; omega) 0 0 0 0 11 (prsI_none h) (prsE_none h)
theorem Parse_be {w0 w : World} (hE : Env w0) (hk : Kp w0 w) (t : List UInt8) (hm : t.length ≤ 22) (h : prs (32 :: t) = none) :
    Calls Tryd.prog 16 #[.string (⟨#[32]⟩ ++ bytesOf t)] w fun r w' => r = .returned (.tuple #[.agg #[.int .i64 0, .int .i64 0, .int .i64 0, .int .i64 0], .int .i64 11]) ∧ Kp w w' := by
  have e : ⟨#[32]⟩ ++ bytesOf t = bytesOf (32 :: t) := bytesOf_append [32] t
  rw [e]
  exact Parse_k hE hk _ (by simp; omega) 0 0 0 0 11 (prsI_none h) (prsE_none h)

set_option maxHeartbeats 4000000 in
set_option maxRecDepth 100000 in
theorem back_none_bad (op x y z : Int) (s : List UInt8) (w : World) (hE : Env w) (hi : Wf ⟨op, x, y, z⟩) (hs : ((bytesOf s).size : Int) ≤ 100) (ja jb jc jd : Int) (hp : prsI s = ⟨ja, jb, jc, jd⟩) (hq : prsE s = 11) (hc : chk ⟨op, x, y, z⟩ = false) :
    Calls Tryd.prog 5 #[.agg #[.int .i64 op, .int .i64 x, .int .i64 y, .int .i64 z], .string (bytesOf s)] w (Yes w) := by
  have hl : s.length ≤ 9223372036854775807 := by rw [bytesOf_size] at hs; omega
  have HI := Lib.hid hi
  have HL := Lib.hid hl
  have HP := Lib.hid hp
  have HQ := Lib.hid hq
  have HT := Lib.hid (txt_no hc)
  have HC := Lib.hid (chkE_no hc)
  clear hc
  clear hi hl hp hq
  go_enter Tryd.func5, Tryd.ntmps5
  go_wp2_with fail
  refine (lives_k hE ((Kp.refl w).alloc _ _)).mono ?_
  rintro e w1 ⟨rfl, k1⟩
  have K1 := ((Kp.refl w).alloc _ _).trans k1
  have b1 := (Box.new w op x y z).kp k1
  clear k1
  go_wp2_with fail
  refine (Parse_k hE K1 s HL.out ja jb jc jd 11 HP.out HQ.out).mono ?_
  rintro e w2 ⟨rfl, k2⟩
  have K2 := (K1.trans k2).alloc #[.int .i64 ja, .int .i64 jb, .int .i64 jc, .int .i64 jd] 27
  have bi2 := b1.kp k2
  have bi := bi2.kp ((Kp.refl w2).alloc #[.int .i64 ja, .int .i64 jb, .int .i64 jc, .int .i64 jd] 27)
  have bj := Box.new w2 ja jb jc jd
  have hB : w.heap.size < w2.heap.size := Nat.lt_of_lt_of_le b1.size k2.size
  have hB1 : w.heap.size ≤ w2.heap.size := by omega
  clear k2 b1 K1
  have HBI := Lib.hid bi
  clear bi
  obtain ⟨si, i0, i1, i2, i3, iu⟩ := bi2
  go_wp2_with fail
  refine (Text_k hE K2 op x y z HI.out [] HT.out).mono ?_
  rintro e w5 ⟨rfl, k5⟩
  have K5 := K2.trans k5
  have bi5 := HBI.out.kp k5
  have be := bytesOf_toList []
  clear bj K2 si i0 i1 i2 i3 iu
  obtain ⟨si, i0, i1, i2, i3, iu⟩ := bi5
  go_wp2_with fail
  refine (Check_k hE K5 op x y z 2 HI.out HC.out).mono ?_
  rintro e w6 ⟨rfl, k6⟩
  go_wp2
  go_ret
  exact ⟨rfl, K5.trans k6⟩

set_option maxHeartbeats 4000000 in
set_option maxRecDepth 100000 in
theorem back_none_good (op x y z : Int) (s : List UInt8) (w : World) (hE : Env w) (hi : Wf ⟨op, x, y, z⟩) (hs : ((bytesOf s).size : Int) ≤ 100) (ja jb jc jd : Int) (hp : prsI s = ⟨ja, jb, jc, jd⟩) (hq : prsE s = 11) (t : List UInt8) (hx : txt ⟨op, x, y, z⟩ = t) (hc : chk ⟨op, x, y, z⟩ = true) (jt : Int) (j o : Bool) (hjT : jmpT ⟨op, x, y, z⟩ = jt) (hjJ : jmpJ ⟨op, x, y, z⟩ = j) (hjO : jmpO ⟨op, x, y, z⟩ = o) (v : Int) (hv : effG ⟨op, x, y, z⟩ 0 = v) (hv1 : v ≤ 1) (b1 b18 : Bool) (e1 : (op == 1) = b1) (e18 : (op == 18) = b18) (hcomb : (j || o || b1 || b18) = true) :
    Calls Tryd.prog 5 #[.agg #[.int .i64 op, .int .i64 x, .int .i64 y, .int .i64 z], .string (bytesOf s)] w (Yes w) := by
  have hl : s.length ≤ 9223372036854775807 := by rw [bytesOf_size] at hs; omega
  have HI := Lib.hid hi
  have HL := Lib.hid hl
  have HP := Lib.hid hp
  have HQ := Lib.hid hq
  have HT := Lib.hid hx
  have HC := Lib.hid (chkE_yes hc)
  have hne : t ≠ [] := by rw [← hx]; exact txt_ne hc
  have be := isEmpty_no hne
  have hl2 : t.length ≤ 22 := by rw [← hx]; exact txt_len _
  have hsz : (bytesOf t).size ≤ 22 := by rw [bytesOf_size]; exact hl2
  have p1 : prs t = some ⟨op, x, y, z⟩ := by rw [← hx]; exact prs_txt hc
  have p2 : prs (t ++ [32]) = none := by rw [← hx]; exact prs_after hc
  have p3 : prs (32 :: t) = none := by rw [← hx]; exact prs_before hc
  have HP1 := Lib.hid p1
  have HP2 := Lib.hid p2
  have HP3 := Lib.hid p3
  have HL2 := Lib.hid hl2
  have HJT' := Lib.hid hjT
  have HJJ' := Lib.hid hjJ
  have HJO' := Lib.hid hjO
  have HV := Lib.hid hv
  clear hc hx hne p1 p2 p3 hl2 hjT hjJ hjO hv
  clear hi hl hp hq
  go_enter Tryd.func5, Tryd.ntmps5
  go_wp2_with fail
  refine (lives_k hE ((Kp.refl w).alloc _ _)).mono ?_
  rintro e w1 ⟨rfl, k1⟩
  have K1 := ((Kp.refl w).alloc _ _).trans k1
  have b1 := (Box.new w op x y z).kp k1
  clear k1
  go_wp2_with fail
  refine (Parse_k hE K1 s HL.out ja jb jc jd 11 HP.out HQ.out).mono ?_
  rintro e w2 ⟨rfl, k2⟩
  have K2 := (K1.trans k2).alloc #[.int .i64 ja, .int .i64 jb, .int .i64 jc, .int .i64 jd] 27
  have bi2 := b1.kp k2
  have bi := bi2.kp ((Kp.refl w2).alloc #[.int .i64 ja, .int .i64 jb, .int .i64 jc, .int .i64 jd] 27)
  have bj := Box.new w2 ja jb jc jd
  have hB : w.heap.size < w2.heap.size := Nat.lt_of_lt_of_le b1.size k2.size
  have hB1 : w.heap.size ≤ w2.heap.size := by omega
  clear k2 b1 K1
  have HBI := Lib.hid bi
  clear bi
  obtain ⟨si, i0, i1, i2, i3, iu⟩ := bi2
  go_wp2_with fail
  refine (Text_k hE K2 op x y z HI.out t HT.out).mono ?_
  rintro e w5 ⟨rfl, k5⟩
  have K5 := K2.trans k5
  have bi5 := HBI.out.kp k5
  have bj5 := bj.kp k5
  clear bj K2 si i0 i1 i2 i3 iu k5
  obtain ⟨si, i0, i1, i2, i3, iu⟩ := bi5
  go_wp2_with fail
  refine (Check_k hE K5 op x y z 0 HI.out HC.out).mono ?_
  rintro e w6 ⟨rfl, k6⟩
  have K6 := K5.trans k6
  have bi6 := (Box.mk si i0 i1 i2 i3 iu).kp k6
  have bj6 := bj5.kp k6
  clear bj5 K5 si i0 i1 i2 i3 iu k6
  go_wp2_with fail
  refine (Parse_k hE K6 t (by have := HL2.out; omega) op x y z 0 (prsI_some HP1.out) (prsE_some HP1.out)).mono ?_
  rintro e w7 ⟨rfl, k7⟩
  have K7 := K6.trans k7
  have bi7 := bi6.kp k7
  have bj7 := bj6.kp k7
  clear bj6 bi6 K6 k7
  have K8 := (((K7.setCell (p := ⟨w2.heap.size, 0, none⟩) hB1 (.int .i64 op)).setCell (p := ⟨w2.heap.size, 1, none⟩) hB1 (.int .i64 x)).setCell (p := ⟨w2.heap.size, 2, none⟩) hB1 (.int .i64 y)).setCell (p := ⟨w2.heap.size, 3, none⟩) hB1 (.int .i64 z)
  have hBne : w2.heap.size ≠ w.heap.size := by omega
  have bi8 := (((bi7.far hBne 0 (.int .i64 op)).far hBne 1 (.int .i64 x)).far hBne 2 (.int .i64 y)).far hBne 3 (.int .i64 z)
  have bj8 := (((bj7.set0 op).set1 x).set2 y).set3 z
  obtain ⟨sj, j0, j1, j2, j3, ju⟩ := bj7
  clear K7 bi7
  go_wp2_with fail
  refine (Parse_af hE K8 t HL2.out HP2.out).mono ?_
  rintro e w9 ⟨rfl, k9⟩
  have K9 := (K8.trans k9).alloc #[.int .i64 0, .int .i64 0, .int .i64 0, .int .i64 0] 27
  have ka := (Kp.refl w9).alloc #[.int .i64 0, .int .i64 0, .int .i64 0, .int .i64 0] 27
  have bi9 := (bi8.kp k9).kp ka
  have bj9 := (bj8.kp k9).kp ka
  clear K8 bi8 bj8 k9 ka sj j0 j1 j2 j3 ju
  go_wp2_with fail
  refine (Parse_be hE K9 t HL2.out HP3.out).mono ?_
  rintro e w10 ⟨rfl, k10⟩
  have K10 := (K9.trans k10).alloc #[.int .i64 0, .int .i64 0, .int .i64 0, .int .i64 0] 27
  have ka := (Kp.refl w10).alloc #[.int .i64 0, .int .i64 0, .int .i64 0, .int .i64 0] 27
  have bi10 := bi9.kp k10
  have HBI2 := Lib.hid (bi10.kp ka)
  have bj10 := (bj9.kp k10).kp ka
  clear K9 bi9 bj9 k10 ka
  obtain ⟨si, i0, i1, i2, i3, iu⟩ := bi10
  go_wp2_with fail
  refine (Effect_k hE K10 op x y z HI.out none 0 0 zeroN (.inl rfl) _ v _ rfl HV.out rfl).mono ?_
  rintro e w11 ⟨rfl, k11⟩
  have K11 := K10.trans k11
  have bi11 := HBI2.out.kp k11
  have bj11 := bj10.kp k11
  clear K10 bj10 k11 si i0 i1 i2 i3 iu
  obtain ⟨si, i0, i1, i2, i3, iu⟩ := bi11
  go_wp2_with fail
  refine (Jumps_k hE K11 op x y z HI.out jt j o HJT'.out HJJ'.out HJO'.out).mono ?_
  rintro e w12 ⟨rfl, k12⟩
  have K12 := K11.trans k12
  have bi12 := (Box.mk si i0 i1 i2 i3 iu).kp k12
  have bj12 := bj11.kp k12
  clear K11 bj11 k12 si i0 i1 i2 i3 iu
  obtain ⟨si, i0, i1, i2, i3, iu⟩ := bi12
  obtain ⟨sj, j0, j1, j2, j3, ju⟩ := bj12
  have ie : ∀ W, (binOp .eql 27 (.agg #[.int .i64 op, .int .i64 x, .int .i64 y, .int .i64 z]) (.agg #[.int .i64 op, .int .i64 x, .int .i64 y, .int .i64 z])).run Tryd.prog W = .ok (.bool true) W := fun W => ins_eq _ _ _ _ _ _ _ _ W true (by simp)
  have ig := ins_guard
  cases j <;> cases o <;> cases b1 <;> cases b18 <;> first
    | (exfalso; revert hcomb; decide)
    | (go_wp2
       go_ret
       exact ⟨rfl, K12⟩)

set_option maxHeartbeats 4000000 in
set_option maxRecDepth 100000 in
theorem back_some_bad (op x y z : Int) (s : List UInt8) (w : World) (hE : Env w) (hi : Wf ⟨op, x, y, z⟩) (hs : ((bytesOf s).size : Int) ≤ 100) (ja jb jc jd : Int) (hp : prsI s = ⟨ja, jb, jc, jd⟩) (hq : prsE s = 0) (hjw : Wf ⟨ja, jb, jc, jd⟩) (hjt : txt ⟨ja, jb, jc, jd⟩ = s) (hjc : chkE ⟨ja, jb, jc, jd⟩ = 0) (hc : chk ⟨op, x, y, z⟩ = false) :
    Calls Tryd.prog 5 #[.agg #[.int .i64 op, .int .i64 x, .int .i64 y, .int .i64 z], .string (bytesOf s)] w (Yes w) := by
  have hl : s.length ≤ 9223372036854775807 := by rw [bytesOf_size] at hs; omega
  have HI := Lib.hid hi
  have HL := Lib.hid hl
  have HP := Lib.hid hp
  have HQ := Lib.hid hq
  have HJW := Lib.hid hjw
  have HJT := Lib.hid hjt
  have HJC := Lib.hid hjc
  clear hjw hjt hjc
  have HT := Lib.hid (txt_no hc)
  have HC := Lib.hid (chkE_no hc)
  clear hc
  clear hi hl hp hq
  go_enter Tryd.func5, Tryd.ntmps5
  go_wp2_with fail
  refine (lives_k hE ((Kp.refl w).alloc _ _)).mono ?_
  rintro e w1 ⟨rfl, k1⟩
  have K1 := ((Kp.refl w).alloc _ _).trans k1
  have b1 := (Box.new w op x y z).kp k1
  clear k1
  go_wp2_with fail
  refine (Parse_k hE K1 s HL.out ja jb jc jd 0 HP.out HQ.out).mono ?_
  rintro e w2 ⟨rfl, k2⟩
  have K2 := (K1.trans k2).alloc #[.int .i64 ja, .int .i64 jb, .int .i64 jc, .int .i64 jd] 27
  have bi2 := b1.kp k2
  have bi := bi2.kp ((Kp.refl w2).alloc #[.int .i64 ja, .int .i64 jb, .int .i64 jc, .int .i64 jd] 27)
  have bj := Box.new w2 ja jb jc jd
  have hB : w.heap.size < w2.heap.size := Nat.lt_of_lt_of_le b1.size k2.size
  have hB1 : w.heap.size ≤ w2.heap.size := by omega
  clear k2 b1 K1
  go_wp2_with fail
  refine (Text_k hE K2 ja jb jc jd HJW.out s HJT.out).mono ?_
  rintro e w3 ⟨rfl, k3⟩
  have K3 := K2.trans k3
  have bi3 := bi.kp k3
  have bj3 := bj.kp k3
  have bt := bytesOf_toList s
  clear K2 bi bj
  obtain ⟨sj3, j30, j31, j32, j33, ju3⟩ := bj3
  go_wp2_with fail
  refine (Check_k hE K3 ja jb jc jd 0 HJW.out HJC.out).mono ?_
  rintro e wq ⟨rfl, k4⟩
  have K2 := K3.trans k4
  have bi := bi3.kp k4
  have bj := (Box.mk sj3 j30 j31 j32 j33 ju3).kp k4
  clear k3 k4 K3 bi3 sj3 j30 j31 j32 j33 ju3 bt bi2
  have HBI := Lib.hid bi
  obtain ⟨si, i0, i1, i2, i3, iu⟩ := bi
  go_wp2_with fail
  refine (Text_k hE K2 op x y z HI.out [] HT.out).mono ?_
  rintro e w5 ⟨rfl, k5⟩
  have K5 := K2.trans k5
  have bi5 := HBI.out.kp k5
  have be := bytesOf_toList []
  clear bj K2 si i0 i1 i2 i3 iu
  obtain ⟨si, i0, i1, i2, i3, iu⟩ := bi5
  go_wp2_with fail
  refine (Check_k hE K5 op x y z 2 HI.out HC.out).mono ?_
  rintro e w6 ⟨rfl, k6⟩
  go_wp2
  go_ret
  exact ⟨rfl, K5.trans k6⟩

set_option maxHeartbeats 4000000 in
set_option maxRecDepth 100000 in
theorem back_some_good (op x y z : Int) (s : List UInt8) (w : World) (hE : Env w) (hi : Wf ⟨op, x, y, z⟩) (hs : ((bytesOf s).size : Int) ≤ 100) (ja jb jc jd : Int) (hp : prsI s = ⟨ja, jb, jc, jd⟩) (hq : prsE s = 0) (hjw : Wf ⟨ja, jb, jc, jd⟩) (hjt : txt ⟨ja, jb, jc, jd⟩ = s) (hjc : chkE ⟨ja, jb, jc, jd⟩ = 0) (t : List UInt8) (hx : txt ⟨op, x, y, z⟩ = t) (hc : chk ⟨op, x, y, z⟩ = true) (jt : Int) (j o : Bool) (hjT : jmpT ⟨op, x, y, z⟩ = jt) (hjJ : jmpJ ⟨op, x, y, z⟩ = j) (hjO : jmpO ⟨op, x, y, z⟩ = o) (v : Int) (hv : effG ⟨op, x, y, z⟩ 0 = v) (hv1 : v ≤ 1) (b1 b18 : Bool) (e1 : (op == 1) = b1) (e18 : (op == 18) = b18) (hcomb : (j || o || b1 || b18) = true) :
    Calls Tryd.prog 5 #[.agg #[.int .i64 op, .int .i64 x, .int .i64 y, .int .i64 z], .string (bytesOf s)] w (Yes w) := by
  have hl : s.length ≤ 9223372036854775807 := by rw [bytesOf_size] at hs; omega
  have HI := Lib.hid hi
  have HL := Lib.hid hl
  have HP := Lib.hid hp
  have HQ := Lib.hid hq
  have HJW := Lib.hid hjw
  have HJT := Lib.hid hjt
  have HJC := Lib.hid hjc
  clear hjw hjt hjc
  have HT := Lib.hid hx
  have HC := Lib.hid (chkE_yes hc)
  have hne : t ≠ [] := by rw [← hx]; exact txt_ne hc
  have be := isEmpty_no hne
  have hl2 : t.length ≤ 22 := by rw [← hx]; exact txt_len _
  have hsz : (bytesOf t).size ≤ 22 := by rw [bytesOf_size]; exact hl2
  have p1 : prs t = some ⟨op, x, y, z⟩ := by rw [← hx]; exact prs_txt hc
  have p2 : prs (t ++ [32]) = none := by rw [← hx]; exact prs_after hc
  have p3 : prs (32 :: t) = none := by rw [← hx]; exact prs_before hc
  have HP1 := Lib.hid p1
  have HP2 := Lib.hid p2
  have HP3 := Lib.hid p3
  have HL2 := Lib.hid hl2
  have HJT' := Lib.hid hjT
  have HJJ' := Lib.hid hjJ
  have HJO' := Lib.hid hjO
  have HV := Lib.hid hv
  clear hc hx hne p1 p2 p3 hl2 hjT hjJ hjO hv
  clear hi hl hp hq
  go_enter Tryd.func5, Tryd.ntmps5
  go_wp2_with fail
  refine (lives_k hE ((Kp.refl w).alloc _ _)).mono ?_
  rintro e w1 ⟨rfl, k1⟩
  have K1 := ((Kp.refl w).alloc _ _).trans k1
  have b1 := (Box.new w op x y z).kp k1
  clear k1
  go_wp2_with fail
  refine (Parse_k hE K1 s HL.out ja jb jc jd 0 HP.out HQ.out).mono ?_
  rintro e w2 ⟨rfl, k2⟩
  have K2 := (K1.trans k2).alloc #[.int .i64 ja, .int .i64 jb, .int .i64 jc, .int .i64 jd] 27
  have bi2 := b1.kp k2
  have bi := bi2.kp ((Kp.refl w2).alloc #[.int .i64 ja, .int .i64 jb, .int .i64 jc, .int .i64 jd] 27)
  have bj := Box.new w2 ja jb jc jd
  have hB : w.heap.size < w2.heap.size := Nat.lt_of_lt_of_le b1.size k2.size
  have hB1 : w.heap.size ≤ w2.heap.size := by omega
  clear k2 b1 K1
  go_wp2_with fail
  refine (Text_k hE K2 ja jb jc jd HJW.out s HJT.out).mono ?_
  rintro e w3 ⟨rfl, k3⟩
  have K3 := K2.trans k3
  have bi3 := bi.kp k3
  have bj3 := bj.kp k3
  have bt := bytesOf_toList s
  clear K2 bi bj
  obtain ⟨sj3, j30, j31, j32, j33, ju3⟩ := bj3
  go_wp2_with fail
  refine (Check_k hE K3 ja jb jc jd 0 HJW.out HJC.out).mono ?_
  rintro e wq ⟨rfl, k4⟩
  have K2 := K3.trans k4
  have bi := bi3.kp k4
  have bj := (Box.mk sj3 j30 j31 j32 j33 ju3).kp k4
  clear k3 k4 K3 bi3 sj3 j30 j31 j32 j33 ju3 bt bi2
  have HBI := Lib.hid bi
  obtain ⟨si, i0, i1, i2, i3, iu⟩ := bi
  go_wp2_with fail
  refine (Text_k hE K2 op x y z HI.out t HT.out).mono ?_
  rintro e w5 ⟨rfl, k5⟩
  have K5 := K2.trans k5
  have bi5 := HBI.out.kp k5
  have bj5 := bj.kp k5
  clear bj K2 si i0 i1 i2 i3 iu k5
  obtain ⟨si, i0, i1, i2, i3, iu⟩ := bi5
  go_wp2_with fail
  refine (Check_k hE K5 op x y z 0 HI.out HC.out).mono ?_
  rintro e w6 ⟨rfl, k6⟩
  have K6 := K5.trans k6
  have bi6 := (Box.mk si i0 i1 i2 i3 iu).kp k6
  have bj6 := bj5.kp k6
  clear bj5 K5 si i0 i1 i2 i3 iu k6
  go_wp2_with fail
  refine (Parse_k hE K6 t (by have := HL2.out; omega) op x y z 0 (prsI_some HP1.out) (prsE_some HP1.out)).mono ?_
  rintro e w7 ⟨rfl, k7⟩
  have K7 := K6.trans k7
  have bi7 := bi6.kp k7
  have bj7 := bj6.kp k7
  clear bj6 bi6 K6 k7
  have K8 := (((K7.setCell (p := ⟨w2.heap.size, 0, none⟩) hB1 (.int .i64 op)).setCell (p := ⟨w2.heap.size, 1, none⟩) hB1 (.int .i64 x)).setCell (p := ⟨w2.heap.size, 2, none⟩) hB1 (.int .i64 y)).setCell (p := ⟨w2.heap.size, 3, none⟩) hB1 (.int .i64 z)
  have hBne : w2.heap.size ≠ w.heap.size := by omega
  have bi8 := (((bi7.far hBne 0 (.int .i64 op)).far hBne 1 (.int .i64 x)).far hBne 2 (.int .i64 y)).far hBne 3 (.int .i64 z)
  have bj8 := (((bj7.set0 op).set1 x).set2 y).set3 z
  obtain ⟨sj, j0, j1, j2, j3, ju⟩ := bj7
  clear K7 bi7
  go_wp2_with fail
  refine (Parse_af hE K8 t HL2.out HP2.out).mono ?_
  rintro e w9 ⟨rfl, k9⟩
  have K9 := (K8.trans k9).alloc #[.int .i64 0, .int .i64 0, .int .i64 0, .int .i64 0] 27
  have ka := (Kp.refl w9).alloc #[.int .i64 0, .int .i64 0, .int .i64 0, .int .i64 0] 27
  have bi9 := (bi8.kp k9).kp ka
  have bj9 := (bj8.kp k9).kp ka
  clear K8 bi8 bj8 k9 ka sj j0 j1 j2 j3 ju
  go_wp2_with fail
  refine (Parse_be hE K9 t HL2.out HP3.out).mono ?_
  rintro e w10 ⟨rfl, k10⟩
  have K10 := (K9.trans k10).alloc #[.int .i64 0, .int .i64 0, .int .i64 0, .int .i64 0] 27
  have ka := (Kp.refl w10).alloc #[.int .i64 0, .int .i64 0, .int .i64 0, .int .i64 0] 27
  have bi10 := bi9.kp k10
  have HBI2 := Lib.hid (bi10.kp ka)
  have bj10 := (bj9.kp k10).kp ka
  clear K9 bi9 bj9 k10 ka
  obtain ⟨si, i0, i1, i2, i3, iu⟩ := bi10
  go_wp2_with fail
  refine (Effect_k hE K10 op x y z HI.out none 0 0 zeroN (.inl rfl) _ v _ rfl HV.out rfl).mono ?_
  rintro e w11 ⟨rfl, k11⟩
  have K11 := K10.trans k11
  have bi11 := HBI2.out.kp k11
  have bj11 := bj10.kp k11
  clear K10 bj10 k11 si i0 i1 i2 i3 iu
  obtain ⟨si, i0, i1, i2, i3, iu⟩ := bi11
  go_wp2_with fail
  refine (Jumps_k hE K11 op x y z HI.out jt j o HJT'.out HJJ'.out HJO'.out).mono ?_
  rintro e w12 ⟨rfl, k12⟩
  have K12 := K11.trans k12
  have bi12 := (Box.mk si i0 i1 i2 i3 iu).kp k12
  have bj12 := bj11.kp k12
  clear K11 bj11 k12 si i0 i1 i2 i3 iu
  obtain ⟨si, i0, i1, i2, i3, iu⟩ := bi12
  obtain ⟨sj, j0, j1, j2, j3, ju⟩ := bj12
  have ie : ∀ W, (binOp .eql 27 (.agg #[.int .i64 op, .int .i64 x, .int .i64 y, .int .i64 z]) (.agg #[.int .i64 op, .int .i64 x, .int .i64 y, .int .i64 z])).run Tryd.prog W = .ok (.bool true) W := fun W => ins_eq _ _ _ _ _ _ _ _ W true (by simp)
  have ig := ins_guard
  cases j <;> cases o <;> cases b1 <;> cases b18 <;> first
    | (exfalso; revert hcomb; decide)
    | (go_wp2
       go_ret
       exact ⟨rfl, K12⟩)

theorem back_walk (i : In) (s : List UInt8) (w : World) (hE : Env w) (hi : Wf i) (hm : (bytesOf s).size ≤ 9223372036854775807) :
    Calls Tryd.prog 5 #[.agg #[.int .i64 i.op, .int .i64 i.a, .int .i64 i.b, .int .i64 i.c], .string (bytesOf s)] w (Yes w) := by
  obtain ⟨op, x, y, z⟩ := i
  by_cases hs : (100 : Int) < ((bytesOf s).size : Int)
  · exact back_long op x y z s w hE hs hm
  have hs' : ((bytesOf s).size : Int) ≤ 100 := by omega
  have gv1 : chk ⟨op, x, y, z⟩ = true → effG ⟨op, x, y, z⟩ 0 ≤ 1 := fun hc => by
    have := (goes_row (chk_parts hc).1).2.2.2
    unfold effG
    split
    · exact this.2
    · omega
  have comb : chk ⟨op, x, y, z⟩ = true → (jmpJ ⟨op, x, y, z⟩ || jmpO ⟨op, x, y, z⟩ || (op == 1) || (op == 18)) = true := fun hc => by
    obtain ⟨hj, hp, _, _⟩ := goes_row (chk_parts hc).1
    unfold jmpJ jmpO
    rw [hc, hj, hp]
    by_cases a : op = 15
    · subst a; simp
    by_cases b : op = 1
    · subst b; simp
    by_cases c : op = 18
    · subst c; simp
    simp [a, b, c]
  cases hp : prs s with
  | none =>
    cases hc : chk ⟨op, x, y, z⟩ with
    | false => exact back_none_bad op x y z s w hE hi hs' 0 0 0 0 (prsI_none hp) (prsE_none hp) hc
    | true => exact back_none_good op x y z s w hE hi hs' 0 0 0 0 (prsI_none hp) (prsE_none hp) _ rfl hc _ _ _ rfl rfl rfl _ rfl (gv1 hc) _ _ rfl rfl (comb hc)
  | some j =>
    obtain ⟨hjc, hjt⟩ := prs_sound hp
    cases hc : chk ⟨op, x, y, z⟩ with
    | false => exact back_some_bad op x y z s w hE hi hs' j.op j.a j.b j.c (prsI_some hp) (prsE_some hp) (prs_wf hp) hjt (chkE_yes hjc) hc
    | true => exact back_some_good op x y z s w hE hi hs' j.op j.a j.b j.c (prsI_some hp) (prsE_some hp) (prs_wf hp) hjt (chkE_yes hjc) _ rfl hc _ _ _ rfl rfl rfl _ rfl (gv1 hc) _ _ rfl rfl (comb hc)
end Co
end Go.Proofs.YtehmpakcfahmaaaDoor
