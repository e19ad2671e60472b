/-
  WALKS: the document's own answers of layer 5: the token at a text's head. Own work.
-/
import Derived.Test.YtlgkcjhoaecekaaDoorLxRefN
import Derived.Test.YtlgkcjhoaecekaaDoorLxSign
import Derived.Test.YtlgkcjhoaecekaaDoorLxAll
namespace Go.Proofs.YtlgkcjhoaecekaaDoor
namespace Lx
open Go.RowKit Go
set_option linter.unusedVariables false

def nmV (x : List UInt8) : Int := if [48, 120].isPrefixOf x then numV 16 isHx (x.drop 2) else numV 10 isDg x
def nmB (x : List UInt8) : Bool := if [48, 120].isPrefixOf x then numB 16 isHx (x.drop 2) else numB 10 isDg x
theorem numR_is (x : List UInt8) : numR x = if nmB x then some (nmV x) else none := by
  have key : ∀ (q : Nat) (p : UInt8 → Bool) (t : List UInt8), (if t ≠ [] ∧ t.all p = true ∧ val q t ≤ 4294967295 then some ((val q t : Nat) : Int) else none) = if numB q p t then some (numV q p t) else none := by
    intro q p t
    by_cases h : t ≠ [] ∧ t.all p = true ∧ val q t ≤ 4294967295
    · rw [if_pos h]
      have : numB q p t = true := by unfold numB; rw [decide_eq_true h.1, h.2.1, decide_eq_true h.2.2]; rfl
      rw [if_pos this]
      unfold numV
      rw [if_pos h.2]
    · rw [if_neg h, if_neg]
      intro g
      refine h ?_
      unfold numB at g
      simp only [Bool.and_eq_true, decide_eq_true_eq] at g
      exact ⟨g.1.1, g.1.2, g.2⟩
  unfold numR nmB nmV
  split
  · exact key 16 isHx _
  · exact key 10 isDg _
theorem rNumber_any (x : List UInt8) (hl : x.length ≤ 65536) (w : World) (v : Int) (b : Bool) (hv : nmV x = v) (hb : nmB x = b) :
    Calls Tryd.prog 54 #[.string (bytesOf x)] w fun e w' => e = .returned (.tuple #[.int .u32 v, .bool b]) ∧ Kp w w' := by
  unfold nmV at hv
  unfold nmB at hb
  cases hp : [48, 120].isPrefixOf x with
  | true =>
    rw [if_pos hp] at hv hb
    exact rNumber_hex x _ hl hp rfl w v b hv hb
  | false =>
    rw [if_neg (by rw [hp]; simp)] at hv hb
    exact rNumber_dec x _ hl hp rfl w v b hv hb
theorem numV_bd (q : Nat) (p : UInt8 → Bool) (t : List UInt8) : 0 ≤ numV q p t ∧ numV q p t ≤ 4294967295 := by unfold numV; split <;> omega
theorem nmV_bd (x : List UInt8) : 0 ≤ nmV x ∧ nmV x ≤ 4294967295 := by unfold nmV; split <;> exact numV_bd ..
theorem nmV_no {x : List UInt8} (h : nmB x = false) : nmB x = false := h
/-- The token at a text's head, as it is handed back. -/
def tokQ (s : List UInt8) : Int × List UInt8 × Int := match tokR s with | some (k, n, v) => (k, s.take n, v) | none => (0, [], 0)
theorem tokQ_num {s : List UInt8} (h0 : 0 < spn inW s) (hd : isDg (s.headD 0) = true) :
    tokQ s = if nmB (s.take (spn inW s)) = true ∧ upR (s.drop (spn inW s)) = false then (3, s.take (spn inW s), nmV (s.take (spn inW s))) else (0, [], 0) := by
  unfold tokQ tokR
  rw [if_pos h0, if_pos hd, numR_is]
  cases nmB (s.take (spn inW s)) with
  | false => simp
  | true => cases upR (s.drop (spn inW s)) <;> simp
theorem tokQ_word {s : List UInt8} (h0 : 0 < spn inW s) (hd : isDg (s.headD 0) = false) : tokQ s = (kindA (s.take (spn inW s)), s.take (spn inW s), 0) := by
  unfold tokQ tokR
  rw [if_pos h0, if_neg (by rw [hd]; simp)]
theorem tokQ_sign {s : List UInt8} (h0 : spn inW s = 0) : tokQ s = if sgnN s = 0 then (0, [], 0) else (4, s.take (sgnN s), 0) := by
  unfold tokQ tokR
  rw [if_neg (by omega)]
  by_cases g : sgnN s = 0
  · rw [if_pos g, if_pos g]
  · rw [if_neg g, if_neg g]
theorem sgn_take {s g : List UInt8} (h : g.isPrefixOf s = true) : s.take g.length = g := by
  obtain ⟨r, rfl⟩ := List.isPrefixOf_iff_prefix.1 h
  simp
theorem sgn_pos : ∀ k, k < 27 → (sgnL.getD k []).length ≠ 0 := by decide
theorem kindA_bd (x : List UInt8) : 0 ≤ kindA x ∧ kindA x ≤ 2 := by
  unfold kindA kindW
  split
  · split <;> decide
  · decide
/-- Where a run of word bytes ends. -/
theorem spn_end {s : List UInt8} {n : Nat} (h : spn inW s = n) : (∀ j (hj : j < s.length), j < n → inW s[j] = true) ∧ (n = s.length ∨ ∃ hn : n < s.length, inW s[n] = false) := by
  subst h
  have hle := spn_le inW s
  refine ⟨fun j hj h => ?_, ?_⟩
  · refine all_spn inW s _ ?_
    rw [List.mem_iff_getElem?]
    exact ⟨j, by rw [List.getElem?_take_of_lt h, List.getElem?_eq_getElem hj]⟩
  · rcases spn_next inW s with g | ⟨b, r, g, hb⟩
    · left
      have := congrArg List.length g
      simp at this
      omega
    · right
      have hlt : spn inW s < s.length := by
        have := congrArg List.length g
        simp at this
        omega
      refine ⟨hlt, ?_⟩
      have : s[spn inW s] = b := by
        have := congrArg (fun l => l[0]?) g
        simp only [List.getElem?_drop, Nat.add_zero, List.getElem?_cons_zero, List.getElem?_eq_getElem hlt, Option.some.injEq] at this
        exact this
      rw [this]
      exact hb
theorem up_at {s : List UInt8} {n : Nat} (h : n < s.length) : upR (s.drop n) = isUp s[n] := by
  rw [List.drop_eq_getElem_cons h]
  rfl
theorem up_end {s : List UInt8} {n : Nat} (h : n = s.length) : upR (s.drop n) = false := by
  rw [List.drop_of_length_le (by omega)]
  rfl
theorem up_i (b : UInt8) : isUp b = decide (65 ≤ (b.toNat : Int) ∧ (b.toNat : Int) ≤ 90) := by
  unfold isUp
  rw [Bool.eq_iff_iff]
  simp
  omega
theorem head_at {s : List UInt8} (h : 0 < s.length) : s.headD 0 = s[0] := by
  cases s with
  | nil => simp at h
  | cons _ _ => rfl
theorem ret_tok {a c : Int} {x y : List UInt8} {v u : Int} (h : a = c) (g : x = y) (i : v = u) : Ending.returned (.agg #[.int .i64 a, .string (bytesOf x), .int .i64 0, .int .i64 0, .int .u32 v]) = .returned (.agg #[.int .i64 c, .string (bytesOf y), .int .i64 0, .int .i64 0, .int .u32 u]) := by rw [h, g, i]
/-- A token's box, empty. -/
structure Bx5 (w : World) (B : Nat) : Prop where
  size : B < w.heap.size
  c0 : w.cell? ⟨B, 0, none⟩ = some (.int .i64 0)
  c1 : w.cell? ⟨B, 1, none⟩ = some (.string ⟨#[]⟩)
  c2 : w.cell? ⟨B, 2, none⟩ = some (.int .i64 0)
  c3 : w.cell? ⟨B, 3, none⟩ = some (.int .i64 0)
  c4 : w.cell? ⟨B, 4, none⟩ = some (.int .u32 0)
  fro : ∀ o, w.frozen? ⟨B, o, none⟩ = false
theorem Bx5.kp {w w' : World} {B : Nat} (h : Bx5 w B) (k : Kp w w') : Bx5 w' B :=
  ⟨Nat.lt_of_lt_of_le h.size k.size, (k.cells B 0 h.size).trans h.c0, (k.cells B 1 h.size).trans h.c1, (k.cells B 2 h.size).trans h.c2, (k.cells B 3 h.size).trans h.c3, (k.cells B 4 h.size).trans h.c4, fun o => (k.fros B o h.size).trans (h.fro o)⟩
theorem five_put {w : World} {B : Nat} (h : Bx5 w B) (v0 v1 v2 v3 v4 : Value) {W : World} (hW : ((((w.setCell ⟨B, 0, none⟩ v0).setCell ⟨B, 1, none⟩ v1).setCell ⟨B, 2, none⟩ v2).setCell ⟨B, 3, none⟩ v3).setCell ⟨B, 4, none⟩ v4 = W) :
    W.cell? ⟨B, 0, none⟩ = some v0 ∧ W.cell? ⟨B, 1, none⟩ = some v1 ∧ W.cell? ⟨B, 2, none⟩ = some v2 ∧ W.cell? ⟨B, 3, none⟩ = some v3 ∧ W.cell? ⟨B, 4, none⟩ = some v4 ∧ Below B w W := by
  subst hW
  refine ⟨?_, ?_, ?_, ?_, ?_, ((((below_put _ _).trans (below_put _ _)).trans (below_put _ _)).trans (below_put _ _)).trans (below_put _ _)⟩
  · exact (off_put _ (by decide)).trans ((off_put _ (by decide)).trans ((off_put _ (by decide)).trans ((off_put _ (by decide)).trans (cell_put h.c0))))
  · exact (off_put _ (by decide)).trans ((off_put _ (by decide)).trans ((off_put _ (by decide)).trans (cell_put ((off_put _ (by decide)).trans h.c1))))
  · exact (off_put _ (by decide)).trans ((off_put _ (by decide)).trans (cell_put ((off_put _ (by decide)).trans ((off_put _ (by decide)).trans h.c2))))
  · exact (off_put _ (by decide)).trans (cell_put ((off_put _ (by decide)).trans ((off_put _ (by decide)).trans ((off_put _ (by decide)).trans h.c3))))
  · exact cell_put ((off_put _ (by decide)).trans ((off_put _ (by decide)).trans ((off_put _ (by decide)).trans ((off_put _ (by decide)).trans h.c4))))
set_option maxHeartbeats 8000000 in
set_option maxRecDepth 100000 in
theorem rToken_any (s : List UInt8) (hl : s.length ≤ 65536) (w : World) (k : Int) (t : List UInt8) (v : Int) (hq : tokQ s = (k, t, v)) :
    Calls Tryd.prog 29 #[.string (bytesOf s)] w fun e w' => e = .returned (.agg #[.int .i64 k, .string (bytesOf t), .int .i64 0, .int .i64 0, .int .u32 v]) ∧ Kp w w' := by
  have hsz : (bytesOf s).size = s.length := bytesOf_size s
  have HZ := Lib.hid hsz
  have hm : ((bytesOf s).size : Int) ≤ 65536 := by rw [hsz]; omega
  have HL := Lib.hid hl
  obtain ⟨n, hn⟩ : ∃ n, spn inW s = n := ⟨_, rfl⟩
  have hnl : n ≤ (bytesOf s).size := by rw [hsz, ← hn]; exact spn_le inW s
  have HN := Lib.hid hn
  have HE := Lib.hid (spn_end hn)
  have HX : Hid ((bytesOf s).extract 0 n = bytesOf (s.take n)) := Lib.hid (by rw [ext_ab]; simp)
  have HQ := Lib.hid hq
  have HNB : Hid (((bytesOf (s.take n)).size : Int) ≤ 65536) := Lib.hid (by rw [bytesOf_size, List.length_take]; omega)
  have HTL : Hid ((s.take n).length ≤ 65536) := Lib.hid (by rw [List.length_take]; omega)
  clear hsz hq hl hn
  go_enter Tryd.func29, Tryd.ntmps29
  go_upto_region 1 with (fail)
  generalize hw1 : w.alloc _ = w1
  have A1 := alloc_new_of hw1
  obtain ⟨RB, hRB⟩ : ∃ RB, w.heap.size = RB := ⟨_, rfl⟩
  have HB1 : Hid (Bx5 w1 RB) := Lib.hid (by rw [← hRB]; exact ⟨A1.2.2.1, A1.1 0, A1.1 1, A1.1 2, A1.1 3, A1.1 4, A1.2.2.2⟩)
  have HK0 := Lib.hid A1.2.1
  have HRB := Lib.hid hRB
  rw [hRB]
  clear A1 hw1 hRB
  go_wp2_with fail
  go_loop [3] (fun i => ∃ k : Nat, k ≤ n ∧ i = .int .i64 k) (fun i => n - (intOf i).toNat)
  case atStart => exact ⟨0, Nat.zero_le _, rfl⟩
  case round =>
    obtain ⟨j, hj, rfl⟩ := hrel
    by_cases hlt : j < n
    · have hjs : j < (bytesOf s).size := by omega
      have hb := byte_at s j hjs (by rw [← HZ.out]; exact hjs)
      obtain ⟨x, hx⟩ : ∃ x, (bytesOf s)[j] = x := ⟨_, rfl⟩
      have hsx := hb.symm.trans hx
      have hin : inW x = true := by
        rw [← hsx]
        exact HE.out.1 j (by rw [← HZ.out]; exact hjs) hlt
      clear hb hsx
      obtain ⟨p1, hp1⟩ : ∃ p, stW x = p := ⟨_, rfl⟩
      have HL1 := Lib.hid (fun W => rLetter_any (bytesOf s)[j] W p1 (by rw [hx]; exact hp1))
      cases p1 with
      | true =>
        clear hin hp1 hx
        go_wp2_with fail
        refine (HL1.out _).mono ?_
        rintro e w1 ⟨rfl, rfl⟩
        go_wp2
        go_round
        case rel => exact ⟨j + 1, by omega, by go_num⟩
        case measure => simp [intOf]; omega
      | false =>
        have hp2 : isDg x = true := by
          unfold inW at hin
          rw [hp1] at hin
          exact hin
        have HL2 := Lib.hid (fun W => rDigit_any (bytesOf s)[j] W true (by rw [hx]; exact hp2))
        clear hin hp1 hp2 hx
        go_wp2_with fail
        refine (HL1.out _).mono ?_
        rintro e w1 ⟨rfl, rfl⟩
        go_wp2_with fail
        refine (HL2.out _).mono ?_
        rintro e w1 ⟨rfl, rfl⟩
        go_wp2
        go_round
        case rel => exact ⟨j + 1, by omega, by go_num⟩
        case measure => simp [intOf]; omega
    · obtain rfl : n = j := by omega
      clear hlt hj
      by_cases hend : n < (bytesOf s).size
      case pos =>
        have hb := byte_at s n hend (by rw [← HZ.out]; exact hend)
        have hno : inW (bytesOf s)[n] = false := by
          refine Eq.trans (congrArg inW hb) ?_
          rcases HE.out.2 with g | ⟨g, h⟩
          · rw [HZ.out] at hend; omega
          · exact h
        have HUP : Hid (upR (s.drop n) = decide (65 ≤ ((bytesOf s)[n].toNat : Int) ∧ ((bytesOf s)[n].toNat : Int) ≤ 90)) := Lib.hid (by
                                                                  refine (up_at (by rw [← HZ.out]; exact hend)).trans ?_
                                                                  refine (congrArg isUp hb.symm).trans ?_
                                                                  exact up_i _)
        clear hb
        have hp1 : stW (bytesOf s)[n] = false := by unfold inW at hno; simp at hno; exact hno.1
        have hp2 : isDg (bytesOf s)[n] = false := by unfold inW at hno; simp at hno; exact hno.2
        have HL1 := Lib.hid (fun W => rLetter_any (bytesOf s)[n] W false hp1)
        have HL2 := Lib.hid (fun W => rDigit_any (bytesOf s)[n] W false hp2)
        clear hno hp1 hp2
        by_cases h0 : 0 < n
        · have h0s : 0 < (bytesOf s).size := by omega
          have hb0 := byte_at s 0 h0s (by rw [← HZ.out]; exact h0s)
          obtain ⟨pd, hpd⟩ : ∃ p, isDg (bytesOf s)[0] = p := ⟨_, rfl⟩
          have hhd : isDg (s.headD 0) = pd := (congrArg isDg (head_at (by rw [← HZ.out]; exact h0s))).trans ((congrArg isDg hb0.symm).trans hpd)
          have HD := Lib.hid (fun W => rDigit_any (bytesOf s)[0] W pd hpd)
          have HHD := Lib.hid hhd
          clear hb0 hpd hhd
          cases pd with
          | true =>
            have HQN := Lib.hid (tokQ_num (s := s) (by rw [HN.out]; exact h0) HHD.out)
            obtain ⟨v1, hv1⟩ : ∃ z, nmV (s.take n) = z := ⟨_, rfl⟩
            obtain ⟨b1, hb1⟩ : ∃ z, nmB (s.take n) = z := ⟨_, rfl⟩
            have vb := nmV_bd (s.take n)
            rw [hv1] at vb
            have HNUM := Lib.hid (fun W => rNumber_any (s.take n) HTL.out W v1 b1 hv1 hb1)
            have HV1 := Lib.hid hv1
            have HNB1 := Lib.hid hb1
            clear hv1 hb1
            go_wp2_with fail
            refine (HL1.out _).mono ?_
            rintro e w1 ⟨rfl, rfl⟩
            go_wp2_with fail
            refine (HL2.out _).mono ?_
            rintro e w1 ⟨rfl, rfl⟩
            go_wp2_with fail
            refine (HD.out _).mono ?_
            rintro e w1 ⟨rfl, rfl⟩
            go_wp2_with fail
            rw [HX.out]
            refine (HNUM.out _).mono ?_
            rintro e w2 ⟨rfl, kn⟩
            have hqv : (if b1 = true ∧ upR (s.drop n) = false then (3, s.take n, v1) else (0, [], 0)) = (k, t, v) := by
              rw [← HQ.out, HQN.out, HN.out, HV1.out, HNB1.out]
            rw [HUP.out] at hqv
            cases b1 with
            | false =>
              rw [if_neg (by simp)] at hqv
              have HQV := Lib.hid hqv
              clear hqv
              have bx := HB1.out.kp kn
              have c0 := bx.c0
              have c1 := bx.c1
              have c2 := bx.c2
              have c3 := bx.c3
              have c4 := bx.c4
              have f0 := bx.fro 0
              have f1 := bx.fro 1
              have f2 := bx.fro 2
              have f3 := bx.fro 3
              have f4 := bx.fro 4
              have hbz := bx.size
              have HBX := Lib.hid bx
              clear bx
              go_wp2
              generalize hW : World.setCell _ ⟨RB, 4, none⟩ _ = W
              obtain ⟨C0, C1, C2, C3, C4, CB⟩ := five_put HBX.out _ _ _ _ _ hW
              exact bodyPost_ret (v := .agg #[.int .i64 0, .string ⟨#[]⟩, .int .i64 0, .int .i64 0, .int .u32 0]) (by simp [results, Tryd.results29, go_sem, C0, C1, C2, C3, C4]) rfl ⟨ret_tok (Prod.mk.inj HQV.out).1 (Prod.mk.inj (Prod.mk.inj HQV.out).2).1 (Prod.mk.inj (Prod.mk.inj HQV.out).2).2, ⟨(HK0.out.trans kn).below.trans (CB.mono (by have := HRB.out; omega))⟩⟩
            | true =>
              have xb := u8_lo (bytesOf s)[n]
              by_cases u1 : 65 ≤ ((bytesOf s)[n].toNat : Int)
              · by_cases u2 : ((bytesOf s)[n].toNat : Int) ≤ 90
                · rw [decide_eq_true (And.intro u1 u2), if_neg (by simp)] at hqv
                  have HQV := Lib.hid hqv
                  clear hqv
                  have bx := HB1.out.kp kn
                  have c0 := bx.c0
                  have c1 := bx.c1
                  have c2 := bx.c2
                  have c3 := bx.c3
                  have c4 := bx.c4
                  have f0 := bx.fro 0
                  have f1 := bx.fro 1
                  have f2 := bx.fro 2
                  have f3 := bx.fro 3
                  have f4 := bx.fro 4
                  have hbz := bx.size
                  have HBX := Lib.hid bx
                  clear bx
                  go_wp2
                  generalize hW : World.setCell _ ⟨RB, 4, none⟩ _ = W
                  obtain ⟨C0, C1, C2, C3, C4, CB⟩ := five_put HBX.out _ _ _ _ _ hW
                  exact bodyPost_ret (v := .agg #[.int .i64 0, .string ⟨#[]⟩, .int .i64 0, .int .i64 0, .int .u32 0]) (by simp [results, Tryd.results29, go_sem, C0, C1, C2, C3, C4]) rfl ⟨ret_tok (Prod.mk.inj HQV.out).1 (Prod.mk.inj (Prod.mk.inj HQV.out).2).1 (Prod.mk.inj (Prod.mk.inj HQV.out).2).2, ⟨(HK0.out.trans kn).below.trans (CB.mono (by have := HRB.out; omega))⟩⟩
                · rw [decide_eq_false (fun g => u2 g.2), if_pos ⟨rfl, rfl⟩] at hqv
                  have HQV := Lib.hid hqv
                  clear hqv
                  have hxe := HX.out
                  have bx := HB1.out.kp kn
                  have c0 := bx.c0
                  have c1 := bx.c1
                  have c2 := bx.c2
                  have c3 := bx.c3
                  have c4 := bx.c4
                  have f0 := bx.fro 0
                  have f1 := bx.fro 1
                  have f2 := bx.fro 2
                  have f3 := bx.fro 3
                  have f4 := bx.fro 4
                  have hbz := bx.size
                  have HBX := Lib.hid bx
                  clear bx
                  go_wp2
                  generalize hW : World.setCell _ ⟨RB, 4, none⟩ _ = W
                  obtain ⟨C0, C1, C2, C3, C4, CB⟩ := five_put HBX.out _ _ _ _ _ hW
                  exact bodyPost_ret (v := .agg #[.int .i64 3, .string (bytesOf (s.take n)), .int .i64 0, .int .i64 0, .int .u32 v1]) (by simp [results, Tryd.results29, go_sem, C0, C1, C2, C3, C4]) rfl ⟨ret_tok (Prod.mk.inj HQV.out).1 (Prod.mk.inj (Prod.mk.inj HQV.out).2).1 (Prod.mk.inj (Prod.mk.inj HQV.out).2).2, ⟨(HK0.out.trans kn).below.trans (CB.mono (by have := HRB.out; omega))⟩⟩
              · rw [decide_eq_false (fun g => u1 g.1), if_pos ⟨rfl, rfl⟩] at hqv
                have HQV := Lib.hid hqv
                clear hqv
                have hxe := HX.out
                have bx := HB1.out.kp kn
                have c0 := bx.c0
                have c1 := bx.c1
                have c2 := bx.c2
                have c3 := bx.c3
                have c4 := bx.c4
                have f0 := bx.fro 0
                have f1 := bx.fro 1
                have f2 := bx.fro 2
                have f3 := bx.fro 3
                have f4 := bx.fro 4
                have hbz := bx.size
                have HBX := Lib.hid bx
                clear bx
                go_wp2
                generalize hW : World.setCell _ ⟨RB, 4, none⟩ _ = W
                obtain ⟨C0, C1, C2, C3, C4, CB⟩ := five_put HBX.out _ _ _ _ _ hW
                exact bodyPost_ret (v := .agg #[.int .i64 3, .string (bytesOf (s.take n)), .int .i64 0, .int .i64 0, .int .u32 v1]) (by simp [results, Tryd.results29, go_sem, C0, C1, C2, C3, C4]) rfl ⟨ret_tok (Prod.mk.inj HQV.out).1 (Prod.mk.inj (Prod.mk.inj HQV.out).2).1 (Prod.mk.inj (Prod.mk.inj HQV.out).2).2, ⟨(HK0.out.trans kn).below.trans (CB.mono (by have := HRB.out; omega))⟩⟩
          | false =>
            have hqv := (tokQ_word (s := s) (by rw [HN.out]; exact h0) HHD.out).symm.trans HQ.out
            rw [HN.out] at hqv
            have HQV := Lib.hid hqv
            have HKI := Lib.hid (fun W => rKind_any (s.take n) HTL.out W _ rfl)
            have HKB := kindA_bd (s.take n)
            generalize kindA (s.take n) = ka at *
            clear hqv
            have hxe := HX.out
            go_wp2_with fail
            refine (HL1.out _).mono ?_
            rintro e w1 ⟨rfl, rfl⟩
            go_wp2_with fail
            refine (HL2.out _).mono ?_
            rintro e w1 ⟨rfl, rfl⟩
            go_wp2_with fail
            refine (HD.out _).mono ?_
            rintro e w1 ⟨rfl, rfl⟩
            go_wp2_with fail
            go_region_with (go_at_call 16; (try rw [hxe]); refine (HKI.out _).mono ?_; rintro e w2 ⟨rfl, k1⟩; have KD : Kp w1 w2 := ((Kp.refl w1).drew).trans k1; have bx := (HB1.out.kp KD); have c0 := bx.c0; have c1 := bx.c1; have c2 := bx.c2; have c3 := bx.c3; have c4 := bx.c4; have f0 := bx.fro 0; have f1 := bx.fro 1; have f2 := bx.fro 2; have f3 := bx.fro 3; have f4 := bx.fro 4; have hbz := bx.size; have HBX := Lib.hid bx; clear bx k1)
            all_goals
              go_wp2
              generalize hW : World.setCell _ ⟨RB, 4, none⟩ _ = W
              obtain ⟨C0, C1, C2, C3, C4, CB⟩ := five_put HBX.out _ _ _ _ _ hW
              exact bodyPost_ret (v := .agg #[.int .i64 ka, .string (bytesOf (s.take n)), .int .i64 0, .int .i64 0, .int .u32 0]) (by simp [results, Tryd.results29, go_sem, C0, C1, C2, C3, C4]) rfl ⟨ret_tok (Prod.mk.inj HQV.out).1 (Prod.mk.inj (Prod.mk.inj HQV.out).2).1 (Prod.mk.inj (Prod.mk.inj HQV.out).2).2, ⟨(HK0.out.trans KD).below.trans (CB.mono (by have := HRB.out; omega))⟩⟩
        · have hz0 : n = 0 := by omega
          have hqv := (tokQ_sign (s := s) (by rw [HN.out]; exact hz0)).symm.trans HQ.out
          have HQV := Lib.hid hqv
          clear hqv
          subst hz0
          rw [show ((0 : Nat) : Int) = 0 from rfl]
          go_wp2_with fail
          refine (HL1.out _).mono ?_
          rintro e w1 ⟨rfl, rfl⟩
          go_wp2_with fail
          refine (HL2.out _).mono ?_
          rintro e w1 ⟨rfl, rfl⟩
          go_wp2_with fail
          refine (rSigns_any _).mono ?_
          rintro e w1 ⟨b, rfl, S1, k1⟩
          have HS1 := Lib.hid S1
          have zb := S1.size
          have K1 := Lib.hid k1
          clear S1 k1
          go_wp2_with fail
          go_loop [7] (fun i => ∃ m : Nat, m ≤ 27 ∧ i = .int .i64 m ∧ Hid (∀ j, j < m → (sgnL.getD j []).isPrefixOf s = false)) (fun i => 27 - (intOf i).toNat)
          case atStart => exact ⟨0, Nat.zero_le _, rfl, Lib.hid (fun j h => absurd h (Nat.not_lt_zero _))⟩
          case round =>
            obtain ⟨m, hm', rfl, hno⟩ := hrel
            by_cases hm1 : m < 27
            · have cx := HS1.out.at' m hm1
              have hm2 : (m : Int) < 27 := by omega
              have HIT := Lib.hid (fun g => sgnN_hit (s := s) hm1 g hno.out)
              have HPO := Lib.hid (sgn_pos m hm1)
              obtain ⟨x, hx⟩ : ∃ x, sgnL.getD m [] = x := ⟨_, rfl⟩
              rw [hx] at cx HIT HPO
              have HXX := Lib.hid hx
              clear hx
              obtain ⟨p, hp⟩ : ∃ p, x.isPrefixOf s = p := ⟨_, rfl⟩
              have HHP := Lib.hid (fun W => hasPrefix_any s x W p hp)
              have HP := Lib.hid hp
              clear hp
              cases p with
              | true =>
                have hqv := HQV.out
                rw [HIT.out HP.out, if_neg HPO.out, sgn_take HP.out] at hqv
                have HQ2 := Lib.hid hqv
                clear hqv
                go_wp2_with fail
                refine (HHP.out _).mono ?_
                rintro e w2 ⟨rfl, rfl⟩
                have bx := (HB1.out.kp K1.out)
                have c0 := bx.c0
                have c1 := bx.c1
                have c2 := bx.c2
                have c3 := bx.c3
                have c4 := bx.c4
                have f0 := bx.fro 0
                have f1 := bx.fro 1
                have f2 := bx.fro 2
                have f3 := bx.fro 3
                have f4 := bx.fro 4
                have hbz := bx.size
                have HBX := Lib.hid bx
                clear bx
                go_wp2
                generalize hW : World.setCell _ ⟨RB, 4, none⟩ _ = W
                obtain ⟨C0, C1, C2, C3, C4, CB⟩ := five_put HBX.out _ _ _ _ _ hW
                exact bodyPost_ret (v := .agg #[.int .i64 4, .string (bytesOf x), .int .i64 0, .int .i64 0, .int .u32 0]) (by simp [results, Tryd.results29, go_sem, C0, C1, C2, C3, C4]) rfl ⟨ret_tok (Prod.mk.inj HQ2.out).1 (Prod.mk.inj (Prod.mk.inj HQ2.out).2).1 (Prod.mk.inj (Prod.mk.inj HQ2.out).2).2, ⟨(HK0.out.trans K1.out).below.trans (CB.mono (by have := HRB.out; omega))⟩⟩
              | false =>
                go_wp2_with fail
                refine (HHP.out _).mono ?_
                rintro e w2 ⟨rfl, rfl⟩
                go_wp2
                go_round
                case rel => exact ⟨m + 1, by omega, by go_num, Lib.hid (fun j h => by
                  by_cases e : j = m
                  · subst e; rw [HXX.out]; exact HP.out
                  · exact hno.out j (by omega))⟩
                case measure => simp [intOf]; omega
            · obtain rfl : m = 27 := by omega
              have hqv := HQV.out
              rw [if_pos (sgnN_no hno.out)] at hqv
              have HQ2 := Lib.hid hqv
              clear hqv
              have bx := (HB1.out.kp K1.out)
              have c0 := bx.c0
              have c1 := bx.c1
              have c2 := bx.c2
              have c3 := bx.c3
              have c4 := bx.c4
              have f0 := bx.fro 0
              have f1 := bx.fro 1
              have f2 := bx.fro 2
              have f3 := bx.fro 3
              have f4 := bx.fro 4
              have hbz := bx.size
              have HBX := Lib.hid bx
              clear bx
              go_wp2
              generalize hW : World.setCell _ ⟨RB, 4, none⟩ _ = W
              obtain ⟨C0, C1, C2, C3, C4, CB⟩ := five_put HBX.out _ _ _ _ _ hW
              exact bodyPost_ret (v := .agg #[.int .i64 0, .string ⟨#[]⟩, .int .i64 0, .int .i64 0, .int .u32 0]) (by simp [results, Tryd.results29, go_sem, C0, C1, C2, C3, C4]) rfl ⟨ret_tok (Prod.mk.inj HQ2.out).1 (Prod.mk.inj (Prod.mk.inj HQ2.out).2).1 (Prod.mk.inj (Prod.mk.inj HQ2.out).2).2, ⟨(HK0.out.trans K1.out).below.trans (CB.mono (by have := HRB.out; omega))⟩⟩
      case neg =>
        have HUP : Hid (upR (s.drop n) = false) := Lib.hid (up_end (by rw [← HZ.out]; omega))
        obtain rfl : n = (bytesOf s).size := by omega
        clear hend
        have htk : s.take (bytesOf s).size = s := List.take_of_length_le (by rw [HZ.out]; exact Nat.le_refl _)
        rw [htk] at HNB HTL
        by_cases h0 : 0 < (bytesOf s).size
        · have h0s : 0 < (bytesOf s).size := by omega
          have hb0 := byte_at s 0 h0s (by rw [← HZ.out]; exact h0s)
          obtain ⟨pd, hpd⟩ : ∃ p, isDg (bytesOf s)[0] = p := ⟨_, rfl⟩
          have hhd : isDg (s.headD 0) = pd := (congrArg isDg (head_at (by rw [← HZ.out]; exact h0s))).trans ((congrArg isDg hb0.symm).trans hpd)
          have HD := Lib.hid (fun W => rDigit_any (bytesOf s)[0] W pd hpd)
          have HHD := Lib.hid hhd
          clear hb0 hpd hhd
          cases pd with
          | true =>
            have HQN := Lib.hid (tokQ_num (s := s) (by rw [HN.out]; exact h0) HHD.out)
            obtain ⟨v1, hv1⟩ : ∃ z, nmV s = z := ⟨_, rfl⟩
            obtain ⟨b1, hb1⟩ : ∃ z, nmB s = z := ⟨_, rfl⟩
            have vb := nmV_bd s
            rw [hv1] at vb
            have HNUM := Lib.hid (fun W => rNumber_any s HTL.out W v1 b1 hv1 hb1)
            have HV1 := Lib.hid hv1
            have HNB1 := Lib.hid hb1
            clear hv1 hb1
            go_wp2_with fail
            refine (HD.out _).mono ?_
            rintro e w1 ⟨rfl, rfl⟩
            go_wp2_with fail
            refine (HNUM.out _).mono ?_
            rintro e w2 ⟨rfl, kn⟩
            have hqv : (if b1 = true ∧ upR (s.drop (bytesOf s).size) = false then (3, s, v1) else (0, [], 0)) = (k, t, v) := by
              rw [← HQ.out, HQN.out, HN.out, htk, HV1.out, HNB1.out]
            rw [HUP.out] at hqv
            cases b1 with
            | false =>
              rw [if_neg (by simp)] at hqv
              have HQV := Lib.hid hqv
              clear hqv
              have bx := HB1.out.kp kn
              have c0 := bx.c0
              have c1 := bx.c1
              have c2 := bx.c2
              have c3 := bx.c3
              have c4 := bx.c4
              have f0 := bx.fro 0
              have f1 := bx.fro 1
              have f2 := bx.fro 2
              have f3 := bx.fro 3
              have f4 := bx.fro 4
              have hbz := bx.size
              have HBX := Lib.hid bx
              clear bx
              go_wp2
              generalize hW : World.setCell _ ⟨RB, 4, none⟩ _ = W
              obtain ⟨C0, C1, C2, C3, C4, CB⟩ := five_put HBX.out _ _ _ _ _ hW
              exact bodyPost_ret (v := .agg #[.int .i64 0, .string ⟨#[]⟩, .int .i64 0, .int .i64 0, .int .u32 0]) (by simp [results, Tryd.results29, go_sem, C0, C1, C2, C3, C4]) rfl ⟨ret_tok (Prod.mk.inj HQV.out).1 (Prod.mk.inj (Prod.mk.inj HQV.out).2).1 (Prod.mk.inj (Prod.mk.inj HQV.out).2).2, ⟨(HK0.out.trans kn).below.trans (CB.mono (by have := HRB.out; omega))⟩⟩
            | true =>
              rw [if_pos ⟨rfl, rfl⟩] at hqv
              have HQV := Lib.hid hqv
              clear hqv
              have bx := HB1.out.kp kn
              have c0 := bx.c0
              have c1 := bx.c1
              have c2 := bx.c2
              have c3 := bx.c3
              have c4 := bx.c4
              have f0 := bx.fro 0
              have f1 := bx.fro 1
              have f2 := bx.fro 2
              have f3 := bx.fro 3
              have f4 := bx.fro 4
              have hbz := bx.size
              have HBX := Lib.hid bx
              clear bx
              go_wp2
              generalize hW : World.setCell _ ⟨RB, 4, none⟩ _ = W
              obtain ⟨C0, C1, C2, C3, C4, CB⟩ := five_put HBX.out _ _ _ _ _ hW
              exact bodyPost_ret (v := .agg #[.int .i64 3, .string (bytesOf s), .int .i64 0, .int .i64 0, .int .u32 v1]) (by simp [results, Tryd.results29, go_sem, C0, C1, C2, C3, C4]) rfl ⟨ret_tok (Prod.mk.inj HQV.out).1 (Prod.mk.inj (Prod.mk.inj HQV.out).2).1 (Prod.mk.inj (Prod.mk.inj HQV.out).2).2, ⟨(HK0.out.trans kn).below.trans (CB.mono (by have := HRB.out; omega))⟩⟩
          | false =>
            have hqv := (tokQ_word (s := s) (by rw [HN.out]; exact h0) HHD.out).symm.trans HQ.out
            rw [HN.out, htk] at hqv
            have HQV := Lib.hid hqv
            have HKI := Lib.hid (fun W => rKind_any s HTL.out W _ rfl)
            have HKB := kindA_bd s
            generalize kindA s = ka at *
            clear hqv
            go_wp2_with fail
            refine (HD.out _).mono ?_
            rintro e w1 ⟨rfl, rfl⟩
            go_wp2_with fail
            go_region_with (go_at_call 16; refine (HKI.out _).mono ?_; rintro e w2 ⟨rfl, k1⟩; have KD : Kp w1 w2 := ((Kp.refl w1).drew).trans k1; have bx := (HB1.out.kp KD); have c0 := bx.c0; have c1 := bx.c1; have c2 := bx.c2; have c3 := bx.c3; have c4 := bx.c4; have f0 := bx.fro 0; have f1 := bx.fro 1; have f2 := bx.fro 2; have f3 := bx.fro 3; have f4 := bx.fro 4; have hbz := bx.size; have HBX := Lib.hid bx; clear bx k1)
            all_goals
              go_wp2
              generalize hW : World.setCell _ ⟨RB, 4, none⟩ _ = W
              obtain ⟨C0, C1, C2, C3, C4, CB⟩ := five_put HBX.out _ _ _ _ _ hW
              exact bodyPost_ret (v := .agg #[.int .i64 ka, .string (bytesOf s), .int .i64 0, .int .i64 0, .int .u32 0]) (by simp [results, Tryd.results29, go_sem, C0, C1, C2, C3, C4]) rfl ⟨ret_tok (Prod.mk.inj HQV.out).1 (Prod.mk.inj (Prod.mk.inj HQV.out).2).1 (Prod.mk.inj (Prod.mk.inj HQV.out).2).2, ⟨(HK0.out.trans KD).below.trans (CB.mono (by have := HRB.out; omega))⟩⟩
        · have hz0 : (bytesOf s).size = 0 := by omega
          have hqv := (tokQ_sign (s := s) (by rw [HN.out]; exact hz0)).symm.trans HQ.out
          have HQV := Lib.hid hqv
          clear hqv
          rw [hz0]
          rw [show ((0 : Nat) : Int) = 0 from rfl]
          go_wp2_with fail
          refine (rSigns_any _).mono ?_
          rintro e w1 ⟨b, rfl, S1, k1⟩
          have HS1 := Lib.hid S1
          have zb := S1.size
          have K1 := Lib.hid k1
          clear S1 k1
          go_wp2_with fail
          go_loop [7] (fun i => ∃ m : Nat, m ≤ 27 ∧ i = .int .i64 m ∧ Hid (∀ j, j < m → (sgnL.getD j []).isPrefixOf s = false)) (fun i => 27 - (intOf i).toNat)
          case atStart => exact ⟨0, Nat.zero_le _, rfl, Lib.hid (fun j h => absurd h (Nat.not_lt_zero _))⟩
          case round =>
            obtain ⟨m, hm', rfl, hno⟩ := hrel
            by_cases hm1 : m < 27
            · have cx := HS1.out.at' m hm1
              have hm2 : (m : Int) < 27 := by omega
              have HIT := Lib.hid (fun g => sgnN_hit (s := s) hm1 g hno.out)
              have HPO := Lib.hid (sgn_pos m hm1)
              obtain ⟨x, hx⟩ : ∃ x, sgnL.getD m [] = x := ⟨_, rfl⟩
              rw [hx] at cx HIT HPO
              have HXX := Lib.hid hx
              clear hx
              obtain ⟨p, hp⟩ : ∃ p, x.isPrefixOf s = p := ⟨_, rfl⟩
              have HHP := Lib.hid (fun W => hasPrefix_any s x W p hp)
              have HP := Lib.hid hp
              clear hp
              cases p with
              | true =>
                have hqv := HQV.out
                rw [HIT.out HP.out, if_neg HPO.out, sgn_take HP.out] at hqv
                have HQ2 := Lib.hid hqv
                clear hqv
                go_wp2_with fail
                refine (HHP.out _).mono ?_
                rintro e w2 ⟨rfl, rfl⟩
                have bx := (HB1.out.kp K1.out)
                have c0 := bx.c0
                have c1 := bx.c1
                have c2 := bx.c2
                have c3 := bx.c3
                have c4 := bx.c4
                have f0 := bx.fro 0
                have f1 := bx.fro 1
                have f2 := bx.fro 2
                have f3 := bx.fro 3
                have f4 := bx.fro 4
                have hbz := bx.size
                have HBX := Lib.hid bx
                clear bx
                go_wp2
                generalize hW : World.setCell _ ⟨RB, 4, none⟩ _ = W
                obtain ⟨C0, C1, C2, C3, C4, CB⟩ := five_put HBX.out _ _ _ _ _ hW
                exact bodyPost_ret (v := .agg #[.int .i64 4, .string (bytesOf x), .int .i64 0, .int .i64 0, .int .u32 0]) (by simp [results, Tryd.results29, go_sem, C0, C1, C2, C3, C4]) rfl ⟨ret_tok (Prod.mk.inj HQ2.out).1 (Prod.mk.inj (Prod.mk.inj HQ2.out).2).1 (Prod.mk.inj (Prod.mk.inj HQ2.out).2).2, ⟨(HK0.out.trans K1.out).below.trans (CB.mono (by have := HRB.out; omega))⟩⟩
              | false =>
                go_wp2_with fail
                refine (HHP.out _).mono ?_
                rintro e w2 ⟨rfl, rfl⟩
                go_wp2
                go_round
                case rel => exact ⟨m + 1, by omega, by go_num, Lib.hid (fun j h => by
                  by_cases e : j = m
                  · subst e; rw [HXX.out]; exact HP.out
                  · exact hno.out j (by omega))⟩
                case measure => simp [intOf]; omega
            · obtain rfl : m = 27 := by omega
              have hqv := HQV.out
              rw [if_pos (sgnN_no hno.out)] at hqv
              have HQ2 := Lib.hid hqv
              clear hqv
              have bx := (HB1.out.kp K1.out)
              have c0 := bx.c0
              have c1 := bx.c1
              have c2 := bx.c2
              have c3 := bx.c3
              have c4 := bx.c4
              have f0 := bx.fro 0
              have f1 := bx.fro 1
              have f2 := bx.fro 2
              have f3 := bx.fro 3
              have f4 := bx.fro 4
              have hbz := bx.size
              have HBX := Lib.hid bx
              clear bx
              go_wp2
              generalize hW : World.setCell _ ⟨RB, 4, none⟩ _ = W
              obtain ⟨C0, C1, C2, C3, C4, CB⟩ := five_put HBX.out _ _ _ _ _ hW
              exact bodyPost_ret (v := .agg #[.int .i64 0, .string ⟨#[]⟩, .int .i64 0, .int .i64 0, .int .u32 0]) (by simp [results, Tryd.results29, go_sem, C0, C1, C2, C3, C4]) rfl ⟨ret_tok (Prod.mk.inj HQ2.out).1 (Prod.mk.inj (Prod.mk.inj HQ2.out).2).1 (Prod.mk.inj (Prod.mk.inj HQ2.out).2).2, ⟨(HK0.out.trans K1.out).below.trans (CB.mono (by have := HRB.out; omega))⟩⟩
end Lx
end Go.Proofs.YtlgkcjhoaecekaaDoor
