/-
  WALKS: package lex, keywords, words, signs. Own work.
-/
import Derived.Test.YtlgkcjhoaecekaaDoorLxToken
import Derived.Deep.MidRow
namespace Go.Proofs.YtlgkcjhoaecekaaDoor
namespace Lx
open Go.RowKit Go
set_option linter.unusedVariables false

/-- What the package's variables hold. -/
structure Env (w : World) : Prop where
  sg : ∀ i, i < 27 → w.cell? ⟨1, i, none⟩ = some (.string (bytesOf (sgnL.getD i [])))
  es : ∃ te pe, w.cell? ⟨2, 0, none⟩ = some (.iface te pe)
  er : ∃ te pe, w.cell? ⟨3, 0, none⟩ = some (.iface te pe)
theorem Env.kp {w w' : World} (h : Env w) (k : Kp w w') : Env w' := by
  obtain ⟨te, pe, he⟩ := h.es
  obtain ⟨tr, pr, hr⟩ := h.er
  exact ⟨fun i hi => (k.cells _ _ (block_of_cell (h.sg i hi))).trans (h.sg i hi), ⟨te, pe, (k.cells _ _ (block_of_cell he)).trans he⟩, ⟨tr, pr, (k.cells _ _ (block_of_cell hr)).trans hr⟩⟩
/-- A list of texts as a set. -/
def kset (l : List (List UInt8)) : List UInt8 → Bool := fun s => l.contains s
theorem mapK_put (w : World) {ops : Array Oper} {rest : List Oper} {o : Oper} {a : Act} {Q : Exit → Act → World → Prop}
    (hg : o.guard = none) (m x v : Operand) (hop : o.op = Op.insert 44 m x v) (M n : Nat) (l l' : List (List UInt8)) (hm : a.eval m = .map (some M)) (h : MapU w M n (kset l)) (hn : n < maxLen) (y : List UInt8) (hl : l ++ [y] = l') (hx : a.eval x = .string (bytesOf y)) (hy : y.length ≤ maxLen) (hv : a.eval v = .agg #[])
    (hK : ∀ w', MapU w' M (n + 1) (kset l') → w.grownBy w' (some M) → wpList Tryd.prog ops Q rest (a.put o.dst undef) w') :
    wpList Tryd.prog ops Q (o :: rest) a w :=
  mapU_put w hg m x v hop M n l hm h hn y hx hy hv (fun w' h1 h2 => hK w' (by rw [hl] at h1; exact h1) h2)
set_option maxHeartbeats 4000000 in
set_option maxRecDepth 100000 in
theorem keywords_any (w : World) :
    Calls Tryd.prog 20 #[] w fun e w' => e = .returned (.map (some w.heap.size)) ∧ MapU w' w.heap.size 21 (fun s => keyL.contains s) ∧ Kp w w' := by
  have hmm := @run_makeMap Tryd.prog
  have h0' := MapU.new w
  have h0 : MapU (w.alloc (.map #[] 0)) w.heap.size 0 (kset (keyL.take 0)) := h0'
  have k0 := kp_map w
  clear h0'
  go_enter Tryd.func20, Tryd.ntmps20
  go_wp2_with (refine mapK_put _ rfl _ _ _ rfl w.heap.size 0 (keyL.take 0) (keyL.take 1) rfl h0 (by decide) [115, 116, 97, 99, 107] (by rfl) rfl (by decide) rfl ?_)
  intro w1 h1 g1
  have k1 : Kp w w1 := kp_grown k0 g1 (fun q hq => by cases hq; exact Nat.le_refl _)
  clear g1 k0 h0
  go_wp2_with (refine mapK_put _ rfl _ _ _ rfl w.heap.size 1 (keyL.take 1) (keyL.take 2) rfl h1 (by decide) [112, 111, 114, 116] (by rfl) rfl (by decide) rfl ?_)
  intro w2 h2 g2
  have k2 : Kp w w2 := kp_grown k1 g2 (fun q hq => by cases hq; exact Nat.le_refl _)
  clear g2 k1 h1
  go_wp2_with (refine mapK_put _ rfl _ _ _ rfl w.heap.size 2 (keyL.take 2) (keyL.take 3) rfl h2 (by decide) [114, 101, 97, 100] (by rfl) rfl (by decide) rfl ?_)
  intro w3 h3 g3
  have k3 : Kp w w3 := kp_grown k2 g3 (fun q hq => by cases hq; exact Nat.le_refl _)
  clear g3 k2 h2
  go_wp2_with (refine mapK_put _ rfl _ _ _ rfl w.heap.size 3 (keyL.take 3) (keyL.take 4) rfl h3 (by decide) [119, 114, 105, 116, 101] (by rfl) rfl (by decide) rfl ?_)
  intro w4 h4 g4
  have k4 : Kp w w4 := kp_grown k3 g4 (fun q hq => by cases hq; exact Nat.le_refl _)
  clear g4 k3 h3
  go_wp2_with (refine mapK_put _ rfl _ _ _ rfl w.heap.size 4 (keyL.take 4) (keyL.take 5) rfl h4 (by decide) [98, 111, 116, 104] (by rfl) rfl (by decide) rfl ?_)
  intro w5 h5 g5
  have k5 : Kp w w5 := kp_grown k4 g5 (fun q hq => by cases hq; exact Nat.le_refl _)
  clear g5 k4 h4
  go_wp2_with (refine mapK_put _ rfl _ _ _ rfl w.heap.size 5 (keyL.take 5) (keyL.take 6) rfl h5 (by decide) [102, 117, 110, 99] (by rfl) rfl (by decide) rfl ?_)
  intro w6 h6 g6
  have k6 : Kp w w6 := kp_grown k5 g6 (fun q hq => by cases hq; exact Nat.le_refl _)
  clear g6 k5 h5
  go_wp2_with (refine mapK_put _ rfl _ _ _ rfl w.heap.size 6 (keyL.take 6) (keyL.take 7) rfl h6 (by decide) [109, 97, 105, 110] (by rfl) rfl (by decide) rfl ?_)
  intro w7 h7 g7
  have k7 : Kp w w7 := kp_grown k6 g7 (fun q hq => by cases hq; exact Nat.le_refl _)
  clear g7 k6 h6
  go_wp2_with (refine mapK_put _ rfl _ _ _ rfl w.heap.size 7 (keyL.take 7) (keyL.take 8) rfl h7 (by decide) [111, 110] (by rfl) rfl (by decide) rfl ?_)
  intro w8 h8 g8
  have k8 : Kp w w8 := kp_grown k7 g8 (fun q hq => by cases hq; exact Nat.le_refl _)
  clear g8 k7 h7
  go_wp2_with (refine mapK_put _ rfl _ _ _ rfl w.heap.size 8 (keyL.take 8) (keyL.take 9) rfl h8 (by decide) [112, 114, 105, 111] (by rfl) rfl (by decide) rfl ?_)
  intro w9 h9 g9
  have k9 : Kp w w9 := kp_grown k8 g9 (fun q hq => by cases hq; exact Nat.le_refl _)
  clear g9 k8 h8
  go_wp2_with (refine mapK_put _ rfl _ _ _ rfl w.heap.size 9 (keyL.take 9) (keyL.take 10) rfl h9 (by decide) [105, 102] (by rfl) rfl (by decide) rfl ?_)
  intro w10 h10 g10
  have k10 : Kp w w10 := kp_grown k9 g10 (fun q hq => by cases hq; exact Nat.le_refl _)
  clear g10 k9 h9
  go_wp2_with (refine mapK_put _ rfl _ _ _ rfl w.heap.size 10 (keyL.take 10) (keyL.take 11) rfl h10 (by decide) [101, 108, 115, 101] (by rfl) rfl (by decide) rfl ?_)
  intro w11 h11 g11
  have k11 : Kp w w11 := kp_grown k10 g11 (fun q hq => by cases hq; exact Nat.le_refl _)
  clear g11 k10 h10
  go_wp2_with (refine mapK_put _ rfl _ _ _ rfl w.heap.size 11 (keyL.take 11) (keyL.take 12) rfl h11 (by decide) [119, 104, 105, 108, 101] (by rfl) rfl (by decide) rfl ?_)
  intro w12 h12 g12
  have k12 : Kp w w12 := kp_grown k11 g12 (fun q hq => by cases hq; exact Nat.le_refl _)
  clear g12 k11 h11
  go_wp2_with (refine mapK_put _ rfl _ _ _ rfl w.heap.size 12 (keyL.take 12) (keyL.take 13) rfl h12 (by decide) [114, 101, 116, 117, 114, 110] (by rfl) rfl (by decide) rfl ?_)
  intro w13 h13 g13
  have k13 : Kp w w13 := kp_grown k12 g13 (fun q hq => by cases hq; exact Nat.le_refl _)
  clear g13 k12 h12
  go_wp2_with (refine mapK_put _ rfl _ _ _ rfl w.heap.size 13 (keyL.take 13) (keyL.take 14) rfl h13 (by decide) [101, 110, 97, 98, 108, 101] (by rfl) rfl (by decide) rfl ?_)
  intro w14 h14 g14
  have k14 : Kp w w14 := kp_grown k13 g14 (fun q hq => by cases hq; exact Nat.le_refl _)
  clear g14 k13 h13
  go_wp2_with (refine mapK_put _ rfl _ _ _ rfl w.heap.size 14 (keyL.take 14) (keyL.take 15) rfl h14 (by decide) [100, 105, 115, 97, 98, 108, 101] (by rfl) rfl (by decide) rfl ?_)
  intro w15 h15 g15
  have k15 : Kp w w15 := kp_grown k14 g15 (fun q hq => by cases hq; exact Nat.le_refl _)
  clear g15 k14 h14
  go_wp2_with (refine mapK_put _ rfl _ _ _ rfl w.heap.size 15 (keyL.take 15) (keyL.take 16) rfl h15 (by decide) [108, 101, 118, 101, 108] (by rfl) rfl (by decide) rfl ?_)
  intro w16 h16 g16
  have k16 : Kp w w16 := kp_grown k15 g16 (fun q hq => by cases hq; exact Nat.le_refl _)
  clear g16 k15 h15
  go_wp2_with (refine mapK_put _ rfl _ _ _ rfl w.heap.size 16 (keyL.take 16) (keyL.take 17) rfl h16 (by decide) [97, 116, 111, 109, 105, 99] (by rfl) rfl (by decide) rfl ?_)
  intro w17 h17 g17
  have k17 : Kp w w17 := kp_grown k16 g17 (fun q hq => by cases hq; exact Nat.le_refl _)
  clear g17 k16 h16
  go_wp2_with (refine mapK_put _ rfl _ _ _ rfl w.heap.size 17 (keyL.take 17) (keyL.take 18) rfl h17 (by decide) [117, 56] (by rfl) rfl (by decide) rfl ?_)
  intro w18 h18 g18
  have k18 : Kp w w18 := kp_grown k17 g18 (fun q hq => by cases hq; exact Nat.le_refl _)
  clear g18 k17 h17
  go_wp2_with (refine mapK_put _ rfl _ _ _ rfl w.heap.size 18 (keyL.take 18) (keyL.take 19) rfl h18 (by decide) [117, 49, 54] (by rfl) rfl (by decide) rfl ?_)
  intro w19 h19 g19
  have k19 : Kp w w19 := kp_grown k18 g19 (fun q hq => by cases hq; exact Nat.le_refl _)
  clear g19 k18 h18
  go_wp2_with (refine mapK_put _ rfl _ _ _ rfl w.heap.size 19 (keyL.take 19) (keyL.take 20) rfl h19 (by decide) [117, 51, 50] (by rfl) rfl (by decide) rfl ?_)
  intro w20 h20 g20
  have k20 : Kp w w20 := kp_grown k19 g20 (fun q hq => by cases hq; exact Nat.le_refl _)
  clear g20 k19 h19
  go_wp2_with (refine mapK_put _ rfl _ _ _ rfl w.heap.size 20 (keyL.take 20) (keyL.take 21) rfl h20 (by decide) [105, 51, 50] (by rfl) rfl (by decide) rfl ?_)
  intro w21 h21 g21
  have k21 : Kp w w21 := kp_grown k20 g21 (fun q hq => by cases hq; exact Nat.le_refl _)
  clear g21 k20 h20
  go_wp2
  go_ret
  exact ⟨rfl, h21, k21⟩
theorem kindOf_any {w : World} {M : Nat} (hM : MapU w M 21 (fun s => keyL.contains s)) (s : List UInt8) (hl : s.length ≤ 65536) (k : Int) (hk : kindW s = k) :
    Calls Tryd.prog 26 #[.string (bytesOf s), .map (some M)] w fun e w' => e = .returned (.int .i64 k) ∧ Kp w w' := by
  unfold kindW at hk
  cases hb : keyL.contains s
  all_goals
    rw [hb] at hk
    have HK := Lib.hid hk
    have HB := Lib.hid hb
    clear hk hb
    go_enter Tryd.func26, Tryd.ntmps26
    go_wp2_with (at_lookup; refine mapU_look _ rfl _ _ rfl M 21 _ rfl hM s rfl (by unfold maxLen; omega) _ HB.out ?_)
    go_wp2
    go_ret
    exact ⟨ret_int (by rw [← HK.out]; rfl), (Kp.refl w).alloc _ _⟩
theorem hasPrefix_any (s g : List UInt8) (w : World) (b : Bool) (hb : g.isPrefixOf s = b) :
    Calls Tryd.prog 28 #[.string (bytesOf s), .string (bytesOf g)] w fun e w' => e = .returned (.bool b) ∧ w' = w := by
  have := Tryd.strings_HasPrefix (bytesOf s) (bytesOf g) w
  rw [show Lib.hasPrefix (bytesOf s).data.toList (bytesOf g).data.toList = b from hb] at this
  exact this
end Lx
end Go.Proofs.YtlgkcjhoaecekaaDoor
