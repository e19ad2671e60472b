/-
  PLAIN FACTS: the tokens of a text, byte by byte as the document's own answer finds them; no program. Own work.
-/
import Derived.Test.YtlgkcjhoaecekaaDoorLxPos
namespace Go.Proofs.YtlgkcjhoaecekaaDoor
namespace Lx
set_option linter.unusedVariables false

theorem spn_two {p q : UInt8 → Bool} (h : ∀ b, p b = true → q b = true) : ∀ s : List UInt8, (spn p s = spn q s ∧ (s.take (spn q s)).all p = true) ∨ (spn p s < spn q s ∧ (s.take (spn q s)).all p = false ∧ ∃ b r, s.drop (spn p s) = b :: r ∧ q b = true)
  | [] => .inl ⟨rfl, rfl⟩
  | b :: s => by
    cases hp : p b with
    | true =>
      have hq := h b hp
      rw [spn_cons_t hp, spn_cons_t hq, List.take_succ_cons, List.drop_succ_cons, List.all_cons, hp]
      rcases spn_two h s with ⟨e, g⟩ | ⟨e, g, r⟩
      · exact .inl ⟨by omega, by rw [g]; rfl⟩
      · exact .inr ⟨by omega, by rw [g]; rfl, r⟩
    | false =>
      rw [spn_cons_f hp]
      cases hq : q b with
      | true => rw [spn_cons_t hq, List.take_succ_cons, List.all_cons, hp]; exact .inr ⟨by omega, rfl, b, s, rfl, hq⟩
      | false => rw [spn_cons_f hq]; exact .inl ⟨rfl, rfl⟩
theorem spn_next (q : UInt8 → Bool) : ∀ s : List UInt8, s.drop (spn q s) = [] ∨ ∃ b r, s.drop (spn q s) = b :: r ∧ q b = false
  | [] => .inl rfl
  | b :: s => by
    cases hq : q b with
    | true => rw [spn_cons_t hq, List.drop_succ_cons]; exact spn_next q s
    | false => rw [spn_cons_f hq]; exact .inr ⟨b, s, rfl, hq⟩
def isUp (b : UInt8) : Bool := decide (65 ≤ b.toNat) && decide (b.toNat ≤ 90)
def upR (s : List UInt8) : Bool := match s with | b :: _ => isUp b | [] => false
theorem stick_is (b : UInt8) : stick b = (inW b || isUp b) := rfl
theorem dg_in (b : UInt8) (h : isDg b = true) : inW b = true := by unfold inW; rw [h]; simp
theorem hx_in (b : UInt8) (h : isHx b = true) : inW b = true := by
  unfold isHx at h
  unfold inW stW
  cases hd : isDg b with
  | true => simp
  | false =>
    rw [hd] at h
    simp only [Bool.false_or, Bool.and_eq_true, decide_eq_true_eq, Bool.or_false, Bool.or_eq_true] at h ⊢
    left
    omega
/-- A number at the head: all bytes of the word there are digits, and no great letter follows. -/
theorem numT_word {pre q : Nat} {p : UInt8 → Bool} (h : ∀ b, p b = true → inW b = true) (s : List UInt8) :
    numT pre p q s = if (s.drop pre).take (spn inW (s.drop pre)) ≠ [] ∧ ((s.drop pre).take (spn inW (s.drop pre))).all p = true ∧ val q ((s.drop pre).take (spn inW (s.drop pre))) ≤ 4294967295 ∧ upR (s.drop (pre + spn inW (s.drop pre))) = false
      then some (pre + spn inW (s.drop pre), ((val q ((s.drop pre).take (spn inW (s.drop pre))) : Nat) : Int)) else none := by
  unfold numT
  obtain ⟨r, hr⟩ : ∃ r, s.drop pre = r := ⟨_, rfl⟩
  have hdd : ∀ n, s.drop (pre + n) = r.drop n := fun n => by rw [← List.drop_drop, hr]
  rw [hr]
  simp only [hdd]
  have hne : r.take (spn inW r) = [] ↔ spn inW r = 0 := by
    have := spn_le inW r
    constructor
    · intro e
      have := congrArg List.length e
      rw [List.length_take, List.length_nil] at this
      omega
    · intro e; rw [e]; rfl
  rcases spn_two h r with ⟨e, g⟩ | ⟨e, g, b, x, hx, hb⟩
  · rw [e]
    by_cases z : spn inW r = 0
    · rw [if_pos z, if_neg (fun hh => hh.1 (hne.2 z))]
    · rw [if_neg z]
      by_cases y : 4294967295 < val q (r.take (spn inW r))
      · rw [if_pos y, if_neg (fun hh => by omega)]
      · rw [if_neg y]
        rcases spn_next inW r with k | ⟨b, x, k, kb⟩
        · rw [k, show upR [] = false from rfl]
          rw [if_pos ⟨fun hh => z (hne.1 hh), g, by omega, rfl⟩]
        · rw [k, show upR (b :: x) = isUp b from rfl]
          simp only [stick_is, kb, Bool.false_or]
          by_cases hu : isUp b = true
          · rw [if_pos hu, if_neg (fun hh => by rw [hu] at hh; simp at hh)]
          · rw [if_neg hu, if_pos ⟨fun hh => z (hne.1 hh), g, by omega, by simpa using hu⟩]
  · rw [if_neg (c := _ ∧ _) (fun hh => by rw [g] at hh; simp at hh)]
    split
    · rfl
    · split
      · rfl
      · rw [hx]
        simp only [stick_is, hb, Bool.true_or, if_true]
/-- A number's text as a whole. -/
def numR (w : List UInt8) : Option Int :=
  if [48, 120].isPrefixOf w then (if w.drop 2 ≠ [] ∧ (w.drop 2).all isHx = true ∧ val 16 (w.drop 2) ≤ 4294967295 then some ((val 16 (w.drop 2) : Nat) : Int) else none)
  else (if w ≠ [] ∧ w.all isDg = true ∧ val 10 w ≤ 4294967295 then some ((val 10 w : Nat) : Int) else none)
/-- The token at a text's head: kind, length, number. -/
def tokR (s : List UInt8) : Option (Int × Nat × Int) :=
  if 0 < spn inW s then
    (if isDg (s.headD 0) then (match numR (s.take (spn inW s)) with | some v => if upR (s.drop (spn inW s)) then none else some (3, spn inW s, v) | none => none)
     else some (kindA (s.take (spn inW s)), spn inW s, 0))
  else if sgnN s = 0 then none else some (4, sgnN s, 0)
theorem tokR_is {s : List UInt8} (h : IsTok (hdOf s)) : tokH (hdOf s) s = tokR s := by
  rcases h with h | h | h | h
  · obtain ⟨b, q, rfl, hb⟩ := wd_head h
    have hi : inW b = true := by unfold inW; rw [hb]; rfl
    have hn := spn_cons_t (s := q) hi
    have hd : isDg b = false := by
      cases e : isDg b with
      | false => rfl
      | true =>
        exfalso
        unfold isDg at e
        unfold stW at hb
        simp only [Bool.and_eq_true, decide_eq_true_eq, Bool.or_eq_true, beq_iff_eq] at e hb
        rcases hb with hb | rfl
        · omega
        · revert e; decide
    rw [h]
    unfold tokR
    rw [if_pos (by omega), show (b :: q).headD 0 = b from rfl, hd, if_neg (by simp)]
    have hk : kindA ((b :: q).take (spn inW (b :: q))) = kindW ((b :: q).take (spn inW (b :: q))) := by
      unfold kindA
      have : isWd ((b :: q).take (spn inW (b :: q))) = true := by
        have ha := all_spn inW (b :: q)
        rw [hn, List.take_succ_cons] at ha ⊢
        unfold isWd
        simp only [hb, Bool.true_and]
        rw [List.all_eq_true]
        exact ha
      rw [this, if_pos rfl]
    rw [hk]
    rfl
  · have hl := hx_len h
    cases s with
    | nil => simp at hl
    | cons b s1 => cases s1 with
      | nil => simp at hl
      | cons c r =>
        have hp := (hd_hx.1 h).2.2.2.2
        obtain ⟨rfl, rfl⟩ : b = 48 ∧ c = 120 := by
          simp only [List.isPrefixOf, Bool.and_true, Bool.and_eq_true, beq_iff_eq] at hp
          exact ⟨hp.1.symm, hp.2.symm⟩
        have h1 : spn inW (48 :: 120 :: r) = spn inW r + 1 + 1 := by rw [spn_cons_t (by decide), spn_cons_t (by decide)]
        rw [h]
        show (numT 2 isHx 16 (48 :: 120 :: r)).map _ = _
        rw [numT_word hx_in]
        have hT : tokR (48 :: 120 :: r) = (match numR ((48 :: 120 :: r).take (spn inW (48 :: 120 :: r))) with | some v => if upR ((48 :: 120 :: r).drop (spn inW (48 :: 120 :: r))) then none else some (3, spn inW (48 :: 120 :: r), v) | none => none) := by
          unfold tokR
          rw [if_pos (show 0 < spn inW (48 :: 120 :: r) by omega), if_pos (show isDg ((48 :: 120 :: r).headD 0) = true from rfl)]
        have hN : ∀ x : List UInt8, numR (48 :: 120 :: x) = if x ≠ [] ∧ x.all isHx = true ∧ val 16 x ≤ 4294967295 then some ((val 16 x : Nat) : Int) else none := fun x => by
          unfold numR
          rw [if_pos (show [48, 120].isPrefixOf (48 :: 120 :: x) = true by simp [List.isPrefixOf])]
          rfl
        rw [hT, h1]
        simp only [List.drop_succ_cons, List.drop_zero, List.take_succ_cons]
        rw [hN]
        rw [show 2 + spn inW r = spn inW r + 1 + 1 by omega]
        simp only [List.drop_succ_cons]
        generalize hT : List.take (spn inW r) r = T
        generalize hU : upR (List.drop (spn inW r) r) = U
        by_cases g : T ≠ [] ∧ T.all isHx = true ∧ val 16 T ≤ 4294967295
        · rw [if_pos g]
          cases U with
          | true => rw [if_neg (fun hh => by simp at hh)]; rfl
          | false => rw [if_pos ⟨g.1, g.2.1, g.2.2, rfl⟩]; rfl
        · rw [if_neg g, if_neg (fun hh => g ⟨hh.1, hh.2.1, hh.2.2.1⟩)]
          rfl
  · cases s with
    | nil => cases h
    | cons b r =>
      have hh := hd_dg.1 h
      have hd : isDg b = true := hh.2.2.2.2.2
      have hi := dg_in b hd
      have hn := spn_cons_t (s := r) hi
      rw [h]
      show (numT 0 isDg 10 (b :: r)).map _ = _
      rw [numT_word dg_in]
      have hT : tokR (b :: r) = (match numR ((b :: r).take (spn inW (b :: r))) with | some v => if upR ((b :: r).drop (spn inW (b :: r))) then none else some (3, spn inW (b :: r), v) | none => none) := by
        unfold tokR
        rw [if_pos (show 0 < spn inW (b :: r) by omega), if_pos (show isDg ((b :: r).headD 0) = true from hd)]
      have hN : numR ((b :: r).take (spn inW (b :: r))) = if (b :: r).take (spn inW (b :: r)) ≠ [] ∧ ((b :: r).take (spn inW (b :: r))).all isDg = true ∧ val 10 ((b :: r).take (spn inW (b :: r))) ≤ 4294967295 then some ((val 10 ((b :: r).take (spn inW (b :: r))) : Nat) : Int) else none := by
        unfold numR
        rw [if_neg (by rw [pre_take_f hh.2.2.2.2.1]; simp)]
      rw [hT, hN]
      simp only [List.drop_zero, Nat.zero_add]
      generalize hT : List.take (spn inW (b :: r)) (b :: r) = T
      generalize hU : upR (List.drop (spn inW (b :: r)) (b :: r)) = U
      by_cases g : T ≠ [] ∧ T.all isDg = true ∧ val 10 T ≤ 4294967295
      · rw [if_pos g]
        cases U with
        | true => rw [if_neg (by simp)]; rfl
        | false => rw [if_pos ⟨g.1, g.2.1, g.2.2, rfl⟩]; rfl
      · rw [if_neg g, if_neg (fun hh => g ⟨hh.1, hh.2.1, hh.2.2.1⟩)]
        rfl
  · cases s with
    | nil => cases h
    | cons b r =>
      have hi : inW b = false := by
        rw [hd_cons] at h
        repeat' split at h
        all_goals first | (cases h; done) | skip
        rename_i g1 g2 g3 g4 g5 g6
        unfold inW
        simp only [Bool.not_eq_true] at g4 g6
        rw [g4, g6]
        rfl
      rw [h]
      unfold tokR
      rw [spn_cons_f hi, if_neg (by omega)]
      rfl
/-! ### one byte at a time -/
theorem Lex_run {s : List UInt8} (l c : Int) : Lex s l c = Lex (s.drop (spn isBl s)) l (c + spn isBl s) := by
  cases s with
  | nil => simp [spn_nil]
  | cons b r =>
    cases hb : isBl b with
    | false => rw [spn_cons_f hb]; simp
    | true =>
      refine Lex_bl ?_
      rw [hd_cons, if_neg (fun e => by subst e; revert hb; decide), if_pos hb]
theorem Lex_bl1 {b : UInt8} {r : List UInt8} (h : isBl b = true) (l c : Int) : Lex (b :: r) l c = Lex r l (c + 1) := by
  rw [Lex_run (s := b :: r), Lex_run (s := r), spn_cons_t h, List.drop_succ_cons]
  congr 1
  push_cast
  omega
end Lx
end Go.Proofs.YtlgkcjhoaecekaaDoor
