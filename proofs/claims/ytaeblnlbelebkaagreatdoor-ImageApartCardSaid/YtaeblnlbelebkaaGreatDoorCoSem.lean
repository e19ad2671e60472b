/-
  PLAIN FACTS: instructions, their rows and texts, as functions on lists of bytes; no program. Own work.
-/
import Derived.WalkKit
import Derived.Lib.Hide
import Derived.Lib.ItoaNum
import Derived.Lib.ParseIntB
import Derived.Shelf.Strings.FieldsAny
namespace Go.Proofs.YtaeblnlbelebkaaGreatDoor
namespace Co
open Go.RowKit Go
set_option linter.unusedVariables false

def bytesOf (l : List UInt8) : ByteArray := ⟨l.toArray⟩
theorem bytesOf_size (l : List UInt8) : (bytesOf l).size = l.length := by simp [bytesOf, ByteArray.size]
theorem bytesOf_list (l : List UInt8) : (bytesOf l).data.toList = l := rfl
theorem bytesOf_toList (l : List UInt8) : (bytesOf l).toList = l := by rw [ByteArray.toList_eq]; rfl
theorem bytesOf_append (a b : List UInt8) : bytesOf a ++ bytesOf b = bytesOf (a ++ b) := by
  unfold bytesOf
  rw [ByteArray.mk_append_mk]
theorem bytesOf_inj {a b : List UInt8} (h : bytesOf a = bytesOf b) : a = b := by
  have := congrArg (fun x => x.data.toList) h
  simpa [bytesOf] using this
theorem bytesOf_mk (s : ByteArray) : bytesOf s.data.toList = s := Lib.mk_data s

/-- What an Op has. -/
structure Rw where
  name : List UInt8
  a : Int
  b : Int
  c : Int
  tk : Int
  gv : Int
  jm : Bool
  sp : Bool
def r0 : Rw := ⟨[], 0, 0, 0, 0, 0, false, false⟩
def tab : List Rw := [r0,
  ⟨[104, 97, 108, 116], 0, 0, 0, 0, 0, false, true⟩,
  ⟨[112, 117, 115, 104], 3, 0, 0, 0, 1, false, false⟩,
  ⟨[112, 111, 112], 0, 0, 0, 1, 0, false, false⟩,
  ⟨[108, 100], 1, 0, 0, 0, 1, false, false⟩,
  ⟨[115, 116], 1, 4, 0, 1, 0, false, false⟩,
  ⟨[108, 100, 120], 1, 2, 0, 1, 1, false, false⟩,
  ⟨[115, 116, 120], 1, 2, 4, 2, 0, false, false⟩,
  ⟨[108, 100, 108], 1, 0, 0, 0, 1, false, false⟩,
  ⟨[115, 116, 108], 1, 4, 0, 1, 0, false, false⟩,
  ⟨[105, 110], 1, 0, 0, 0, 1, false, false⟩,
  ⟨[111, 117, 116], 1, 0, 0, 1, 0, false, false⟩,
  ⟨[98, 105, 110], 5, 0, 0, 2, 1, false, false⟩,
  ⟨[117, 110], 6, 0, 0, 1, 1, false, false⟩,
  ⟨[99, 117, 116], 4, 0, 0, 1, 1, false, false⟩,
  ⟨[106, 109, 112], 1, 0, 0, 0, 0, true, true⟩,
  ⟨[106, 122], 1, 0, 0, 1, 0, true, false⟩,
  ⟨[99, 97, 108, 108], 1, 0, 0, 0, 1, false, false⟩,
  ⟨[114, 101, 116], 0, 0, 0, 1, 0, false, true⟩,
  ⟨[101, 110], 7, 0, 0, 0, 0, false, false⟩,
  ⟨[100, 105, 115], 7, 0, 0, 0, 0, false, false⟩,
  ⟨[108, 118, 108], 8, 0, 0, 0, 0, false, false⟩,
  ⟨[112, 116], 0, 0, 0, 0, 0, false, false⟩,
  ⟨[98, 101, 103], 1, 0, 0, 0, 0, false, false⟩,
  ⟨[101, 110, 100], 1, 0, 0, 0, 0, false, false⟩]
def rowAt (op : Int) : Rw := if op < 0 ∨ 25 ≤ op then r0 else tab.getD op.toNat r0
theorem rowAt_out {op : Int} (h : op < 0 ∨ 25 ≤ op) : rowAt op = r0 := by unfold rowAt; rw [if_pos h]
theorem rowAt_in {op : Int} (h : ¬ (op < 0 ∨ 25 ≤ op)) : rowAt op = tab.getD op.toNat r0 := by unfold rowAt; rw [if_neg h]

def signList : List (List UInt8) := [[], [43], [45], [42], [47], [37], [115, 47], [115, 37], [38], [124], [94], [60, 60], [62, 62], [115, 62, 62], [61, 61], [33, 61], [60], [60, 61], [115, 60], [115, 60, 61]]
def nameList : List (List UInt8) := [[], [110, 101, 103], [110, 111, 116], [122, 101, 114, 111]]
def signL (op : Int) : List UInt8 := if op < 1 ∨ 19 < op then [] else signList.getD op.toNat []
def nameL (op : Int) : List UInt8 := if op < 1 ∨ 3 < op then [] else nameList.getD op.toNat []
def opL (op : Int) : List UInt8 := (rowAt op).name

/-- May a number stand for such a thing? -/
def alw (k n : Int) : Bool :=
  if k = 1 then decide (0 ≤ n ∧ n ≤ 1048576) else if k = 2 then decide (1 ≤ n ∧ n ≤ 1048576) else if k = 3 then decide (0 ≤ n ∧ n ≤ 4294967295)
  else if k = 4 then decide (n = 8 ∨ n = 16 ∨ n = 32) else if k = 5 then decide (1 ≤ n ∧ n ≤ 19) else if k = 6 then decide (1 ≤ n ∧ n ≤ 3)
  else if k = 7 then decide (0 ≤ n ∧ n ≤ 31) else if k = 8 then decide (0 ≤ n ∧ n ≤ 15) else decide (n = 0)
theorem alw_0 {n : Int} : alw 0 n = decide (n = 0) := rfl
theorem alw_1 {n : Int} : alw 1 n = decide (0 ≤ n ∧ n ≤ 1048576) := rfl
theorem alw_2 {n : Int} : alw 2 n = decide (1 ≤ n ∧ n ≤ 1048576) := rfl
theorem alw_3 {n : Int} : alw 3 n = decide (0 ≤ n ∧ n ≤ 4294967295) := rfl
theorem alw_4 {n : Int} : alw 4 n = decide (n = 8 ∨ n = 16 ∨ n = 32) := rfl
theorem alw_5 {n : Int} : alw 5 n = decide (1 ≤ n ∧ n ≤ 19) := rfl
theorem alw_6 {n : Int} : alw 6 n = decide (1 ≤ n ∧ n ≤ 3) := rfl
theorem alw_7 {n : Int} : alw 7 n = decide (0 ≤ n ∧ n ≤ 31) := rfl
theorem alw_8 {n : Int} : alw 8 n = decide (0 ≤ n ∧ n ≤ 15) := rfl

/-- An instruction. -/
structure In where
  op : Int
  a : Int
  b : Int
  c : Int
  deriving DecidableEq
def in0 : In := ⟨0, 0, 0, 0⟩
def chk (i : In) : Bool := decide (1 ≤ i.op ∧ i.op ≤ 24) && alw (rowAt i.op).a i.a && alw (rowAt i.op).b i.b && alw (rowAt i.op).c i.c
def prt (k n : Int) : List UInt8 := if k = 5 then signL n else if k = 6 then nameL n else Lib.itoa n
def part (k n : Int) : List UInt8 := if k = 0 then [] else 32 :: prt k n
def txt (i : In) : List UInt8 := if chk i = true then opL i.op ++ part (rowAt i.op).a i.a ++ part (rowAt i.op).b i.b ++ part (rowAt i.op).c i.c else []

/-- The first of the next m numbers from n on whose text is t; -1: none. -/
def fndFrom (f : Int → List UInt8) (t : List UInt8) : Nat → Int → Int
  | 0, _ => -1
  | m + 1, n => if f n = t then n else fndFrom f t m (n + 1)
def fnd (f : Int → List UInt8) (N : Nat) (t : List UInt8) : Int := fndFrom f t N 1
def scn (k : Int) (t : List UInt8) : Int :=
  if k = 5 then fnd signL 19 t else if k = 6 then fnd nameL 3 t else
  match Lib.parseUintB 32 t with
  | .ok u => u
  | _ => -1
def opOf (t : List UInt8) : Int := fnd opL 24 t
def numAt (k : Int) (j : Nat) (l : List (List UInt8)) : Int := if k ≠ 0 ∧ j < l.length then scn k (l.getD j []) else 0
def rd (l : List (List UInt8)) : In :=
  match l with
  | [] => in0
  | h :: _ => ⟨opOf h, numAt (rowAt (opOf h)).a 1 l, numAt (rowAt (opOf h)).b 2 l, numAt (rowAt (opOf h)).c 3 l⟩
/-- What a text is parsed as. -/
def prs (s : List UInt8) : Option In :=
  if 22 < s.length then none else if chk (rd (Lib.fieldsD s)) = true ∧ txt (rd (Lib.fieldsD s)) = s then some (rd (Lib.fieldsD s)) else none

theorem prs_sound {s : List UInt8} {i : In} (h : prs s = some i) : chk i = true ∧ txt i = s := by
  unfold prs at h
  split at h
  · cases h
  · split at h
    · rename_i hc
      simp only [Option.some.injEq] at h
      subst h
      exact hc
    · cases h

/-! ### numbers: printed and read -/
theorem parse_snoc (M : Nat) (d : UInt8) : ∀ (l : List UInt8) (acc : Nat), Lib.parseUintM M acc (l ++ [d]) =
    match Lib.parseUintM M acc l with
    | .ok u => Lib.parseUintM M u [d]
    | x => x
  | [], acc => rfl
  | c :: r, acc => by
    simp only [List.cons_append, Lib.parseUintM]
    split
    · split
      · rfl
      · split
        · rfl
        · exact parse_snoc M d r _
    · rfl
theorem parse_dec : ∀ (u : Nat), u < 4294967296 → Lib.parseUintM 4294967295 0 (Lib.decDigits u) = .ok u := by
  intro u
  induction u using Nat.strongRecOn with
  | _ u ih =>
    intro hu
    by_cases h : u < 10
    · rw [Lib.decDigits, dif_pos h]
      have e : (UInt8.ofNat (48 + u)).toNat = 48 + u := by simp; omega
      simp only [Lib.parseUintM, e]
      rw [if_pos (by omega), if_neg (by omega), if_neg (by omega)]
      congr 1; omega
    · rw [Lib.decDigits, dif_neg h, parse_snoc, ih (u / 10) (by omega) (by omega)]
      have e : (UInt8.ofNat (48 + u % 10)).toNat = 48 + u % 10 := by simp; omega
      simp only [Lib.parseUintM, e]
      rw [if_pos (by omega), if_neg (by omega), if_neg (by omega)]
      congr 1; omega
theorem dec_ne (u : Nat) : Lib.decDigits u ≠ [] := by
  rw [Lib.decDigits]
  split <;> simp
theorem scn_itoa {k n : Int} (h5 : k ≠ 5) (h6 : k ≠ 6) (h0 : 0 ≤ n) (h1 : n ≤ 4294967295) : scn k (Lib.itoa n) = n := by
  have e : Lib.itoa n = Lib.decDigits n.toNat := by unfold Lib.itoa; rw [if_neg (by omega)]
  have p := parse_dec n.toNat (by omega)
  have q : Lib.parseUintB 32 (Lib.itoa n) = .ok n.toNat := by
    unfold Lib.parseUintB
    rw [e, if_neg (dec_ne _)]
    exact p
  unfold scn
  rw [if_neg h5, if_neg h6, q]
  exact Int.toNat_of_nonneg h0
theorem scn_sign : ∀ n : Fin 20, 1 ≤ n.val → scn 5 (signL n.val) = n.val := by decide +kernel
theorem scn_name : ∀ n : Fin 4, 1 ≤ n.val → scn 6 (nameL n.val) = n.val := by decide +kernel
theorem scn_prt {k n : Int} (hk : 1 ≤ k ∧ k ≤ 8) (h : alw k n = true) : scn k (prt k n) = n := by
  obtain ⟨a, b⟩ := hk
  have hk' : k = 1 ∨ k = 2 ∨ k = 3 ∨ k = 4 ∨ k = 5 ∨ k = 6 ∨ k = 7 ∨ k = 8 := by omega
  rcases hk' with rfl | rfl | rfl | rfl | rfl | rfl | rfl | rfl
  · rw [alw_1] at h; simp only [decide_eq_true_eq] at h; exact scn_itoa (by decide) (by decide) (by omega) (by omega)
  · rw [alw_2] at h; simp only [decide_eq_true_eq] at h; exact scn_itoa (by decide) (by decide) (by omega) (by omega)
  · rw [alw_3] at h; simp only [decide_eq_true_eq] at h; exact scn_itoa (by decide) (by decide) (by omega) (by omega)
  · rw [alw_4] at h; simp only [decide_eq_true_eq] at h; exact scn_itoa (by decide) (by decide) (by omega) (by omega)
  · rw [alw_5] at h; simp only [decide_eq_true_eq] at h
    have := scn_sign ⟨n.toNat, by omega⟩ (by simp; omega)
    simpa [prt, Int.toNat_of_nonneg (show 0 ≤ n by omega)] using this
  · rw [alw_6] at h; simp only [decide_eq_true_eq] at h
    have := scn_name ⟨n.toNat, by omega⟩ (by simp; omega)
    simpa [prt, Int.toNat_of_nonneg (show 0 ≤ n by omega)] using this
  · rw [alw_7] at h; simp only [decide_eq_true_eq] at h; exact scn_itoa (by decide) (by decide) (by omega) (by omega)
  · rw [alw_8] at h; simp only [decide_eq_true_eq] at h; exact scn_itoa (by decide) (by decide) (by omega) (by omega)

/-! ### pieces: no blank in them, not empty, ASCII -/
def clean (l : List UInt8) : Bool := !l.isEmpty && l.all fun b => 33 ≤ b.toNat && b.toNat ≤ 126
theorem clean_dec : ∀ u : Nat, clean (Lib.decDigits u) = true := by
  intro u
  have key : ∀ u : Nat, ((Lib.decDigits u).all fun b => 33 ≤ b.toNat && b.toNat ≤ 126) = true := by
    intro u
    induction u using Nat.strongRecOn with
    | _ u ih =>
      rw [Lib.decDigits]
      split
      · simp; omega
      · rw [List.all_append, ih (u / 10) (by omega)]
        simp; omega
  unfold clean
  rw [key u]
  have := dec_ne u
  simp [this]
theorem clean_itoa {n : Int} (h : 0 ≤ n) : clean (Lib.itoa n) = true := by
  unfold Lib.itoa; rw [if_neg (by omega)]; exact clean_dec _
theorem clean_sign : ∀ n : Fin 20, 1 ≤ n.val → clean (signL n.val) = true := by decide +kernel
theorem clean_name : ∀ n : Fin 4, 1 ≤ n.val → clean (nameL n.val) = true := by decide +kernel
theorem clean_op : ∀ n : Fin 25, 1 ≤ n.val → clean (opL n.val) = true := by decide +kernel
theorem clean_prt {k n : Int} (hk : 1 ≤ k ∧ k ≤ 8) (h : alw k n = true) : clean (prt k n) = true := by
  obtain ⟨a, b⟩ := hk
  have hk' : k = 1 ∨ k = 2 ∨ k = 3 ∨ k = 4 ∨ k = 5 ∨ k = 6 ∨ k = 7 ∨ k = 8 := by omega
  rcases hk' with rfl | rfl | rfl | rfl | rfl | rfl | rfl | rfl
  · rw [alw_1] at h; simp only [decide_eq_true_eq] at h; exact clean_itoa (by omega)
  · rw [alw_2] at h; simp only [decide_eq_true_eq] at h; exact clean_itoa (by omega)
  · rw [alw_3] at h; simp only [decide_eq_true_eq] at h; exact clean_itoa (by omega)
  · rw [alw_4] at h; simp only [decide_eq_true_eq] at h; exact clean_itoa (by omega)
  · rw [alw_5] at h; simp only [decide_eq_true_eq] at h
    have := clean_sign ⟨n.toNat, by omega⟩ (by simp; omega)
    simpa [prt, Int.toNat_of_nonneg (show 0 ≤ n by omega)] using this
  · rw [alw_6] at h; simp only [decide_eq_true_eq] at h
    have := clean_name ⟨n.toNat, by omega⟩ (by simp; omega)
    simpa [prt, Int.toNat_of_nonneg (show 0 ≤ n by omega)] using this
  · rw [alw_7] at h; simp only [decide_eq_true_eq] at h; exact clean_itoa (by omega)
  · rw [alw_8] at h; simp only [decide_eq_true_eq] at h; exact clean_itoa (by omega)
theorem clean_ne {l : List UInt8} (h : clean l = true) : l ≠ [] := by
  intro e; subst e; simp [clean] at h
theorem clean_at {l : List UInt8} (h : clean l = true) : ∀ b ∈ l, 33 ≤ b.toNat ∧ b.toNat ≤ 126 := by
  intro b hb
  simp [clean] at h
  exact h.2 b hb

/-- Pieces, one blank between two. -/
def join : List (List UInt8) → List UInt8
  | [] => []
  | [x] => x
  | x :: y :: r => x ++ 32 :: join (y :: r)
theorem isSp_clean : ∀ b : Fin 256, 33 ≤ b.val → b.val ≤ 126 → Lib.isSp (UInt8.ofNat b.val) = false := by decide +kernel
theorem notSp {b : UInt8} (h : 33 ≤ b.toNat ∧ b.toNat ≤ 126) : Lib.isSp b = false := by
  have := isSp_clean ⟨b.toNat, b.toNat_lt⟩ h.1 h.2
  simpa using this
theorem fieldsGo_run : ∀ (x cur r : List UInt8), (∀ b ∈ x, Lib.isSp b = false) → Lib.fieldsGo cur (x ++ r) = Lib.fieldsGo (cur ++ x) r
  | [], cur, r, _ => by simp
  | b :: t, cur, r, h => by
    rw [List.cons_append, Lib.fieldsGo_more cur b _ (h b List.mem_cons_self), fieldsGo_run t (cur ++ [b]) r (fun y hy => h y (List.mem_cons_of_mem _ hy))]
    simp
theorem fields_join : ∀ (ps : List (List UInt8)), (∀ p ∈ ps, clean p = true) → Lib.fieldsGo [] (join ps) = ps
  | [], _ => rfl
  | [x], h => by
    have hx := h x List.mem_cons_self
    have := fieldsGo_run x [] [] (fun b hb => notSp (clean_at hx b hb))
    simp only [List.append_nil, List.nil_append] at this
    rw [join, this]
    have hne := clean_ne hx
    cases x with
    | nil => exact absurd rfl hne
    | cons _ _ => simp [Lib.fieldsGo]
  | x :: y :: r, h => by
    have hx := h x List.mem_cons_self
    have ih := fields_join (y :: r) (fun p hp => h p (List.mem_cons_of_mem _ hp))
    rw [join, fieldsGo_run x [] _ (fun b hb => notSp (clean_at hx b hb)), List.nil_append, Lib.fieldsGo_end _ _ _ (by decide) (clean_ne hx), ih]
theorem join_ascii : ∀ (ps : List (List UInt8)), (∀ p ∈ ps, clean p = true) → ∀ b ∈ join ps, b.toNat < 128
  | [], _, b, hb => by simp [join] at hb
  | [x], h, b, hb => by have := clean_at (h x List.mem_cons_self) b hb; omega
  | x :: y :: r, h, b, hb => by
    rw [join, List.mem_append, List.mem_cons] at hb
    rcases hb with hb | rfl | hb
    · have := clean_at (h x List.mem_cons_self) b hb; omega
    · decide
    · exact join_ascii (y :: r) (fun p hp => h p (List.mem_cons_of_mem _ hp)) b hb
theorem fieldsD_join (ps : List (List UInt8)) (h : ∀ p ∈ ps, clean p = true) : Lib.fieldsD (join ps) = ps := by
  rw [Lib.fieldsD_ascii _ (join_ascii ps h)]
  exact fields_join ps h

/-! ### an instruction's pieces -/
/-- The shapes that rows have: no number, one, two, three. -/
inductive Shape (i : In) : List (List UInt8) → Prop
  | none (h1 : (rowAt i.op).a = 0) (h2 : (rowAt i.op).b = 0) (h3 : (rowAt i.op).c = 0) (ha : i.a = 0) (hb : i.b = 0) (hc : i.c = 0) : Shape i [opL i.op]
  | one (h1 : 1 ≤ (rowAt i.op).a ∧ (rowAt i.op).a ≤ 8) (h2 : (rowAt i.op).b = 0) (h3 : (rowAt i.op).c = 0) (ha : alw (rowAt i.op).a i.a = true) (hb : i.b = 0) (hc : i.c = 0) : Shape i [opL i.op, prt (rowAt i.op).a i.a]
  | two (h1 : 1 ≤ (rowAt i.op).a ∧ (rowAt i.op).a ≤ 8) (h2 : 1 ≤ (rowAt i.op).b ∧ (rowAt i.op).b ≤ 8) (h3 : (rowAt i.op).c = 0) (ha : alw (rowAt i.op).a i.a = true) (hb : alw (rowAt i.op).b i.b = true) (hc : i.c = 0) : Shape i [opL i.op, prt (rowAt i.op).a i.a, prt (rowAt i.op).b i.b]
  | three (h1 : 1 ≤ (rowAt i.op).a ∧ (rowAt i.op).a ≤ 8) (h2 : 1 ≤ (rowAt i.op).b ∧ (rowAt i.op).b ≤ 8) (h3 : 1 ≤ (rowAt i.op).c ∧ (rowAt i.op).c ≤ 8) (ha : alw (rowAt i.op).a i.a = true) (hb : alw (rowAt i.op).b i.b = true) (hc : alw (rowAt i.op).c i.c = true) : Shape i [opL i.op, prt (rowAt i.op).a i.a, prt (rowAt i.op).b i.b, prt (rowAt i.op).c i.c]
theorem kinds_fin : ∀ n : Fin 25, (0 ≤ (rowAt n.val).a ∧ (rowAt n.val).a ≤ 8) ∧ (0 ≤ (rowAt n.val).b ∧ (rowAt n.val).b ≤ 8) ∧ (0 ≤ (rowAt n.val).c ∧ (rowAt n.val).c ≤ 8) ∧ ((rowAt n.val).a = 0 → (rowAt n.val).b = 0) ∧ ((rowAt n.val).b = 0 → (rowAt n.val).c = 0) := by decide +kernel
theorem kinds_in (op : Int) : (0 ≤ (rowAt op).a ∧ (rowAt op).a ≤ 8) ∧ (0 ≤ (rowAt op).b ∧ (rowAt op).b ≤ 8) ∧ (0 ≤ (rowAt op).c ∧ (rowAt op).c ≤ 8) ∧ ((rowAt op).a = 0 → (rowAt op).b = 0) ∧ ((rowAt op).b = 0 → (rowAt op).c = 0) := by
  by_cases h : op < 0 ∨ 25 ≤ op
  · rw [rowAt_out h]; decide
  · have := kinds_fin ⟨op.toNat, by omega⟩
    simpa [Int.toNat_of_nonneg (show 0 ≤ op by omega)] using this
theorem chk_parts {i : In} (h : chk i = true) : (1 ≤ i.op ∧ i.op ≤ 24) ∧ alw (rowAt i.op).a i.a = true ∧ alw (rowAt i.op).b i.b = true ∧ alw (rowAt i.op).c i.c = true := by
  unfold chk at h
  simp only [Bool.and_eq_true, decide_eq_true_eq] at h
  exact ⟨h.1.1.1, h.1.1.2, h.1.2, h.2⟩
theorem shape_of {i : In} (h : chk i = true) : ∃ ps, Shape i ps ∧ txt i = join ps := by
  obtain ⟨hop, ha, hb, hc⟩ := chk_parts h
  obtain ⟨ka, kb, kc, z1, z2⟩ := kinds_in i.op
  unfold txt
  rw [if_pos h]
  by_cases ea : (rowAt i.op).a = 0
  · have eb := z1 ea
    have ec := z2 eb
    refine ⟨_, .none ea eb ec (by rw [ea, alw_0] at ha; simpa using ha) (by rw [eb, alw_0] at hb; simpa using hb) (by rw [ec, alw_0] at hc; simpa using hc), ?_⟩
    simp [part, ea, eb, ec, join]
  · by_cases eb : (rowAt i.op).b = 0
    · have ec := z2 eb
      refine ⟨_, .one (by omega) eb ec ha (by rw [eb, alw_0] at hb; simpa using hb) (by rw [ec, alw_0] at hc; simpa using hc), ?_⟩
      simp [part, ea, eb, ec, join]
    · by_cases ec : (rowAt i.op).c = 0
      · refine ⟨_, .two (by omega) (by omega) ec ha hb (by rw [ec, alw_0] at hc; simpa using hc), ?_⟩
        simp [part, ea, eb, ec, join]
      · refine ⟨_, .three (by omega) (by omega) (by omega) ha hb hc, ?_⟩
        simp [part, ea, eb, ec, join]
theorem opOf_fin : ∀ n : Fin 25, 1 ≤ n.val → opOf (opL n.val) = n.val := by decide +kernel
theorem opOf_op {op : Int} (h : 1 ≤ op ∧ op ≤ 24) : opOf (opL op) = op := by
  have := opOf_fin ⟨op.toNat, by omega⟩ (by simp; omega)
  simpa [Int.toNat_of_nonneg (show 0 ≤ op by omega)] using this
theorem clean_opL {op : Int} (h : 1 ≤ op ∧ op ≤ 24) : clean (opL op) = true := by
  have := clean_op ⟨op.toNat, by omega⟩ (by simp; omega)
  simpa [Int.toNat_of_nonneg (show 0 ≤ op by omega)] using this
theorem shape_clean {i : In} {ps : List (List UInt8)} (hop : 1 ≤ i.op ∧ i.op ≤ 24) (h : Shape i ps) : ∀ p ∈ ps, clean p = true := by
  have ho := clean_opL hop
  cases h with
  | none => intro p hp; simp at hp; subst hp; exact ho
  | one h1 _ _ ha => intro p hp; simp at hp; rcases hp with rfl | rfl; exact ho; exact clean_prt h1 ha
  | two h1 h2 _ ha hb => intro p hp; simp at hp; rcases hp with rfl | rfl | rfl; exact ho; exact clean_prt h1 ha; exact clean_prt h2 hb
  | three h1 h2 h3 ha hb hc => intro p hp; simp at hp; rcases hp with rfl | rfl | rfl | rfl; exact ho; exact clean_prt h1 ha; exact clean_prt h2 hb; exact clean_prt h3 hc
theorem rd_shape {i : In} {ps : List (List UInt8)} (hop : 1 ≤ i.op ∧ i.op ≤ 24) (h : Shape i ps) : rd ps = i := by
  obtain ⟨op, a, b, c⟩ := i
  have ho := opOf_op hop
  cases h with
  | none h1 h2 h3 ha hb hc =>
    simp only at h1 h2 h3 ha hb hc ho ⊢
    subst ha hb hc
    simp [rd, ho, numAt]
  | one h1 h2 h3 ha hb hc =>
    simp only at h1 h2 h3 ha hb hc ho ⊢
    subst hb hc
    simp [rd, ho, numAt, h2, h3, scn_prt h1 ha]
    omega
  | two h1 h2 h3 ha hb hc =>
    simp only at h1 h2 h3 ha hb hc ho ⊢
    subst hc
    simp [rd, ho, numAt, h3, scn_prt h1 ha, scn_prt h2 hb]
    omega
  | three h1 h2 h3 ha hb hc =>
    simp only at h1 h2 h3 ha hb hc ho ⊢
    simp [rd, ho, numAt, scn_prt h1 ha, scn_prt h2 hb, scn_prt h3 hc]
    omega

/-! ### lengths -/
def lenK (k : Int) : Nat := if k = 0 then 0 else if k = 3 then 11 else if k = 4 then 3 else if k = 5 then 4 else if k = 6 then 5 else if k = 7 ∨ k = 8 then 3 else 8
theorem itoa_len {n : Int} {m : Nat} (h0 : 0 ≤ n) (h : n.toNat < 10 ^ (m + 1)) : (Lib.itoa n).length ≤ m + 1 := by
  have e : Lib.itoa n = Lib.decDigits n.toNat := by unfold Lib.itoa; rw [if_neg (by omega)]
  rw [e, Lib.decDigits_length]
  have key : ∀ (m u : Nat), u < 10 ^ (m + 1) → Lib.nDigits u ≤ m + 1 := by
    intro m
    induction m with
    | zero => intro u hu; rw [Lib.nDigits_small (by simpa using hu)]; omega
    | succ m ih =>
      intro u hu
      by_cases hs : u < 10
      · rw [Lib.nDigits_small hs]; omega
      · rw [Lib.nDigits_big hs]
        have := ih (u / 10) (by rw [Nat.pow_succ] at hu; omega)
        omega
  exact key m _ h
theorem sign_len : ∀ n : Fin 20, (signL n.val).length ≤ 3 := by decide +kernel
theorem name_len : ∀ n : Fin 4, (nameL n.val).length ≤ 4 := by decide +kernel
theorem part_len {k n : Int} (hk : 0 ≤ k ∧ k ≤ 8) (h : alw k n = true) : (part k n).length ≤ lenK k := by
  obtain ⟨a, b⟩ := hk
  have hk' : k = 0 ∨ k = 1 ∨ k = 2 ∨ k = 3 ∨ k = 4 ∨ k = 5 ∨ k = 6 ∨ k = 7 ∨ k = 8 := by omega
  rcases hk' with rfl | rfl | rfl | rfl | rfl | rfl | rfl | rfl | rfl
  · simp [part]
  · rw [alw_1] at h; simp only [decide_eq_true_eq] at h; have := itoa_len (n := n) (m := 6) (by omega) (by omega); simpa [part, prt, lenK] using this
  · rw [alw_2] at h; simp only [decide_eq_true_eq] at h; have := itoa_len (n := n) (m := 6) (by omega) (by omega); simpa [part, prt, lenK] using this
  · rw [alw_3] at h; simp only [decide_eq_true_eq] at h; have := itoa_len (n := n) (m := 9) (by omega) (by omega); simpa [part, prt, lenK] using this
  · rw [alw_4] at h; simp only [decide_eq_true_eq] at h; have := itoa_len (n := n) (m := 1) (by omega) (by omega); simpa [part, prt, lenK] using this
  · rw [alw_5] at h; simp only [decide_eq_true_eq] at h
    have := sign_len ⟨n.toNat, by omega⟩
    simpa [part, prt, lenK, Int.toNat_of_nonneg (show 0 ≤ n by omega)] using this
  · rw [alw_6] at h; simp only [decide_eq_true_eq] at h
    have := name_len ⟨n.toNat, by omega⟩
    simpa [part, prt, lenK, Int.toNat_of_nonneg (show 0 ≤ n by omega)] using this
  · rw [alw_7] at h; simp only [decide_eq_true_eq] at h; have := itoa_len (n := n) (m := 1) (by omega) (by omega); simpa [part, prt, lenK] using this
  · rw [alw_8] at h; simp only [decide_eq_true_eq] at h; have := itoa_len (n := n) (m := 1) (by omega) (by omega); simpa [part, prt, lenK] using this
theorem row_len : ∀ n : Fin 25, (opL n.val).length + lenK (rowAt n.val).a + lenK (rowAt n.val).b + lenK (rowAt n.val).c ≤ 22 := by decide +kernel
theorem txt_len (i : In) : (txt i).length ≤ 22 := by
  unfold txt
  split
  · rename_i h
    obtain ⟨hop, ha, hb, hc⟩ := chk_parts h
    obtain ⟨ka, kb, kc, _, _⟩ := kinds_in i.op
    have r := row_len ⟨i.op.toNat, by omega⟩
    simp only [Int.toNat_of_nonneg (show 0 ≤ i.op by omega)] at r
    have p1 := part_len ka ha
    have p2 := part_len kb hb
    have p3 := part_len kc hc
    simp only [List.length_append]
    omega
  · simp

/-- The text of a valid instruction is parsed as it. -/
theorem prs_txt {i : In} (h : chk i = true) : prs (txt i) = some i := by
  obtain ⟨ps, hs, he⟩ := shape_of h
  have hop := (chk_parts h).1
  have e : rd (Lib.fieldsD (txt i)) = i := by rw [he, fieldsD_join ps (shape_clean hop hs), rd_shape hop hs]
  unfold prs
  rw [if_neg (by have := txt_len i; omega), e, if_pos ⟨h, rfl⟩]
theorem txt_inj {i j : In} (hi : chk i = true) (hj : chk j = true) (h : txt i = txt j) : i = j := by
  have a := prs_txt hi
  rw [h, prs_txt hj] at a
  exact (Option.some.inj a).symm
theorem txt_ne {i : In} (h : chk i = true) : txt i ≠ [] := by
  obtain ⟨ps, hs, he⟩ := shape_of h
  have hop := (chk_parts h).1
  have hc := clean_ne (clean_opL hop)
  rw [he]
  cases hs <;> simp [join, hc]
theorem txt_no {i : In} (h : chk i = false) : txt i = [] := by unfold txt; rw [if_neg (by simp [h])]
end Co
end Go.Proofs.YtaeblnlbelebkaaGreatDoor
