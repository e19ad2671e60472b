/-
  PLAIN FACTS and WALKS: the document's own answers of layer 3 (what Parse is by definition), as the texts of stage 3 have them, but for what speaks of functions that are not here. Own work.
-/
import Derived.Test.YtaeblnlbelebkaaGreatDoorCoText
import Derived.ChangeAlike
import Derived.Deep.DeepCutAuto
import Derived.Deep.RegionHeld3
import Derived.Deep.RegionWith
import Derived.IntWalk
import Derived.Laws.AppendOwn
import Derived.Outline
import Derived.StillTailTactics
namespace Go.Proofs.YtaeblnlbelebkaaGreatDoor
namespace Co
open Go.RowKit Go
set_option linter.unusedVariables false

theorem fndFrom_stop {f : Int → List UInt8} {t : List UInt8} {n : Int} (m : Nat) (h : f n = t) : fndFrom f t (m + 1) n = n := by unfold fndFrom; rw [if_pos h]
theorem fndFrom_next {f : Int → List UInt8} {t : List UInt8} {n : Int} (m : Nat) (h : f n ≠ t) : fndFrom f t (m + 1) n = fndFrom f t m (n + 1) := by rw [fndFrom, if_neg h]
theorem opL_some {n : Int} (h : 1 ≤ n ∧ n ≤ 24) : opL n ≠ [] := by
  have key : ∀ n : Fin 25, 1 ≤ n.val → opL n.val ≠ [] := by decide +kernel
  have := key ⟨n.toNat, by omega⟩ (by simp; omega)
  simpa only [Int.toNat_of_nonneg (show 0 ≤ n by omega)] using this
theorem signL_some' {n : Int} (h : 1 ≤ n ∧ n ≤ 19) : signL n ≠ [] := by
  have key : ∀ n : Fin 20, 1 ≤ n.val → signL n.val ≠ [] := by decide +kernel
  have := key ⟨n.toNat, by omega⟩ (by simp; omega)
  simpa only [Int.toNat_of_nonneg (show 0 ≤ n by omega)] using this
theorem nameL_some' {n : Int} (h : 1 ≤ n ∧ n ≤ 3) : nameL n ≠ [] := by
  have key : ∀ n : Fin 4, 1 ≤ n.val → nameL n.val ≠ [] := by decide +kernel
  have := key ⟨n.toNat, by omega⟩ (by simp; omega)
  simpa only [Int.toNat_of_nonneg (show 0 ≤ n by omega)] using this
theorem isEmpty_no {l : List UInt8} (h : l ≠ []) : (bytesOf l).toList.isEmpty = false := by rw [bytesOf_toList]; simp [h]
theorem isEmpty_yes {l : List UInt8} (h : l = []) : (bytesOf l).toList.isEmpty = true := by rw [bytesOf_toList]; simp [h]
theorem beq_bytes (l t : List UInt8) : ((bytesOf l).toList == (bytesOf t).toList) = decide (l = t) := by
  rw [bytesOf_toList, bytesOf_toList, Bool.eq_iff_iff]; simp

theorem Sign_r {w : World} (hE : Env w) (op : Int) :
    Calls Tryz.prog 111 #[.int .i64 op] w fun e w' => e = .returned (.string (bytesOf (signL op))) ∧ Kp w w' :=
  (Sign_any hE.signs op).mono fun _ _ ⟨h, k⟩ => ⟨h, by rw [← k]; exact Kp.refl _⟩
theorem Name_r {w : World} (hE : Env w) (op : Int) :
    Calls Tryz.prog 112 #[.int .i64 op] w fun e w' => e = .returned (.string (bytesOf (nameL op))) ∧ Kp w w' :=
  (Name_any hE.names op).mono fun _ _ ⟨h, k⟩ => ⟨h, by rw [← k]; exact Kp.refl _⟩

theorem parseM_bd (M : Nat) : ∀ (l : List UInt8) (acc u : Nat), acc ≤ M → Lib.parseUintM M acc l = .ok u → u ≤ M
  | [], acc, u, h, e => by simp only [Lib.parseUintM] at e; injection e with e; omega
  | c :: r, acc, u, h, e => by
    simp only [Lib.parseUintM] at e
    split at e
    · split at e
      · cases e
      · split at e
        · cases e
        · exact parseM_bd M r _ u (by omega) e
    · cases e
theorem parseB_bd {l : List UInt8} {u : Nat} (h : Lib.parseUintB 32 l = .ok u) : u ≤ 4294967295 := by
  unfold Lib.parseUintB at h
  split at h
  · cases h
  · exact parseM_bd _ _ _ _ (by omega) h

/-- A slice of texts: none, or its cells. -/
structure Scs (w : World) (b off : Nat) (l : List (List UInt8)) : Prop where
  size : b < w.heap.size
  at' : ∀ i, i < l.length → w.cell? ⟨b, off + i, none⟩ = some (.string (bytesOf (l.getD i [])))
def SIn (w : World) (ao : Option Addr) (l : List (List UInt8)) : Prop := l = [] ∨ ∃ b off, ao = some ⟨b, off, none⟩ ∧ Scs w b off l
theorem Scs.kp {w w' : World} {b off : Nat} {l : List (List UInt8)} (h : Scs w b off l) (k : Kp w w') : Scs w' b off l :=
  ⟨Nat.lt_of_lt_of_le h.size k.size, fun i hi => (k.cells _ _ h.size).trans (h.at' i hi)⟩
theorem SIn.kp {w w' : World} {ao : Option Addr} {l : List (List UInt8)} (h : SIn w ao l) (k : Kp w w') : SIn w' ao l := by
  rcases h with h | ⟨b, off, h, g⟩
  · exact .inl h
  · exact .inr ⟨b, off, h, g.kp k⟩

/-- Three numbers in a block of one's own. -/
structure Nums (w : World) (B : Nat) (f : Nat → Int) : Prop where
  size : B < w.heap.size
  cell : ∀ j, j < 3 → w.cell? ⟨B, j, none⟩ = some (.int .i64 (f j))
  fro : ∀ j, w.frozen? ⟨B, j, none⟩ = false
theorem Nums.kp {w w' : World} {B : Nat} {f : Nat → Int} (h : Nums w B f) (k : Kp w w') : Nums w' B f :=
  ⟨Nat.lt_of_lt_of_le h.size k.size, fun j hj => (k.cells _ _ h.size).trans (h.cell j hj), fun j => (k.fros _ _ h.size).trans (h.fro j)⟩
theorem Nums.set {w : World} {B : Nat} {f : Nat → Int} (h : Nums w B f) {i : Nat} (hi : i < 3) (v : Int) : Nums (w.setCell ⟨B, i, none⟩ (.int .i64 v)) B (fun j => if j = i then v else f j) where
  size := by simpa using h.size
  cell := fun j hj => by
    by_cases e : j = i
    · subst e
      rw [World.cell?_setCell_same (h := h.cell j hj), if_pos rfl]
    · rw [World.cell?_setCell_other (h := by simp only [ne_eq, Addr.mk.injEq, true_and, and_true]; omega), h.cell j hj, if_neg e]
  fro := fun j => by rw [World.frozen?_setCell]; exact h.fro j
theorem Nums.ext {w : World} {B : Nat} {f g : Nat → Int} (h : Nums w B f) (e : ∀ j, j < 3 → f j = g j) : Nums w B g :=
  ⟨h.size, fun j hj => by rw [h.cell j hj, e j hj], h.fro⟩

def numF (op : Int) (l : List (List UInt8)) (j : Nat) : Int := numAt (sel3 (rowAt op).a (rowAt op).b (rowAt op).c j) (j + 1) l
theorem rd_cons {h : List UInt8} {r : List (List UInt8)} : rd (h :: r) = ⟨opOf h, numF (opOf h) (h :: r) 0, numF (opOf h) (h :: r) 1, numF (opOf h) (h :: r) 2⟩ := rfl

theorem fieldsGoD_count : ∀ (f : Nat) (cur l : List UInt8), (Lib.fieldsGoD f cur l).length ≤ f + 1
  | 0, cur, l => by simp only [Lib.fieldsGoD]; split <;> simp
  | f + 1, cur, l => by
    simp only [Lib.fieldsGoD]
    split
    · split <;> simp
    · split
      · have ih := fieldsGoD_count f [] (l.drop (Lib.decodeL l).2)
        rw [List.length_append]
        split <;> simp <;> omega
      · have ih := fieldsGoD_count f (cur ++ l.take (Lib.decodeL l).2) (l.drop (Lib.decodeL l).2)
        omega
theorem fieldsGoD_each : ∀ (f : Nat) (cur l : List UInt8), ∀ p ∈ Lib.fieldsGoD f cur l, p.length ≤ cur.length + l.length
  | 0, cur, l, p, hp => by
    simp only [Lib.fieldsGoD] at hp
    split at hp
    · simp at hp
    · simp at hp; subst hp; omega
  | f + 1, cur, l, p, hp => by
    simp only [Lib.fieldsGoD] at hp
    split at hp
    · split at hp
      · simp at hp
      · simp at hp; subst hp; omega
    · split at hp
      · rw [List.mem_append] at hp
        rcases hp with hp | hp
        · split at hp
          · simp at hp
          · simp at hp; subst hp; omega
        · have := fieldsGoD_each f [] (l.drop (Lib.decodeL l).2) p hp
          simp at this
          omega
      · have := fieldsGoD_each f (cur ++ l.take (Lib.decodeL l).2) (l.drop (Lib.decodeL l).2) p hp
        simp at this
        omega
theorem fieldsD_bd (s : List UInt8) (hs : s.length ≤ 100) : (Lib.fieldsD s).length ≤ 1000 ∧ ∀ i, ((Lib.fieldsD s).getD i []).length ≤ 1000 := by
  refine ⟨?_, fun i => ?_⟩
  · have := fieldsGoD_count (s.length + 1) [] s
    unfold Lib.fieldsD
    omega
  · rw [List.getD_eq_getElem?_getD]
    by_cases h : i < (Lib.fieldsD s).length
    · rw [List.getElem?_eq_getElem h]
      have := fieldsGoD_each (s.length + 1) [] s ((Lib.fieldsD s)[i]) (List.getElem_mem h)
      simp only [Option.getD_some, List.length_nil] at this ⊢
      omega
    · rw [List.getElem?_eq_none (by omega)]; simp
theorem fndFrom_bd (f : Int → List UInt8) (t : List UInt8) : ∀ (m : Nat) (n : Int), 0 ≤ n → -1 ≤ fndFrom f t m n ∧ fndFrom f t m n ≤ n + m
  | 0, n, h => by simp only [fndFrom]; omega
  | m + 1, n, h => by
    simp only [fndFrom]
    split
    · omega
    · have := fndFrom_bd f t m (n + 1) (by omega)
      omega
theorem scn_bd (k : Int) (t : List UInt8) : -1 ≤ scn k t ∧ scn k t ≤ 4294967295 := by
  unfold scn
  split
  · have := fndFrom_bd signL t 19 1 (by omega); unfold fnd; omega
  · split
    · have := fndFrom_bd nameL t 3 1 (by omega); unfold fnd; omega
    · split
      · rename_i u h
        have := parseB_bd h
        omega
      · omega
theorem numAt_bd (k : Int) (j : Nat) (l : List (List UInt8)) : -1 ≤ numAt k j l ∧ numAt k j l ≤ 4294967295 := by
  unfold numAt
  split
  · exact scn_bd _ _
  · omega
theorem rd_wf (l : List (List UInt8)) : Wf (rd l) := by
  cases l with
  | nil => exact ⟨by decide, by decide, by decide, by decide⟩
  | cons h r =>
    have a := fndFrom_bd opL h 24 1 (by omega)
    have b := numAt_bd (rowAt (opOf h)).a 1 (h :: r)
    have c := numAt_bd (rowAt (opOf h)).b 2 (h :: r)
    have d := numAt_bd (rowAt (opOf h)).c 3 (h :: r)
    exact ⟨by show -9223372036854775808 ≤ fndFrom opL h 24 1 ∧ fndFrom opL h 24 1 ≤ 9223372036854775807; omega, by show -9223372036854775808 ≤ numAt _ _ _ ∧ numAt _ _ _ ≤ 9223372036854775807; omega,
      by show -9223372036854775808 ≤ numAt _ _ _ ∧ numAt _ _ _ ≤ 9223372036854775807; omega, by show -9223372036854775808 ≤ numAt _ _ _ ∧ numAt _ _ _ ≤ 9223372036854775807; omega⟩

/-- A slice that owns its texts' cells. -/
theorem own_texts {w : World} {B : Nat} {T : TypeId} {A n cap : Nat} {l : List (List UInt8)} (hA : w.ownsRow B T 1 (.slice (some ⟨A, 0, none⟩) n cap) n (l.map fun x => Value.string ⟨x.toArray⟩)) (hn : l.length = n) : SIn w (some ⟨A, 0, none⟩) l := by
  obtain ⟨hlen, h | ⟨g, cap', cur, hv, hB, hb, hnc, hcm, hsz, htk⟩⟩ := hA
  · cases h.1
  · simp only [Value.slice.injEq, Option.some.injEq, Addr.mk.injEq, and_true, true_and] at hv
    obtain ⟨rfl, rfl⟩ := hv
    by_cases h0 : l = []
    · exact .inl h0
    refine .inr ⟨A, 0, rfl, ?_, ?_⟩
    · by_cases hs : A < w.heap.size
      · exact hs
      · rw [Array.getElem?_eq_none (by omega)] at hb; cases hb
    · intro i hi
      have e := congrArg (·[i]?) htk
      simp only [List.getElem?_take, List.getElem?_map, Nat.mul_one] at e
      rw [if_pos (by omega), List.getElem?_eq_getElem hi, Array.getElem?_toList] at e
      have : w.cell? ⟨A, 0 + i, none⟩ = cur[i]? := by unfold World.cell?; simp [hb]
      rw [this, e, List.getD_eq_getElem?_getD, List.getElem?_eq_getElem hi]
      rfl
def prsI (s : List UInt8) : In := (prs s).getD in0
def prsE (s : List UInt8) : Int := if (prs s).isSome = true then 0 else 11
theorem prs_long {s : List UInt8} (h : 22 < s.length) : prs s = none := by unfold prs; rw [if_pos h]
theorem prs_bad {s : List UInt8} (h : ¬ 22 < s.length) (hc : chk (rd (Lib.fieldsD s)) = false) : prs s = none := by unfold prs; rw [if_neg h, if_neg (by simp [hc])]
theorem prs_other {s : List UInt8} (h : ¬ 22 < s.length) (hc : txt (rd (Lib.fieldsD s)) ≠ s) : prs s = none := by unfold prs; rw [if_neg h, if_neg (by simp [hc])]
theorem prs_good {s : List UInt8} (h : ¬ 22 < s.length) (hc : chk (rd (Lib.fieldsD s)) = true) (ht : txt (rd (Lib.fieldsD s)) = s) : prs s = some (rd (Lib.fieldsD s)) := by unfold prs; rw [if_neg h, if_pos ⟨hc, ht⟩]

def Yes (w : World) (e : Ending) (w' : World) : Prop := e = .returned (.bool true) ∧ Kp w w'

theorem ins_struct : Tryz.prog.underlying 55 = some (.struct (Tryz.prog.fieldsOf 55)) := by kernel_rfl
theorem ins_held : Tryz.prog.stoodInHeld 55 = false := by kernel_rfl
theorem ins_guard : Tryz.prog.eqGuardType Tryz.prog.depth 55 = false := by kernel_rfl
theorem ins_eq (a b c d a' b' c' d' : Int) (w : World) (e : Bool) (he : (a == a' && (b == b' && (c == c' && d == d'))) = e) : (binOp .eql 55 (.agg #[.int .i64 a, .int .i64 b, .int .i64 c, .int .i64 d]) (.agg #[.int .i64 a', .int .i64 b', .int .i64 c', .int .i64 d'])).run Tryz.prog w = .ok (.bool e) w := by
  have hu := Tryz.underlying55
  have hi := Tryz.underlying3
  subst he
  rw [run_eql_struct, run_equalIn_agg w 9999 _ _ _ ins_struct ins_held]
  cases h1 : (a == a') <;> cases h2 : (b == b') <;> cases h3 : (c == c') <;> cases h4 : (d == d') <;> simp [Op.eqFields, Program.fieldsOf, hu, hi, go_sem, h1, h2, h3, h4]

theorem txt_jz : txt ⟨16, 9, 0, 0⟩ = [106, 122, 32, 57] := by
  have c : chk ⟨16, 9, 0, 0⟩ = true := by decide +kernel
  unfold txt
  rw [if_pos c]
  show [106, 122] ++ (32 :: Lib.itoa 9) ++ [] ++ [] = _
  unfold Lib.itoa
  rw [if_neg (by decide), show (9 : Int).toNat = 9 from rfl, Lib.decDigits_one (by decide)]
  rfl
theorem txt_push : txt ⟨2, 5, 0, 0⟩ = [112, 117, 115, 104, 32, 53] := by
  have c : chk ⟨2, 5, 0, 0⟩ = true := by decide +kernel
  unfold txt
  rw [if_pos c]
  show [112, 117, 115, 104] ++ (32 :: Lib.itoa 5) ++ [] ++ [] = _
  unfold Lib.itoa
  rw [if_neg (by decide), show (5 : Int).toNat = 5 from rfl, Lib.decDigits_one (by decide)]
  rfl
theorem txt_stx : txt ⟨7, 4, 10, 8⟩ = [115, 116, 120, 32, 52, 32, 49, 48, 32, 56] := by
  have c : chk ⟨7, 4, 10, 8⟩ = true := by decide +kernel
  unfold txt
  rw [if_pos c]
  show [115, 116, 120] ++ (32 :: Lib.itoa 4) ++ (32 :: Lib.itoa 10) ++ (32 :: Lib.itoa 8) = _
  unfold Lib.itoa
  rw [if_neg (by decide), if_neg (by decide), if_neg (by decide), show (4 : Int).toNat = 4 from rfl, show (10 : Int).toNat = 10 from rfl, show (8 : Int).toNat = 8 from rfl, Lib.decDigits_one (by decide), Lib.decDigits_two (by decide) (by decide), Lib.decDigits_one (by decide)]
  rfl
theorem txt_bin : txt ⟨12, 6, 0, 0⟩ = [98, 105, 110, 32, 115, 47] := by decide +kernel
theorem prs_jz : prs [106, 122, 32, 57] = some ⟨16, 9, 0, 0⟩ := by
  rw [← txt_jz]; exact prs_txt (by decide +kernel)
theorem prs_push : prs [112, 117, 115, 104, 32, 48, 53] = none := by
  have e : rd (Lib.fieldsD [112, 117, 115, 104, 32, 48, 53]) = ⟨2, 5, 0, 0⟩ := by decide +kernel
  refine prs_other (by decide) ?_
  rw [e, txt_push]
  decide
theorem Wf.small {a b c d : Int} (h1 : -1 ≤ a ∧ a ≤ 4294967296) (h2 : -1 ≤ b ∧ b ≤ 4294967296) (h3 : -1 ≤ c ∧ c ≤ 4294967296) (h4 : -1 ≤ d ∧ d ≤ 4294967296) : Wf ⟨a, b, c, d⟩ :=
  ⟨⟨by show -9223372036854775808 ≤ a; omega, by show a ≤ 9223372036854775807; omega⟩, ⟨by show -9223372036854775808 ≤ b; omega, by show b ≤ 9223372036854775807; omega⟩, ⟨by show -9223372036854775808 ≤ c; omega, by show c ≤ 9223372036854775807; omega⟩, ⟨by show -9223372036854775808 ≤ d; omega, by show d ≤ 9223372036854775807; omega⟩⟩

def two : Nat → Int
  | 0 => 0
  | _ => 2
theorem two_in (w : World) : IIn (w.alloc (.cells #[.int .i64 0, .int .i64 2] 3)) (some ⟨w.heap.size, 0, none⟩) two 2 := by
  refine .inr ⟨_, _, rfl, by simp, fun i hi => ?_⟩
  obtain rfl | rfl : i = 0 ∨ i = 1 := by omega
  · simp [two]
  · simp [two]
def zeroN : Nat → Int := fun _ => 0

theorem info_string : (Tryz.prog.info? 9).map (fun i => (i.zero, i.size, i.bytes)) = some (some (.string ByteArray.empty), 1, 16) := by kernel_rfl
def namesL : List (List UInt8) := (tab.drop 1).map (·.name)
theorem namesL_len : namesL.length = 24 := rfl
theorem namesL_at : ∀ k : Fin 24, namesL[k.val]? = some (opL (k.val + 1)) := by decide +kernel
def strs (l : List (List UInt8)) : List Value := l.map fun x => Value.string (bytesOf x)
theorem own_kp {w w' : World} {base : Nat} {e : TypeId} {size : Nat} {v : Value} {n : Nat} {xs : List Value} (h : w.ownsRow base e size v n xs) (k : Kp w w') : w'.ownsRow base e size v n xs := by
  obtain ⟨h1, h2⟩ := h
  refine ⟨h1, ?_⟩
  rcases h2 with h2 | ⟨g, cap, cur, a, b, c, d⟩
  · exact .inl h2
  · refine .inr ⟨g, cap, cur, a, b, ?_, d⟩
    have hg : g < w.heap.size := by
      by_cases hs : g < w.heap.size
      · exact hs
      · rw [Array.getElem?_eq_none (by omega)] at c; cases c
    rw [k.below.block g hg]; exact c
theorem own_texts' {w : World} {B : Nat} {T : TypeId} {v : Value} {n : Nat} {l : List (List UInt8)} (h : w.ownsRow B T 1 v n (strs l)) (hn : 0 < n) : ∃ A cap, v = .slice (some ⟨A, 0, none⟩) n cap ∧ SIn w (some ⟨A, 0, none⟩) l := by
  have h0 := h
  obtain ⟨hlen, h | ⟨g, cap, cur, hv, _⟩⟩ := h
  · omega
  · subst hv
    have hl : l.length = n := by simpa [strs] using hlen
    exact ⟨g, cap, rfl, own_texts h0 hl⟩

/-- The names, as a new slice. -/
def Nms (w : World) (e : Ending) (w' : World) : Prop := ∃ A cap, e = .returned (.slice (some ⟨A, 0, none⟩) 24 cap) ∧ SIn w' (some ⟨A, 0, none⟩) namesL ∧ Kp w w'
theorem nms_of {w w' : World} {v : Value} (h : w'.ownsRow w.heap.size 9 1 v 24 (strs namesL)) (k : Kp w w') : Nms w (.returned v) w' := by
  obtain ⟨A, cap, rfl, hs⟩ := own_texts' h (by omega)
  exact ⟨A, cap, rfl, hs, k⟩
theorem goes_fin : ∀ n : Fin 25, 1 ≤ n.val → ((rowAt n.val).jm = (decide (n.val = 15) || decide (n.val = 16))) ∧ ((rowAt n.val).sp = (decide (n.val = 1) || decide (n.val = 15) || decide (n.val = 18))) ∧ (0 ≤ (rowAt n.val).tk ∧ (rowAt n.val).tk ≤ 2) ∧ (0 ≤ (rowAt n.val).gv ∧ (rowAt n.val).gv ≤ 1) := by decide +kernel
theorem goes_row {op : Int} (h : 1 ≤ op ∧ op ≤ 24) : ((rowAt op).jm = (decide (op = 15) || decide (op = 16))) ∧ ((rowAt op).sp = (decide (op = 1) || decide (op = 15) || decide (op = 18))) ∧ (0 ≤ (rowAt op).tk ∧ (rowAt op).tk ≤ 2) ∧ (0 ≤ (rowAt op).gv ∧ (rowAt op).gv ≤ 1) := by
  have := goes_fin ⟨op.toNat, by omega⟩ (by simp; omega)
  have e : ((op.toNat : Nat) : Int) = op := Int.toNat_of_nonneg (by omega)
  simp only [e] at this
  obtain ⟨a, b, c⟩ := this
  have e15 : (op.toNat = 15) = (op = 15) := by apply propext; omega
  have e16 : (op.toNat = 16) = (op = 16) := by apply propext; omega
  have e1 : (op.toNat = 1) = (op = 1) := by apply propext; omega
  have e18 : (op.toNat = 18) = (op = 18) := by apply propext; omega
  simp only [e15, e16, e1, e18] at a b
  exact ⟨a, b, c⟩

theorem join_head : ∀ (ps : List (List UInt8)), ps ≠ [] → (∀ p ∈ ps, clean p = true) → ∃ b l, join ps = b :: l ∧ 33 ≤ b.toNat
  | [], h, _ => absurd rfl h
  | [x], _, h => by
    have hx := h x List.mem_cons_self
    cases x with
    | nil => exact absurd rfl (clean_ne hx)
    | cons b l => exact ⟨b, l, rfl, (clean_at hx b List.mem_cons_self).1⟩
  | x :: y :: r, _, h => by
    have hx := h x List.mem_cons_self
    cases x with
    | nil => exact absurd rfl (clean_ne hx)
    | cons b l => exact ⟨b, _, rfl, (clean_at hx b List.mem_cons_self).1⟩
theorem join_last : ∀ (ps : List (List UInt8)), ps ≠ [] → (∀ p ∈ ps, clean p = true) → ∃ l b, join ps = l ++ [b] ∧ 33 ≤ b.toNat
  | [], h, _ => absurd rfl h
  | [x], _, h => by
    have hx := h x List.mem_cons_self
    have hne := clean_ne hx
    refine ⟨x.dropLast, x.getLast hne, ?_, (clean_at hx _ (List.getLast_mem hne)).1⟩
    rw [join, List.dropLast_concat_getLast]
  | x :: y :: r, _, h => by
    obtain ⟨l, b, e, hb⟩ := join_last (y :: r) (by simp) (fun p hp => h p (List.mem_cons_of_mem _ hp))
    exact ⟨x ++ 32 :: l, b, by rw [join, e]; simp, hb⟩
theorem shape_ne {i : In} {ps : List (List UInt8)} (h : Shape i ps) : ps ≠ [] := by cases h <;> simp
theorem prs_after {i : In} (h : chk i = true) : prs (txt i ++ [32]) = none := by
  cases hp : prs (txt i ++ [32]) with
  | none => rfl
  | some j =>
    obtain ⟨hc, ht⟩ := prs_sound hp
    obtain ⟨ps, hs, he⟩ := shape_of hc
    obtain ⟨l, b, e, hb⟩ := join_last ps (shape_ne hs) (shape_clean (chk_parts hc).1 hs)
    rw [ht, e] at he
    have := (List.append_inj' he rfl).2
    simp only [List.cons.injEq, and_true] at this
    subst this
    exact absurd hb (by decide)
theorem prs_before {i : In} (h : chk i = true) : prs (32 :: txt i) = none := by
  cases hp : prs (32 :: txt i) with
  | none => rfl
  | some j =>
    obtain ⟨hc, ht⟩ := prs_sound hp
    obtain ⟨ps, hs, he⟩ := shape_of hc
    obtain ⟨b, l, e, hb⟩ := join_head ps (shape_ne hs) (shape_clean (chk_parts hc).1 hs)
    rw [ht, e] at he
    simp only [List.cons.injEq] at he
    obtain ⟨rfl, _⟩ := he
    exact absurd hb (by decide)
theorem prs_wf {s : List UInt8} {i : In} (h : prs s = some i) : Wf i := by
  unfold prs at h
  split at h
  · cases h
  · split at h
    · simp only [Option.some.injEq] at h
      subst h
      exact rd_wf _
    · cases h
theorem prsI_none {s : List UInt8} (h : prs s = none) : prsI s = ⟨0, 0, 0, 0⟩ := by unfold prsI; rw [h]; rfl
theorem prsE_none {s : List UInt8} (h : prs s = none) : prsE s = 11 := by unfold prsE; rw [h]; rfl
theorem prsI_some {s : List UInt8} {i : In} (h : prs s = some i) : prsI s = i := by unfold prsI; rw [h]; rfl
theorem prsE_some {s : List UInt8} {i : In} (h : prs s = some i) : prsE s = 0 := by unfold prsE; rw [h]; rfl

/-- An instruction in a block of one's own. -/
structure Box (w : World) (B : Nat) (a b c d : Int) : Prop where
  size : B < w.heap.size
  c0 : w.cell? ⟨B, 0, none⟩ = some (.int .i64 a)
  c1 : w.cell? ⟨B, 1, none⟩ = some (.int .i64 b)
  c2 : w.cell? ⟨B, 2, none⟩ = some (.int .i64 c)
  c3 : w.cell? ⟨B, 3, none⟩ = some (.int .i64 d)
  fro : ∀ j, w.frozen? ⟨B, j, none⟩ = false
theorem Box.kp {w w' : World} {B : Nat} {a b c d : Int} (h : Box w B a b c d) (k : Kp w w') : Box w' B a b c d :=
  ⟨Nat.lt_of_lt_of_le h.size k.size, (k.cells _ _ h.size).trans h.c0, (k.cells _ _ h.size).trans h.c1, (k.cells _ _ h.size).trans h.c2, (k.cells _ _ h.size).trans h.c3, fun j => (k.fros _ _ h.size).trans (h.fro j)⟩
theorem Box.new (w : World) (a b c d : Int) : Box (w.alloc (.cells #[.int .i64 a, .int .i64 b, .int .i64 c, .int .i64 d] 55)) w.heap.size a b c d :=
  ⟨by simp, by simp, by simp, by simp, by simp, fun j => by simp⟩
theorem Box.far {w : World} {B B' : Nat} {a b c d : Int} (h : Box w B a b c d) (hB : B' ≠ B) (o : Nat) (v : Value) : Box (w.setCell ⟨B', o, none⟩ v) B a b c d :=
  ⟨by simpa using h.size, (World.cell?_setCell_other _ _ _ _ (fun e => hB (congrArg Addr.block e))).trans h.c0, (World.cell?_setCell_other _ _ _ _ (fun e => hB (congrArg Addr.block e))).trans h.c1, (World.cell?_setCell_other _ _ _ _ (fun e => hB (congrArg Addr.block e))).trans h.c2, (World.cell?_setCell_other _ _ _ _ (fun e => hB (congrArg Addr.block e))).trans h.c3, fun j => by rw [World.frozen?_setCell]; exact h.fro j⟩
theorem Box.set0 {w : World} {B : Nat} {a b c d : Int} (h : Box w B a b c d) (v : Int) : Box (w.setCell ⟨B, 0, none⟩ (.int .i64 v)) B v b c d :=
  ⟨by simpa using h.size, World.cell?_setCell_same _ _ _ h.c0, by rw [World.cell?_setCell_other (h := by simp)]; exact h.c1, by rw [World.cell?_setCell_other (h := by simp)]; exact h.c2, by rw [World.cell?_setCell_other (h := by simp)]; exact h.c3, fun j => by rw [World.frozen?_setCell]; exact h.fro j⟩
theorem Box.set1 {w : World} {B : Nat} {a b c d : Int} (h : Box w B a b c d) (v : Int) : Box (w.setCell ⟨B, 1, none⟩ (.int .i64 v)) B a v c d :=
  ⟨by simpa using h.size, by rw [World.cell?_setCell_other (h := by simp)]; exact h.c0, World.cell?_setCell_same _ _ _ h.c1, by rw [World.cell?_setCell_other (h := by simp)]; exact h.c2, by rw [World.cell?_setCell_other (h := by simp)]; exact h.c3, fun j => by rw [World.frozen?_setCell]; exact h.fro j⟩
theorem Box.set2 {w : World} {B : Nat} {a b c d : Int} (h : Box w B a b c d) (v : Int) : Box (w.setCell ⟨B, 2, none⟩ (.int .i64 v)) B a b v d :=
  ⟨by simpa using h.size, by rw [World.cell?_setCell_other (h := by simp)]; exact h.c0, by rw [World.cell?_setCell_other (h := by simp)]; exact h.c1, World.cell?_setCell_same _ _ _ h.c2, by rw [World.cell?_setCell_other (h := by simp)]; exact h.c3, fun j => by rw [World.frozen?_setCell]; exact h.fro j⟩
theorem Box.set3 {w : World} {B : Nat} {a b c d : Int} (h : Box w B a b c d) (v : Int) : Box (w.setCell ⟨B, 3, none⟩ (.int .i64 v)) B a b c v :=
  ⟨by simpa using h.size, by rw [World.cell?_setCell_other (h := by simp)]; exact h.c0, by rw [World.cell?_setCell_other (h := by simp)]; exact h.c1, by rw [World.cell?_setCell_other (h := by simp)]; exact h.c2, World.cell?_setCell_same _ _ _ h.c3, fun j => by rw [World.frozen?_setCell]; exact h.fro j⟩

def cnt (l : List UInt8) : Nat := (l.filter fun c => c == 32).length
theorem cnt_append (a b : List UInt8) : cnt (a ++ b) = cnt a + cnt b := by unfold cnt; rw [List.filter_append, List.length_append]
theorem cnt_le (l : List UInt8) : cnt l ≤ l.length := List.length_filter_le _ _
theorem cnt_one_yes {c : UInt8} (h : c = 32) : cnt [c] = 1 := by subst h; rfl
theorem cnt_one_no {c : UInt8} (h : c ≠ 32) : cnt [c] = 0 := by unfold cnt; simp [h]
theorem take_snoc (s : ByteArray) (k : Nat) (h : k < s.size) : s.data.toList.take (k + 1) = s.data.toList.take k ++ [s[k]] := by
  rw [List.take_succ_eq_append_getElem (by simpa using h)]; rfl
theorem cnt_clean {l : List UInt8} (h : clean l = true) : cnt l = 0 := by
  unfold cnt
  rw [List.length_eq_zero_iff, List.filter_eq_nil_iff]
  intro b hb
  have := clean_at h b hb
  intro e
  simp only [beq_iff_eq] at e
  subst e
  simp at this
theorem cnt_join : ∀ (ps : List (List UInt8)), (∀ p ∈ ps, clean p = true) → cnt (join ps) = ps.length - 1
  | [], _ => rfl
  | [x], h => by rw [join, cnt_clean (h x List.mem_cons_self)]; rfl
  | x :: y :: r, h => by
    have ih := cnt_join (y :: r) (fun p hp => h p (List.mem_cons_of_mem _ hp))
    rw [join, cnt_append, cnt_clean (h x List.mem_cons_self)]
    have e : cnt (32 :: join (y :: r)) = 1 + cnt (join (y :: r)) := by rw [show (32 :: join (y :: r)) = [32] ++ join (y :: r) from rfl, cnt_append]; rfl
    rw [e, ih]
    simp
    omega

/-- How many numbers an Op names. -/
def nK (op : Int) : Nat := if (rowAt op).c ≠ 0 then 3 else if (rowAt op).b ≠ 0 then 2 else if (rowAt op).a ≠ 0 then 1 else 0
theorem cnt_txt {i : In} (h : chk i = true) : cnt (txt i) = nK i.op := by
  obtain ⟨ps, hs, he⟩ := shape_of h
  rw [he, cnt_join ps (shape_clean (chk_parts h).1 hs)]
  unfold nK
  cases hs with
  | none h1 h2 h3 => rw [h1, h2, h3]; rfl
  | one h1 h2 h3 => rw [h2, h3, if_neg (by simp), if_neg (by simp), if_pos (by omega)]; rfl
  | two h1 h2 h3 => rw [h3, if_neg (by simp), if_pos (by omega)]; rfl
  | three h1 h2 h3 => rw [if_pos (by omega)]; rfl

theorem alw_neg {k : Int} (hk : 0 ≤ k ∧ k ≤ 8) : alw k (-1) = false := by
  have hk' : k = 0 ∨ k = 1 ∨ k = 2 ∨ k = 3 ∨ k = 4 ∨ k = 5 ∨ k = 6 ∨ k = 7 ∨ k = 8 := by omega
  rcases hk' with rfl | rfl | rfl | rfl | rfl | rfl | rfl | rfl | rfl <;> decide
theorem neg_a {op y z : Int} : chk ⟨op, -1, y, z⟩ = false := by
  unfold chk; simp only [alw_neg ⟨(kinds_in op).1.1, (kinds_in op).1.2⟩]; simp
theorem neg_b {op x z : Int} : chk ⟨op, x, -1, z⟩ = false := by
  unfold chk; simp only [alw_neg ⟨(kinds_in op).2.1.1, (kinds_in op).2.1.2⟩]; simp
theorem neg_c {op x y : Int} : chk ⟨op, x, y, -1⟩ = false := by
  unfold chk; simp only [alw_neg ⟨(kinds_in op).2.2.1.1, (kinds_in op).2.2.1.2⟩]; simp
theorem with_a {op x y z : Int} (h : chk ⟨op, x, y, z⟩ = true) (v : Int) : chk ⟨op, v, y, z⟩ = alw (rowAt op).a v := by
  obtain ⟨h1, _, h3, h4⟩ := chk_parts h
  simp only at h1 h3 h4
  unfold chk
  simp only [h3, h4]
  have : decide (1 ≤ op ∧ op ≤ 24) = true := by simpa using h1
  rw [this]
  simp
theorem with_b {op x y z : Int} (h : chk ⟨op, x, y, z⟩ = true) (v : Int) : chk ⟨op, x, v, z⟩ = alw (rowAt op).b v := by
  obtain ⟨h1, h2, _, h4⟩ := chk_parts h
  simp only at h1 h2 h4
  unfold chk
  simp only [h2, h4]
  have : decide (1 ≤ op ∧ op ≤ 24) = true := by simpa using h1
  rw [this]
  simp
theorem with_c {op x y z : Int} (h : chk ⟨op, x, y, z⟩ = true) (v : Int) : chk ⟨op, x, y, v⟩ = alw (rowAt op).c v := by
  obtain ⟨h1, h2, h3, _⟩ := chk_parts h
  simp only at h1 h2 h3
  unfold chk
  simp only [h2, h3]
  have : decide (1 ≤ op ∧ op ≤ 24) = true := by simpa using h1
  rw [this]
  simp
theorem num_fin : ∀ n : Fin 25, 1 ≤ n.val → (alw (rowAt n.val).a 1 = true ∧ alw (rowAt n.val).b 8 = false ∧ alw (rowAt n.val).c 8 = false ∧ nK n.val = 1) ∨ (alw (rowAt n.val).a 1 = false ∧ alw (rowAt n.val).a 0 = false ∧ alw (rowAt n.val).b 8 = false ∧ alw (rowAt n.val).c 8 = false ∧ nK n.val = 1) ∨
    (alw (rowAt n.val).a 1 = false ∧ alw (rowAt n.val).a 0 = true ∧ alw (rowAt n.val).b 8 = false ∧ alw (rowAt n.val).c 8 = false ∧ nK n.val = 0) ∨ (alw (rowAt n.val).a 1 = true ∧ alw (rowAt n.val).b 8 = true ∧ alw (rowAt n.val).c 8 = false ∧ nK n.val = 2) ∨
    (alw (rowAt n.val).a 1 = true ∧ alw (rowAt n.val).b 8 = true ∧ alw (rowAt n.val).c 8 = true ∧ nK n.val = 3) := by decide +kernel
theorem num_row {op : Int} (h : 1 ≤ op ∧ op ≤ 24) : (alw (rowAt op).a 1 = true ∧ alw (rowAt op).b 8 = false ∧ alw (rowAt op).c 8 = false ∧ nK op = 1) ∨ (alw (rowAt op).a 1 = false ∧ alw (rowAt op).a 0 = false ∧ alw (rowAt op).b 8 = false ∧ alw (rowAt op).c 8 = false ∧ nK op = 1) ∨
    (alw (rowAt op).a 1 = false ∧ alw (rowAt op).a 0 = true ∧ alw (rowAt op).b 8 = false ∧ alw (rowAt op).c 8 = false ∧ nK op = 0) ∨ (alw (rowAt op).a 1 = true ∧ alw (rowAt op).b 8 = true ∧ alw (rowAt op).c 8 = false ∧ nK op = 2) ∨
    (alw (rowAt op).a 1 = true ∧ alw (rowAt op).b 8 = true ∧ alw (rowAt op).c 8 = true ∧ nK op = 3) := by
  have := num_fin ⟨op.toNat, by omega⟩ (by simp; omega)
  simpa only [Int.toNat_of_nonneg (show 0 ≤ op by omega)] using this
/-- What an instruction pops and pushes does not depend on its first number, where each of 8 functions pops one word. -/
def oneN : Nat → Int := fun _ => 1
theorem ones_in (w : World) : IIn (w.alloc (.cells #[.int .i64 1, .int .i64 1, .int .i64 1, .int .i64 1, .int .i64 1, .int .i64 1, .int .i64 1, .int .i64 1] 3)) (some ⟨w.heap.size, 0, none⟩) oneN 8 := by
  refine .inr ⟨_, _, rfl, by simp, fun i hi => ?_⟩
  obtain rfl | rfl | rfl | rfl | rfl | rfl | rfl | rfl : i = 0 ∨ i = 1 ∨ i = 2 ∨ i = 3 ∨ i = 4 ∨ i = 5 ∨ i = 6 ∨ i = 7 := by omega
  all_goals simp [oneN]
def stepP (l : List (List UInt8)) (c : UInt8) : List (List UInt8) := if c = 32 then l ++ [[]] else l.dropLast ++ [l.getLastD [] ++ [c]]
/-- What stands between blanks. -/
def spl (t : List UInt8) : List (List UInt8) := t.foldl stepP [[]]
theorem stepP_yes {l : List (List UInt8)} {c : UInt8} (h : c = 32) : stepP l c = l ++ [[]] := by unfold stepP; rw [if_pos h]
theorem stepP_no {l : List (List UInt8)} {c : UInt8} (h : c ≠ 32) : stepP l c = l.dropLast ++ [l.getLastD [] ++ [c]] := by unfold stepP; rw [if_neg h]
/-- Pieces of at most k bytes, at least one, at most k + 1. -/
structure Okp (l : List (List UInt8)) (k : Nat) : Prop where
  pos : 1 ≤ l.length
  len : l.length ≤ k + 1
  each : ∀ p ∈ l, p.length ≤ k
theorem Okp.step {l : List (List UInt8)} {k : Nat} (h : Okp l k) (c : UInt8) : Okp (stepP l c) (k + 1) := by
  obtain ⟨h1, h2, h3⟩ := h
  unfold stepP
  split
  · refine ⟨by simp, by simp; omega, fun p hp => ?_⟩
    rw [List.mem_append] at hp
    rcases hp with hp | hp
    · have := h3 p hp; omega
    · simp at hp; subst hp; simp
  · refine ⟨by simp, by simp; omega, fun p hp => ?_⟩
    rw [List.mem_append] at hp
    rcases hp with hp | hp
    · have := h3 p (List.dropLast_subset _ hp); omega
    · simp at hp
      subst hp
      have hne : l ≠ [] := by intro e; subst e; simp at h1
      have hm : l.getLastD [] ∈ l := by
        rw [List.getLastD_eq_getLast?, List.getLast?_eq_some_getLast hne]
        exact List.getLast_mem hne
      have := h3 _ hm
      rw [List.length_append]
      simpa using this
theorem Okp.start : Okp [[]] 0 := ⟨by simp, by simp, by simp⟩
theorem last_at {l : List (List UInt8)} (h : 1 ≤ l.length) : l[l.length - 1]? = some (l.getLastD []) := by
  have hne : l ≠ [] := by intro e; subst e; simp at h
  rw [List.getLastD_eq_getLast?, ← List.getLast?_eq_getElem?, List.getLast?_eq_some_getLast hne]
  rfl
theorem strs_len (l : List (List UInt8)) : (strs l).length = l.length := by simp [strs]
theorem strs_snoc (l : List (List UInt8)) (y : List UInt8) : strs (l ++ [y]) = strs l ++ [.string (bytesOf y)] := by simp [strs]
theorem strs_last {l : List (List UInt8)} (h : 1 ≤ l.length) : (strs l)[l.length - 1]? = some (.string (bytesOf (l.getLastD []))) := by
  unfold strs; rw [List.getElem?_map, last_at h]; rfl
theorem strs_set {l : List (List UInt8)} (h : 1 ≤ l.length) (y : List UInt8) : (strs l).set (l.length - 1) (.string (bytesOf y)) = strs (l.dropLast ++ [y]) := by
  have hne : l ≠ [] := by intro e; subst e; simp at h
  have e : strs l = strs l.dropLast ++ [.string (bytesOf (l.getLast hne))] := by rw [← strs_snoc, List.dropLast_concat_getLast hne]
  rw [e, strs_snoc, List.set_append_right _ _ (by rw [strs_len, List.length_dropLast]; omega), strs_len, List.length_dropLast, Nat.sub_self]
  rfl


theorem own_slice {w : World} {B : Nat} {T : TypeId} {v : Value} {n : Nat} {xs : List Value} (h : w.ownsRow B T 1 v n xs) (hn : 0 < n) : ∃ A cap, v = .slice (some ⟨A, 0, none⟩) n cap := by
  obtain ⟨hlen, h | ⟨g, cap, cur, hv, _⟩⟩ := h
  · omega
  · exact ⟨g, cap, hv⟩
theorem byte_at (t : List UInt8) {k : Nat} (h : k < t.length) (h' : k < (bytesOf t).size) : (bytesOf t)[k]'h' = t[k] := by
  show (bytesOf t).data[k] = t[k]
  simp [bytesOf]
  rfl
theorem byte_one (t : List UInt8) {k : Nat} (h : k < t.length) : (bytesOf t).extract k (k + 1) = bytesOf [t[k]] := by
  apply ByteArray.ext
  rw [ByteArray.data_extract]
  apply Array.toList_inj.mp
  simp only [bytesOf, Array.toList_extract, List.extract]
  rw [show k + 1 - k = 1 by omega, List.drop_eq_getElem_cons h]
  rfl
theorem fold_step (t : List UInt8) {k : Nat} (h : k < t.length) : (t.take (k + 1)).foldl stepP [[]] = stepP ((t.take k).foldl stepP [[]]) t[k] := by
  rw [List.take_succ_eq_append_getElem h, List.foldl_append]; rfl

set_option maxHeartbeats 4000000 in
set_option maxRecDepth 100000 in
/-- pieces: what stands between blanks. -/
theorem pieces_any (t : List UInt8) (w : World) (ht : (bytesOf t).size ≤ 2 ^ 63 - 1) (hsm : t.length ≤ 2 ^ 40) : Calls Tryz.prog 57 #[.string (bytesOf t)] w (fun e w' => ∃ A cap, e = .returned (.slice (some ⟨A, 0, none⟩) (spl t).length cap) ∧ SIn w' (some ⟨A, 0, none⟩) (spl t) ∧ Kp w w') := by
  obtain ⟨i0, hi, hz0, hz1, hz2⟩ := info_parts info_string
  have hsz := bytesOf_size t
  go_enter Tryz.func57, Tryz.ntmps57
  go_wp2
  go_loopw [3, 4] (fun v i wr => ∃ k : Nat, k ≤ t.length ∧ i = .int .i64 k ∧ wr.ownsRow w.heap.size 9 1 v ((t.take k).foldl stepP [[]]).length (strs ((t.take k).foldl stepP [[]])) ∧ Okp ((t.take k).foldl stepP [[]]) k ∧ Kp w wr) (fun _ i _ => t.length + 1 - (intOf i).toNat)
  case atStart =>
    refine ⟨0, by omega, rfl, ?_, Okp.start, (Kp.refl w).alloc _ _⟩
    refine ⟨rfl, .inr ⟨w.heap.size, 1, #[.string (bytesOf [])], rfl, Nat.le_refl _, ?_, Nat.le_refl _, by decide, rfl, rfl⟩⟩
    exact Array.getElem?_push_size
  case round =>
    obtain ⟨k, hk, rfl, hown, hok, kr⟩ := hrel
    by_cases hlt : k < t.length
    · have hbs : k < (bytesOf t).size := by omega
      have hb := byte_at t hlt hbs
      have h1b := byte_one t hlt
      have htk := fold_step t hlt
      revert hown hok hb h1b htk
      generalize hL : (t.take k).foldl stepP [[]] = L
      generalize hcc : t[k] = c
      intro hown hok hb h1b htk
      obtain ⟨A, cap, rfl⟩ := own_slice hown hok.pos
      have h1l := hok.pos
      have h2l := hok.len
      by_cases hc : c = 32
      · have hq : ((((bytesOf t)[k]'hbs).toNat : Int) == 32) = true := by rw [hb, hc]; rfl
        rw [stepP_yes hc] at htk
        clear hb h1b
        go_wp2_with (at_builtin; refine wpList_append_own _ rfl _ _ 45 rfl w.heap.size 9 i0 (.string ByteArray.empty) 1 16 Tryz.underlying45 hi hz0 hz1 hz2 rfl (by decide) _ _ _ rfl (hown.alloc _) ⟨wr.heap.size, 0, none⟩ 1 1 [.string (bytesOf [])] rfl rfl ?c1 ?c2 ?c3 ?c4 ?c5 ?_)
        case c1 =>
          intro j u hj
          match j, hj with
          | 0, hj => simp at hj; subst hj; simp [Addr.add]; rfl
        case c2 => intro u hu; simp at hu; subst hu; rfl
        case c3 => unfold maxLen; omega
        case c4 => omega
        case c5 => have := kr.size; simp; omega
        intro v' w3 hown' hgrow _
        have hk3 : Kp w w3 := ⟨(kr.alloc _ _).below.grown hgrow (by have := kr.size; simp; omega) (fun q hq => (hown.lt q hq).1)⟩
        rw [← strs_snoc] at hown'
        have hown3 : w3.ownsRow w.heap.size 9 1 v' ((t.take (k + 1)).foldl stepP [[]]).length (strs ((t.take (k + 1)).foldl stepP [[]])) := by
          rw [htk, List.length_append]; exact hown'
        have hok3 := hok.step c
        rw [stepP_yes hc, ← htk] at hok3
        clear hown' hgrow hown htk
        go_wp2
        go_roundw
        case rel => exact ⟨k + 1, by omega, by go_num, hown3, hok3, hk3⟩
        case measure => simp [intOf]; omega
      · have hq : ((((bytesOf t)[k]'hbs).toNat : Int) == 32) = false := by
          rw [hb, beq_eq_false_iff_ne]
          intro e
          exact hc (UInt8.toNat_inj.mp (by have : c.toNat = 32 := by omega
                                           rw [this]; rfl))
        rw [stepP_no hc] at htk
        have hfr := hown.frozenAt (L.length - 1)
        have hce := hown.cellAt (L.length - 1) (by omega)
        rw [strs_last h1l] at hce
        have hok3 := hok.step c
        have hyl : (bytesOf (L.getLastD [])).size ≤ 2 ^ 40 := by
          have := hok.each _ (List.mem_of_getElem? (last_at h1l))
          rw [bytesOf_size]; omega
        have hA := (hown.lt A rfl).1
        have hstore := fun y' => ((own_kp hown ((Kp.refl wr).drew)).stored (L.length - 1) (.string (bytesOf y'))).1
        simp only [strs_set h1l] at hstore
        have hbel := fun u => kr.drew.setCell (p := ⟨A, L.length - 1, none⟩) hA u
        rw [stepP_no hc, ← htk] at hok3
        revert hce hyl hok3 htk
        generalize L.getLastD [] = y
        intro htk hce hok3 hyl
        have h1s : (bytesOf [c]).size = 1 := bytesOf_size _
        have HS := Lib.hid hstore
        have HK := Lib.hid htk
        have HP := Lib.hid hok3
        have HB := Lib.hid hbel
        clear hb hok hok3 hstore htk hown hbel
        go_wp2_with fail
        go_region
        go_wp2
        go_roundw
        case rel =>
          refine ⟨k + 1, by omega, by go_num, ?_, HP.out, HB.out _⟩
          rw [HK.out, List.length_append, List.length_dropLast]
          simp only [List.length_singleton, Nat.sub_add_cancel h1l]
          have e : bytesOf y ++ bytesOf [c] = bytesOf (y ++ [c]) := bytesOf_append _ _
          rw [e]
          exact HS.out _
        case measure => simp [intOf]; omega
    · obtain rfl : k = t.length := by omega
      rw [List.take_length] at hown hok
      obtain ⟨A, cap, rfl, hs⟩ := own_texts' hown hok.pos
      go_wp2
      go_ret
      exact ⟨A, cap, rfl, hs, kr⟩
end Co
end Go.Proofs.YtaeblnlbelebkaaGreatDoor
