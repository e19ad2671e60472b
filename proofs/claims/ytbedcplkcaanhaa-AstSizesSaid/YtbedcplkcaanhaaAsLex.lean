/-
  WALKS: package lex: is a text a word, a keyword (cut out of stage 5's texts by a program). Own work.
-/
import Derived.Test.YtbedcplkcaanhaaRows
import Derived.WalkKit
import Derived.WalkSpells
import Derived.WalkLawsBesides
import Derived.Lib.Hide
import Derived.Deep.QuietTactic
import Derived.BigQuiet
import Derived.Maps.Own
import Derived.Maps.OwnSet
import Derived.StringKeys
import Derived.Deep.RegionHeld3
import Derived.Deep.RegionWith
import Derived.Deep.AppendLies
import Derived.Deep.RegionLaw
import Derived.Deep.MidRow
namespace Go.Proofs.Ytbedcplkcaanhaa
namespace Lx
open Go.RowKit Go Go.Maps Go.WideMaps
set_option linter.unusedVariables false

def isDg (b : UInt8) : Bool := decide (48 ≤ b.toNat) && decide (b.toNat ≤ 57)
def stW (b : UInt8) : Bool := (decide (97 ≤ b.toNat) && decide (b.toNat ≤ 122)) || b == 95
def inW (b : UInt8) : Bool := stW b || isDg b
/-- How many bytes at the head are of one sort. -/
def spn (p : UInt8 → Bool) (s : List UInt8) : Nat := (s.takeWhile p).length
def keyL : List (List UInt8) := [[115, 116, 97, 99, 107], [112, 111, 114, 116], [114, 101, 97, 100], [119, 114, 105, 116, 101], [98, 111, 116, 104], [102, 117, 110, 99], [109, 97, 105, 110], [111, 110], [112, 114, 105, 111], [105, 102], [101, 108, 115, 101], [119, 104, 105, 108, 101], [114, 101, 116, 117, 114, 110], [101, 110, 97, 98, 108, 101], [100, 105, 115, 97, 98, 108, 101], [108, 101, 118, 101, 108], [97, 116, 111, 109, 105, 99], [117, 56], [117, 49, 54], [117, 51, 50], [105, 51, 50]]
def kindW (w : List UInt8) : Int := if keyL.contains w then 2 else 1
def isWd (w : List UInt8) : Bool := match w with | [] => false | b :: _ => stW b && w.all inW
def kindA (w : List UInt8) : Int := if isWd w then kindW w else 0
def dig (b : UInt8) : Nat := if isDg b then b.toNat - 48 else b.toNat - 87
/-- The number that digits are. -/
def val (q : Nat) (ds : List UInt8) : Nat := ds.foldl (fun n b => n * q + dig b) 0
theorem spn_cons_t {p : UInt8 → Bool} {b : UInt8} {s : List UInt8} (h : p b = true) : spn p (b :: s) = spn p s + 1 := by
  unfold spn; rw [List.takeWhile_cons, if_pos h]; rfl
theorem spn_cons_f {p : UInt8 → Bool} {b : UInt8} {s : List UInt8} (h : p b = false) : spn p (b :: s) = 0 := by
  unfold spn; rw [List.takeWhile_cons, if_neg (by simp [h])]; rfl
theorem spn_nil (p : UInt8 → Bool) : spn p [] = 0 := rfl
theorem spn_all {p : UInt8 → Bool} : ∀ {s : List UInt8}, (∀ b ∈ s, p b = true) → spn p s = s.length
  | [], _ => rfl
  | b :: s, h => by rw [spn_cons_t (h b (by simp)), spn_all (fun x hx => h x (by simp [hx])), List.length_cons]
theorem all_spn (p : UInt8 → Bool) : ∀ s : List UInt8, ∀ b ∈ s.take (spn p s), p b = true
  | [], b, h => by simp [spn_nil] at h
  | a :: s, b, h => by
    cases e : p a with
    | true =>
      rw [spn_cons_t e, List.take_succ_cons, List.mem_cons] at h
      rcases h with rfl | h
      · exact e
      · exact all_spn p s b h
    | false => rw [spn_cons_f e] at h; simp at h
/-- Nothing that was there has turned. -/
structure Kp (w w' : World) : Prop where
  below : Below w.heap.size w w'
theorem Kp.refl (w : World) : Kp w w := ⟨Below.refl _ _⟩
theorem Kp.trans {a b c : World} (h : Kp a b) (k : Kp b c) : Kp a c := ⟨h.below.trans (k.below.mono h.below.size)⟩
theorem Kp.alloc {a w : World} (h : Kp a w) (c : Array Value) (t : TypeId) : Kp a (w.alloc (.cells c t)) := ⟨h.below.alloc h.below.size _⟩
theorem Kp.setCell {a w : World} (h : Kp a w) {p : Addr} (hp : a.heap.size ≤ p.block) (u : Value) : Kp a (w.setCell p u) := ⟨h.below.setCell hp u⟩
theorem Kp.drew {a w : World} (h : Kp a w) : Kp a w.drew := ⟨h.below.drew⟩
theorem Kp.drewN {a w : World} (h : Kp a w) (n : Nat) : Kp a (w.drewN n) := ⟨⟨h.below.os, h.below.tape, h.below.output, h.below.size, h.below.block⟩⟩
theorem Kp.size {w w' : World} (h : Kp w w') : w.heap.size ≤ w'.heap.size := h.below.size
theorem Kp.cell {w w' : World} (h : Kp w w') {p : Addr} (hp : p.block < w.heap.size) : w'.cell? p = w.cell? p := h.below.cell hp
theorem Kp.fro {w w' : World} (h : Kp w w') {p : Addr} (hp : p.block < w.heap.size) : w'.frozen? p = w.frozen? p := h.below.frozen hp
theorem Kp.cells {w w' : World} (h : Kp w w') : ∀ b o, b < w.heap.size → w'.cell? ⟨b, o, none⟩ = w.cell? ⟨b, o, none⟩ := fun b o hb => h.below.cell (p := ⟨b, o, none⟩) hb
theorem Kp.fros {w w' : World} (h : Kp w w') : ∀ b o, b < w.heap.size → w'.frozen? ⟨b, o, none⟩ = w.frozen? ⟨b, o, none⟩ := fun b o hb => h.below.frozen (p := ⟨b, o, none⟩) hb
theorem ret_int {k : IntKind} {a b : Int} (h : a = b) : Ending.returned (.int k a) = .returned (.int k b) := by rw [h]
theorem ret_bool {a b : Bool} (h : a = b) : Ending.returned (.bool a) = .returned (.bool b) := by rw [h]
def bytesOf (l : List UInt8) : ByteArray := ⟨l.toArray⟩
theorem bytesOf_size (l : List UInt8) : (bytesOf l).size = l.length := by simp [bytesOf, ByteArray.size]
theorem bytesOf_toList (l : List UInt8) : (bytesOf l).toList = l := by rw [ByteArray.toList_eq]; rfl
theorem kp_map (w : World) : Kp w (w.alloc (.map #[] 0)) := ⟨(Below.refl _ w).alloc (Nat.le_refl _) _⟩
theorem kp_grown {w w1 w2 : World} (k : Kp w w1) {row : Option Nat} (h : w1.grownBy w2 row) (hr : ∀ q, row = some q → w.heap.size ≤ q) : Kp w w2 :=
  ⟨k.below.trans ⟨h.os, h.tape, h.output, h.size, fun i hi => h.block i (Nat.lt_of_lt_of_le hi k.size) (fun e => by have := hr i e.symm; omega)⟩⟩
theorem lawS : Keyed Try.prog 9 := string_keyed Try.underlying9
theorem zeroU (w : World) : (zeroValue 150).run Try.prog w = .ok (.agg #[]) w := by kernel_rfl
/-- Block M is a map of at most n entries that says 't s' of each text s. -/
def MapU (w : World) (M n : Nat) (t : List UInt8 → Bool) : Prop := ∃ D : DataW Unit, w.ownsMap Try.prog 9 unitElem M n D ∧ IsMap D ∧ ∀ s : List UInt8, Maps.has D (.string s) = t s
theorem MapU.new (w : World) : MapU (w.alloc (.map #[] 0)) w.heap.size 0 (fun _ => false) :=
  ⟨.map [], World.ownsMap_made _ _ _ _, isMap_empty, fun x => rfl⟩
theorem MapU.kp {w w' : World} {M n : Nat} {t : List UInt8 → Bool} (h : MapU w M n t) (k : Kp w w') : MapU w' M n t := by
  obtain ⟨D, ho, hD, ht⟩ := h
  have hlt := ho.lt
  obtain ⟨es, clock, hb, F, hs, e⟩ := ho
  exact ⟨D, ⟨es, clock, (k.below.block M hlt).trans hb, F, hs, e⟩, hD, ht⟩
theorem MapU.lt {w : World} {M n : Nat} {t : List UInt8 → Bool} (h : MapU w M n t) : M < w.heap.size := by
  obtain ⟨D, ho, _⟩ := h
  exact ho.lt
/-- '_, is := m[s]', at the operation. -/
theorem mapU_look (w : World) {ops : Array Oper} {rest : List Oper} {o : Oper} {a : Act} {Q : Exit → Act → World → Prop}
    (hg : o.guard = none) (m x : Operand) (hop : o.op = Op.lookup 146 m x true) (M n : Nat) (t : List UInt8 → Bool) (hm : a.eval m = .map (some M)) (h : MapU w M n t) (s : List UInt8) (hx : a.eval x = .string (bytesOf s)) (hl : s.length ≤ maxLen) (b : Bool) (hb : t s = b)
    (hK : wpList Try.prog ops Q rest (a.put o.dst (.tuple #[.agg #[], .bool b])) w) :
    wpList Try.prog ops Q (o :: rest) a w := by
  obtain ⟨D, ho, hD, ht⟩ := h
  have hs : (bytesOf s).size ≤ maxLen := by rw [bytesOf_size]; exact hl
  refine wpList_lookup_own_unit w hg m x 146 hop 9 150 lawS Try.underlying146 (zeroU w) M n D hm ho _ (.string s) hx (keyOf_string_mk Try.underlying9 hs) ?_
  rw [ht s, hb]
  exact hK
/-- An entry of a literal, at the operation. -/
theorem mapU_put (w : World) {ops : Array Oper} {rest : List Oper} {o : Oper} {a : Act} {Q : Exit → Act → World → Prop}
    (hg : o.guard = none) (m x v : Operand) (hop : o.op = Op.insert 146 m x v) (M n : Nat) (l : List (List UInt8)) (hm : a.eval m = .map (some M)) (h : MapU w M n (fun s => l.contains s)) (hn : n < maxLen) (y : List UInt8) (hx : a.eval x = .string (bytesOf y)) (hy : y.length ≤ maxLen) (hv : a.eval v = .agg #[])
    (hK : ∀ w', MapU w' M (n + 1) (fun s => (l ++ [y]).contains s) → w.grownBy w' (some M) → wpList Try.prog ops Q rest (a.put o.dst undef) w') :
    wpList Try.prog ops Q (o :: rest) a w := by
  obtain ⟨D, ho, hD, ht⟩ := h
  have hs : (bytesOf y).size ≤ maxLen := by rw [bytesOf_size]; exact hy
  refine wpList_plain hg fun K' hK' => ?_
  obtain ⟨w', hrun, r1, r2⟩ := ho.update lawS Try.underlying146 hn (keyOf_string_mk Try.underlying9 hs) (unitElem_mk (H := Unit))
  unfold Oper.wp
  simp [execOp, hop, hm, hx, hv, hrun, Result.andThen]
  refine hK' _ _ (hK w' ⟨_, r1, hD.put _ _, fun s => ?_⟩ r2)
  by_cases e : s = y
  · subst e
    have := has_put_same hD (k := .string s) (by trivial) (.agg [])
    show Maps.has (D.put (.string s) (.agg [])) (.string s) = _
    rw [this]
    simp
  · have := has_put_other (D := D) (k := .string y) (k' := .string s) (by intro q; injection q with q; exact e q) (.agg [])
    show Maps.has (D.put (.string y) (.agg [])) (.string s) = _
    rw [this, ht s]
    simp [e]
theorem u8_all {P : UInt8 → Prop} (h : ∀ n : Fin 256, P (UInt8.ofNat n.val)) (b : UInt8) : P b := by
  have := h ⟨b.toNat, b.toNat_lt⟩
  have e : UInt8.ofNat b.toNat = b := by simp
  rwa [show ((⟨b.toNat, b.toNat_lt⟩ : Fin 256).val) = b.toNat from rfl, e] at this
theorem isDg_i : ∀ b : UInt8, isDg b = decide (48 ≤ (b.toNat : Int) ∧ (b.toNat : Int) ≤ 57) := u8_all (by decide +kernel)
theorem stW_i : ∀ b : UInt8, stW b = decide ((97 ≤ (b.toNat : Int) ∧ (b.toNat : Int) ≤ 122) ∨ (b.toNat : Int) = 95) := u8_all (by decide +kernel)
theorem u8_lo (b : UInt8) : (0 : Int) ≤ (b.toNat : Int) ∧ (b.toNat : Int) ≤ 255 := by have := b.toNat_lt; omega
/-- A function value that tells a sort of bytes. -/
def SrtC (F : FuncId) (p : UInt8 → Bool) : Prop := ∀ (b : UInt8) (w : World) (r : Bool), p b = r → Calls Try.prog F #[.int .u8 (b.toNat : Int)] w fun e w' => e = .returned (.bool r) ∧ w' = w
theorem isDigit_any : SrtC 96 isDg := by
  intro b w r hr
  rw [isDg_i] at hr
  obtain ⟨h0, h1⟩ := u8_lo b
  generalize (b.toNat : Int) = x at *
  have HR := Lib.hid hr
  clear hr
  by_cases a1 : 48 ≤ x
  all_goals
    go_enter Try.func96, Try.ntmps96
    go_wp2
    go_ret
    exact ⟨ret_bool (by rw [← HR.out]; rw [Bool.eq_iff_iff]; simp <;> omega), rfl⟩
theorem startsWord_any : SrtC 93 stW := by
  intro b w r hr
  rw [stW_i] at hr
  obtain ⟨h0, h1⟩ := u8_lo b
  generalize (b.toNat : Int) = x at *
  have HR := Lib.hid hr
  clear hr
  by_cases a1 : 97 ≤ x
  · by_cases a2 : x ≤ 122
    all_goals
      go_enter Try.func93, Try.ntmps93
      go_wp2
      go_ret
      exact ⟨ret_bool (by rw [← HR.out]; rw [Bool.eq_iff_iff]; simp <;> omega), rfl⟩
  · go_enter Try.func93, Try.ntmps93
    go_wp2
    go_ret
    exact ⟨ret_bool (by rw [← HR.out]; rw [Bool.eq_iff_iff]; simp <;> omega), rfl⟩
theorem inWord_any : SrtC 95 inW := by
  intro b w r hr
  unfold inW at hr
  have HR := Lib.hid hr
  clear hr
  cases h1 : stW b <;> cases h2 : isDg b
  all_goals
    have H1 := Lib.hid h1
    have H2 := Lib.hid h2
    clear h1 h2
    go_enter Try.func95, Try.ntmps95
    go_wp2_with (first
      | (go_at_call 93; refine (startsWord_any b _ _ H1.out).mono ?_; rintro e w1 ⟨rfl, rfl⟩)
      | (go_at_call 96; refine (isDigit_any b _ _ H2.out).mono ?_; rintro e w1 ⟨rfl, rfl⟩))
    go_ret
    exact ⟨ret_bool (by rw [← HR.out, H1.out, H2.out]; rfl), rfl⟩
/-- .. that may be handed over as a value. -/
structure Srt (F : FuncId) (p : UInt8 → Bool) : Prop where
  call : SrtC F p
  ent : ∀ (args : Array Value) (w : World), Sem.run Try.prog (callFunc F args) w = .ok (.enter F args) w
theorem inWordS : Srt 95 inW := ⟨inWord_any, fun _ _ => by kernel_rfl⟩
theorem byte_at (s : List UInt8) (k : Nat) (h : k < (bytesOf s).size) (h2 : k < s.length) : (bytesOf s)[k] = s[k] := by
  show (bytesOf s).data[k] = s[k]
  rfl
theorem spn_stop {p : UInt8 → Bool} : ∀ {s : List UInt8} {k : Nat} (hk : k < s.length), (∀ j (hj : j < s.length), j < k → p s[j] = true) → p s[k] = false → spn p s = k
  | [], k, hk, _, _ => absurd hk (Nat.not_lt_zero _)
  | b :: s, 0, _, _, h => spn_cons_f h
  | b :: s, k + 1, hk, h, hf => by
    have h0 := h 0 (by simp) (by omega)
    rw [spn_cons_t (show p b = true from h0), spn_stop (s := s) (k := k) (by simpa using hk) (fun j hj hjk => h (j + 1) (by simp; omega) (by omega)) hf]
set_option maxRecDepth 100000 in
theorem span_any {F : FuncId} {p : UInt8 → Bool} (hF : Srt F p) (s : List UInt8) (hl : s.length ≤ 4611686018427387904) (w : World) (n : Nat) (hn : spn p s = n) :
    Calls Try.prog 94 #[.string (bytesOf s), .func (.func F) #[] #[]] w fun e w' => e = .returned (.int .i64 n) ∧ w' = w := by
  have hsz : (bytesOf s).size = s.length := bytesOf_size s
  have HZ := Lib.hid hsz
  have hm : ((bytesOf s).size : Int) ≤ 4611686018427387904 := by rw [hsz]; omega
  have HN := Lib.hid hn
  have hent := hF.ent
  have HC := Lib.hid hF.call
  clear hsz hn hl hF
  go_enter Try.func94, Try.ntmps94
  go_wp2_with fail
  go_loop [8] (fun i => ∃ k : Nat, k ≤ (bytesOf s).size ∧ i = .int .i64 k ∧ Hid (∀ j (hj : j < s.length), j < k → p s[j] = true)) (fun i => (bytesOf s).size - (intOf i).toNat)
  case atStart => exact ⟨0, Nat.zero_le _, rfl, Lib.hid (fun j hj h => absurd h (Nat.not_lt_zero _))⟩
  case round =>
    obtain ⟨k, hk, rfl, hall⟩ := hrel
    by_cases hlt : k < (bytesOf s).size
    · have hb := byte_at s k hlt (by rw [← HZ.out]; exact hlt)
      cases hp : p (bytesOf s)[k]
      · have HP := Lib.hid hp
        have HB := Lib.hid hb
        clear hp hb
        go_wp2_with fail
        refine (HC.out (bytesOf s)[k] _ _ HP.out).mono ?_
        rintro e w1 ⟨rfl, rfl⟩
        go_wp2
        go_ret
        exact ⟨ret_int (by rw [← HN.out, spn_stop (k := k) (by rw [← HZ.out]; exact hlt) hall.out (by rw [← HB.out]; exact HP.out)]), rfl⟩
      · have HP := Lib.hid hp
        have HB := Lib.hid hb
        clear hp hb
        go_wp2_with fail
        refine (HC.out (bytesOf s)[k] _ _ HP.out).mono ?_
        rintro e w1 ⟨rfl, rfl⟩
        go_wp2
        go_round
        case rel => exact ⟨k + 1, by omega, by go_num, Lib.hid (fun j hj h => by
          by_cases e : j = k
          · subst e; rw [← HB.out]; exact HP.out
          · exact hall.out j hj (by omega))⟩
        case measure => simp [intOf]; omega
    · have e : (bytesOf s).size = n := by
        rw [HZ.out, ← HN.out]
        exact (spn_all (fun b hb => by
          obtain ⟨j, hj, rfl⟩ := List.getElem_of_mem hb
          exact hall.out j hj (by have := HZ.out; omega))).symm
      have HEE := Lib.hid e
      clear e
      go_wp2
      go_ret
      exact ⟨ret_int (by rw [HEE.out]), rfl⟩
theorem Kp.down {w w' : World} (h : Kp w w') {R : Nat} (hR : R ≤ w.heap.size) : Below R w w' := h.below.mono hR
theorem MapU.below {B : Nat} {w w' : World} {M n : Nat} {t : List UInt8 → Bool} (h : MapU w M n t) (k : Below B w w') (hM : M < B) : MapU w' M n t := by
  obtain ⟨D, ho, hD, ht⟩ := h
  obtain ⟨es, clock, hb, F, hs, e⟩ := ho
  exact ⟨D, ⟨es, clock, (k.block M hM).trans hb, F, hs, e⟩, hD, ht⟩
/-- between: what stands at the head. -/
theorem first_byte {b : UInt8} {q : List UInt8} : ∀ h : 0 < (bytesOf (b :: q)).size, (bytesOf (b :: q))[0]'h = b := fun _ => rfl
/-- A list of texts as a set. -/
def kset (l : List (List UInt8)) : List UInt8 → Bool := fun s => l.contains s
theorem mapK_put (w : World) {ops : Array Oper} {rest : List Oper} {o : Oper} {a : Act} {Q : Exit → Act → World → Prop}
    (hg : o.guard = none) (m x v : Operand) (hop : o.op = Op.insert 146 m x v) (M n : Nat) (l l' : List (List UInt8)) (hm : a.eval m = .map (some M)) (h : MapU w M n (kset l)) (hn : n < maxLen) (y : List UInt8) (hl : l ++ [y] = l') (hx : a.eval x = .string (bytesOf y)) (hy : y.length ≤ maxLen) (hv : a.eval v = .agg #[])
    (hK : ∀ w', MapU w' M (n + 1) (kset l') → w.grownBy w' (some M) → wpList Try.prog ops Q rest (a.put o.dst undef) w') :
    wpList Try.prog ops Q (o :: rest) a w :=
  mapU_put w hg m x v hop M n l hm h hn y hx hy hv (fun w' h1 h2 => hK w' (by rw [hl] at h1; exact h1) h2)
set_option maxHeartbeats 4000000 in
set_option maxRecDepth 100000 in
theorem keywords_any (w : World) :
    Calls Try.prog 92 #[] w fun e w' => e = .returned (.map (some w.heap.size)) ∧ MapU w' w.heap.size 21 (fun s => keyL.contains s) ∧ Kp w w' := by
  have hmm := @run_makeMap Try.prog
  have h0' := MapU.new w
  have h0 : MapU (w.alloc (.map #[] 0)) w.heap.size 0 (kset (keyL.take 0)) := h0'
  have k0 := kp_map w
  clear h0'
  go_enter Try.func92, Try.ntmps92
  go_wp2_with (refine mapK_put _ rfl _ _ _ rfl w.heap.size 0 (keyL.take 0) (keyL.take 1) rfl h0 (by decide) [115, 116, 97, 99, 107] (by rfl) rfl (by decide) rfl ?_)
  intro w1 h1 g1
  have k1 : Kp w w1 := kp_grown k0 g1 (fun q hq => by cases hq; exact Nat.le_refl _)
  clear g1 k0 h0
  go_wp2_with (refine mapK_put _ rfl _ _ _ rfl w.heap.size 1 (keyL.take 1) (keyL.take 2) rfl h1 (by decide) [112, 111, 114, 116] (by rfl) rfl (by decide) rfl ?_)
  intro w2 h2 g2
  have k2 : Kp w w2 := kp_grown k1 g2 (fun q hq => by cases hq; exact Nat.le_refl _)
  clear g2 k1 h1
  go_wp2_with (refine mapK_put _ rfl _ _ _ rfl w.heap.size 2 (keyL.take 2) (keyL.take 3) rfl h2 (by decide) [114, 101, 97, 100] (by rfl) rfl (by decide) rfl ?_)
  intro w3 h3 g3
  have k3 : Kp w w3 := kp_grown k2 g3 (fun q hq => by cases hq; exact Nat.le_refl _)
  clear g3 k2 h2
  go_wp2_with (refine mapK_put _ rfl _ _ _ rfl w.heap.size 3 (keyL.take 3) (keyL.take 4) rfl h3 (by decide) [119, 114, 105, 116, 101] (by rfl) rfl (by decide) rfl ?_)
  intro w4 h4 g4
  have k4 : Kp w w4 := kp_grown k3 g4 (fun q hq => by cases hq; exact Nat.le_refl _)
  clear g4 k3 h3
  go_wp2_with (refine mapK_put _ rfl _ _ _ rfl w.heap.size 4 (keyL.take 4) (keyL.take 5) rfl h4 (by decide) [98, 111, 116, 104] (by rfl) rfl (by decide) rfl ?_)
  intro w5 h5 g5
  have k5 : Kp w w5 := kp_grown k4 g5 (fun q hq => by cases hq; exact Nat.le_refl _)
  clear g5 k4 h4
  go_wp2_with (refine mapK_put _ rfl _ _ _ rfl w.heap.size 5 (keyL.take 5) (keyL.take 6) rfl h5 (by decide) [102, 117, 110, 99] (by rfl) rfl (by decide) rfl ?_)
  intro w6 h6 g6
  have k6 : Kp w w6 := kp_grown k5 g6 (fun q hq => by cases hq; exact Nat.le_refl _)
  clear g6 k5 h5
  go_wp2_with (refine mapK_put _ rfl _ _ _ rfl w.heap.size 6 (keyL.take 6) (keyL.take 7) rfl h6 (by decide) [109, 97, 105, 110] (by rfl) rfl (by decide) rfl ?_)
  intro w7 h7 g7
  have k7 : Kp w w7 := kp_grown k6 g7 (fun q hq => by cases hq; exact Nat.le_refl _)
  clear g7 k6 h6
  go_wp2_with (refine mapK_put _ rfl _ _ _ rfl w.heap.size 7 (keyL.take 7) (keyL.take 8) rfl h7 (by decide) [111, 110] (by rfl) rfl (by decide) rfl ?_)
  intro w8 h8 g8
  have k8 : Kp w w8 := kp_grown k7 g8 (fun q hq => by cases hq; exact Nat.le_refl _)
  clear g8 k7 h7
  go_wp2_with (refine mapK_put _ rfl _ _ _ rfl w.heap.size 8 (keyL.take 8) (keyL.take 9) rfl h8 (by decide) [112, 114, 105, 111] (by rfl) rfl (by decide) rfl ?_)
  intro w9 h9 g9
  have k9 : Kp w w9 := kp_grown k8 g9 (fun q hq => by cases hq; exact Nat.le_refl _)
  clear g9 k8 h8
  go_wp2_with (refine mapK_put _ rfl _ _ _ rfl w.heap.size 9 (keyL.take 9) (keyL.take 10) rfl h9 (by decide) [105, 102] (by rfl) rfl (by decide) rfl ?_)
  intro w10 h10 g10
  have k10 : Kp w w10 := kp_grown k9 g10 (fun q hq => by cases hq; exact Nat.le_refl _)
  clear g10 k9 h9
  go_wp2_with (refine mapK_put _ rfl _ _ _ rfl w.heap.size 10 (keyL.take 10) (keyL.take 11) rfl h10 (by decide) [101, 108, 115, 101] (by rfl) rfl (by decide) rfl ?_)
  intro w11 h11 g11
  have k11 : Kp w w11 := kp_grown k10 g11 (fun q hq => by cases hq; exact Nat.le_refl _)
  clear g11 k10 h10
  go_wp2_with (refine mapK_put _ rfl _ _ _ rfl w.heap.size 11 (keyL.take 11) (keyL.take 12) rfl h11 (by decide) [119, 104, 105, 108, 101] (by rfl) rfl (by decide) rfl ?_)
  intro w12 h12 g12
  have k12 : Kp w w12 := kp_grown k11 g12 (fun q hq => by cases hq; exact Nat.le_refl _)
  clear g12 k11 h11
  go_wp2_with (refine mapK_put _ rfl _ _ _ rfl w.heap.size 12 (keyL.take 12) (keyL.take 13) rfl h12 (by decide) [114, 101, 116, 117, 114, 110] (by rfl) rfl (by decide) rfl ?_)
  intro w13 h13 g13
  have k13 : Kp w w13 := kp_grown k12 g13 (fun q hq => by cases hq; exact Nat.le_refl _)
  clear g13 k12 h12
  go_wp2_with (refine mapK_put _ rfl _ _ _ rfl w.heap.size 13 (keyL.take 13) (keyL.take 14) rfl h13 (by decide) [101, 110, 97, 98, 108, 101] (by rfl) rfl (by decide) rfl ?_)
  intro w14 h14 g14
  have k14 : Kp w w14 := kp_grown k13 g14 (fun q hq => by cases hq; exact Nat.le_refl _)
  clear g14 k13 h13
  go_wp2_with (refine mapK_put _ rfl _ _ _ rfl w.heap.size 14 (keyL.take 14) (keyL.take 15) rfl h14 (by decide) [100, 105, 115, 97, 98, 108, 101] (by rfl) rfl (by decide) rfl ?_)
  intro w15 h15 g15
  have k15 : Kp w w15 := kp_grown k14 g15 (fun q hq => by cases hq; exact Nat.le_refl _)
  clear g15 k14 h14
  go_wp2_with (refine mapK_put _ rfl _ _ _ rfl w.heap.size 15 (keyL.take 15) (keyL.take 16) rfl h15 (by decide) [108, 101, 118, 101, 108] (by rfl) rfl (by decide) rfl ?_)
  intro w16 h16 g16
  have k16 : Kp w w16 := kp_grown k15 g16 (fun q hq => by cases hq; exact Nat.le_refl _)
  clear g16 k15 h15
  go_wp2_with (refine mapK_put _ rfl _ _ _ rfl w.heap.size 16 (keyL.take 16) (keyL.take 17) rfl h16 (by decide) [97, 116, 111, 109, 105, 99] (by rfl) rfl (by decide) rfl ?_)
  intro w17 h17 g17
  have k17 : Kp w w17 := kp_grown k16 g17 (fun q hq => by cases hq; exact Nat.le_refl _)
  clear g17 k16 h16
  go_wp2_with (refine mapK_put _ rfl _ _ _ rfl w.heap.size 17 (keyL.take 17) (keyL.take 18) rfl h17 (by decide) [117, 56] (by rfl) rfl (by decide) rfl ?_)
  intro w18 h18 g18
  have k18 : Kp w w18 := kp_grown k17 g18 (fun q hq => by cases hq; exact Nat.le_refl _)
  clear g18 k17 h17
  go_wp2_with (refine mapK_put _ rfl _ _ _ rfl w.heap.size 18 (keyL.take 18) (keyL.take 19) rfl h18 (by decide) [117, 49, 54] (by rfl) rfl (by decide) rfl ?_)
  intro w19 h19 g19
  have k19 : Kp w w19 := kp_grown k18 g19 (fun q hq => by cases hq; exact Nat.le_refl _)
  clear g19 k18 h18
  go_wp2_with (refine mapK_put _ rfl _ _ _ rfl w.heap.size 19 (keyL.take 19) (keyL.take 20) rfl h19 (by decide) [117, 51, 50] (by rfl) rfl (by decide) rfl ?_)
  intro w20 h20 g20
  have k20 : Kp w w20 := kp_grown k19 g20 (fun q hq => by cases hq; exact Nat.le_refl _)
  clear g20 k19 h19
  go_wp2_with (refine mapK_put _ rfl _ _ _ rfl w.heap.size 20 (keyL.take 20) (keyL.take 21) rfl h20 (by decide) [105, 51, 50] (by rfl) rfl (by decide) rfl ?_)
  intro w21 h21 g21
  have k21 : Kp w w21 := kp_grown k20 g21 (fun q hq => by cases hq; exact Nat.le_refl _)
  clear g21 k20 h20
  go_wp2
  go_ret
  exact ⟨rfl, h21, k21⟩
theorem kindOf_any {w : World} {M : Nat} (hM : MapU w M 21 (fun s => keyL.contains s)) (s : List UInt8) (hl : s.length ≤ 1000000000000000000) (k : Int) (hk : kindW s = k) :
    Calls Try.prog 91 #[.string (bytesOf s), .map (some M)] w fun e w' => e = .returned (.int .i64 k) ∧ Kp w w' := by
  unfold kindW at hk
  cases hb : keyL.contains s
  all_goals
    rw [hb] at hk
    have HK := Lib.hid hk
    have HB := Lib.hid hb
    clear hk hb
    go_enter Try.func91, Try.ntmps91
    go_wp2_with (at_lookup; refine mapU_look _ rfl _ _ rfl M 21 _ rfl hM s rfl (by unfold maxLen; omega) _ HB.out ?_)
    go_wp2
    go_ret
    exact ⟨ret_int (by rw [← HK.out]; rfl), (Kp.refl w).alloc _ _⟩
set_option maxHeartbeats 4000000 in
set_option maxRecDepth 100000 in
theorem isWord_any (s : List UInt8) (hl : s.length ≤ 1000000000000000000) (w : World) (r : Bool) (hr : isWd s = r) :
    Calls Try.prog 90 #[.string (bytesOf s)] w fun e w' => e = .returned (.bool r) ∧ w' = w := by
  cases s with
  | nil =>
    have he : (bytesOf []).toList.isEmpty = true := by rw [bytesOf_toList]; rfl
    have HR := Lib.hid hr
    clear hr hl
    go_enter Try.func90, Try.ntmps90
    go_wp2
    go_ret
    exact ⟨ret_bool (by rw [← HR.out]; rfl), rfl⟩
  | cons b q =>
    have he : (bytesOf (b :: q)).toList.isEmpty = false := by rw [bytesOf_toList]; rfl
    have hs0 : 0 < (bytesOf (b :: q)).size := by rw [bytesOf_size]; simp
    have hs1 : (0 : Int) < ((bytesOf (b :: q)).size : Int) := by omega
    have hb0 := first_byte (b := b) (q := q) hs0
    obtain ⟨n, hn⟩ : ∃ n, spn inW (b :: q) = n := ⟨_, rfl⟩
    have H2 : Hid (∀ W, Calls Try.prog 94 #[.string (bytesOf (b :: q)), .func (.func 95) #[] #[]] W fun e w' => e = .returned (.int .i64 n) ∧ w' = W) := Lib.hid (fun W => span_any inWordS _ (by omega) W n hn)
    have hall : ((b :: q).all inW = true ↔ n = (b :: q).length) := by
      rw [List.all_eq_true, ← hn]
      constructor
      · exact fun h => spn_all h
      · intro h x hx
        have := all_spn inW (b :: q) x
        rw [h, List.take_length] at this
        exact this hx
    have hsz : (bytesOf (b :: q)).size = (b :: q).length := bytesOf_size _
    have hr2 : (stW b && (b :: q).all inW) = r := hr
    have hz : ((n : Int) == ((bytesOf (b :: q)).size : Int)) = (b :: q).all inW := by
      rw [Bool.eq_iff_iff, hall, hsz]
      simp
      omega
    obtain ⟨zs, hzs⟩ : ∃ z, stW b = z := ⟨_, rfl⟩
    have HST : Hid (stW ((bytesOf (b :: q))[0]'hs0) = zs) := Lib.hid ((congrArg stW hb0).trans hzs)
    rw [hzs] at hr2
    have HR := Lib.hid hr2
    have HZ := Lib.hid hz
    generalize (b :: q).all inW = za at *
    clear hall hsz hr2 hr hzs hb0 hn hl
    generalize bytesOf (b :: q) = BS at *
    cases zs <;> cases za
    all_goals
      have hz := HZ.out
      go_enter Try.func90, Try.ntmps90
      go_wp2_with (first
        | (go_at_call 93; refine (startsWord_any BS[0] _ _ HST.out).mono ?_; rintro e w2 ⟨rfl, rfl⟩)
        | (go_at_call 94; refine (H2.out _).mono ?_; rintro e w2 ⟨rfl, rfl⟩))
      go_ret
      exact ⟨ret_bool (by rw [← HR.out]; rfl), rfl⟩
set_option maxHeartbeats 4000000 in
set_option maxRecDepth 100000 in
theorem Kind_any (s : List UInt8) (hl : s.length ≤ 1000000000000000000) (w : World) (k : Int) (hk : kindA s = k) :
    Calls Try.prog 85 #[.string (bytesOf s)] w fun e w' => e = .returned (.int .i64 k) ∧ Kp w w' := by
  unfold kindA at hk
  have HL := Lib.hid hl
  cases hw : isWd s
  · rw [hw] at hk
    have HK := Lib.hid hk
    have HW := Lib.hid hw
    clear hk hw hl
    go_enter Try.func85, Try.ntmps85
    go_wp2_with (go_at_call 90; refine (isWord_any s HL.out _ _ HW.out).mono ?_; rintro e w2 ⟨rfl, rfl⟩)
    go_ret
    exact ⟨ret_int (by rw [← HK.out]; rfl), Kp.refl _⟩
  · rw [hw] at hk
    have HK : Hid (kindW s = k) := Lib.hid (by simpa using hk)
    have HW := Lib.hid hw
    clear hk hw hl
    go_enter Try.func85, Try.ntmps85
    go_wp2_with (first
      | (go_at_call 90; refine (isWord_any s HL.out _ _ HW.out).mono ?_; rintro e w2 ⟨rfl, rfl⟩)
      | (go_at_call 92; refine (keywords_any _).mono ?_; rintro e w3 ⟨rfl, hM, k3⟩)
      | (go_at_call 91; refine (kindOf_any hM s HL.out _ HK.out).mono ?_; rintro e w4 ⟨rfl, k4⟩))
    go_ret
    exact ⟨rfl, k3.trans k4⟩
end Lx
end Go.Proofs.Ytbedcplkcaanhaa
