/-
  WALKS: package ast: is one statement what its kind is, its parts aside. Own work.
-/
import Derived.Test.YtbedcplkcaanhaaAsOne
import Derived.Test.YtbedcplkcaanhaaAsValid
import Derived.Test.YtbedcplkcaanhaaAsMemS
import Derived.Laws.StructEq
namespace Go.Proofs.Ytbedcplkcaanhaa
namespace As
open Go.RowKit Go Rg Go.Shelf
set_option linter.unusedVariables false

theorem sf_st : Try.prog.underlying 125 = some (.struct (Try.prog.fieldsOf 125)) := by kernel_rfl
theorem sf_hd : Try.prog.stoodInHeld 125 = false := by kernel_rfl
theorem sf_eq (k t n : Int) (s : ByteArray) (a i e h l k' t' n' : Int) (s' : ByteArray) (a' i' e' h' l' : Int) (b : Bool) (hh : (k = k' ∧ t = t' ∧ n = n' ∧ s.toList = s'.toList ∧ a = a' ∧ i = i' ∧ e = e' ∧ h = h' ∧ l = l') ↔ b = true) (w : World) :
    (binOp .eql 125 (.agg #[.int .i64 k, .int .i64 t, .int .i64 n, .string s, .int .i64 a, .int .i64 i, .int .i64 e, .int .i64 h, .int .i64 l]) (.agg #[.int .i64 k', .int .i64 t', .int .i64 n', .string s', .int .i64 a', .int .i64 i', .int .i64 e', .int .i64 h', .int .i64 l'])).run Try.prog w = .ok (.bool b) w := by
  have hu := Try.underlying125
  have hint := Try.underlying3
  have hstr := Try.underlying9
  rw [run_eql_struct, run_equalIn_agg w 9999 _ _ _ sf_st sf_hd]
  generalize hx : s.toList = x at *
  generalize hy : s'.toList = y at *
  cases b with
  | true =>
    obtain ⟨rfl, rfl, rfl, rfl, rfl, rfl, rfl, rfl, rfl⟩ := hh.2 rfl
    simp [Op.eqFields, Program.fieldsOf, hu, hint, hstr, go_sem, hx, hy]
  | false =>
    have q := mt hh.1 (by decide)
    simp [Op.eqFields, Program.fieldsOf, hu, hint, hstr, go_sem, hx, hy]
    intro a0 a1 a2 a3 a4 a5 a6 a7 a8
    exact q ⟨a0, a1, a2, a3, a4, a5, a6, a7, a8⟩
theorem fields_s (k li t n : Int) (s : ByteArray) (na ia ea ta la : Option Addr) (nn nc i ic e ec th tc el lc : Nat) (w : World) :
    Calls Try.prog 69 #[.agg #[.int .i64 k, .int .i64 li, .int .i64 t, .int .i64 n, .string s, .slice na nn nc, .slice ia i ic, .slice ea e ec, .slice ta th tc, .slice la el lc]] w fun r w' => r = .returned (.agg #[.int .i64 k, .int .i64 t, .int .i64 n, .string s, .int .i64 nn, .int .i64 i, .int .i64 e, .int .i64 th, .int .i64 el]) ∧ Below w.heap.size w w' := by
  go_enter Try.func69, Try.ntmps69
  go_wp2
  refine bodyPost_ret (v := .agg #[.int .i64 k, .int .i64 t, .int .i64 n, .string s, .int .i64 nn, .int .i64 i, .int .i64 e, .int .i64 th, .int .i64 el]) (by simp [results, Try.results69, go_sem]) rfl ⟨rfl, ?_⟩
  exact ((Below.refl _ w).alloc (Nat.le_refl _) _).alloc (by simp) _
/-- Texts that are names. -/
def namB (l : List (List UInt8)) : Bool := l.all (fun s => decide (Lx.kindA s = 1))
theorem namB_take {l : List (List UInt8)} {j : Nat} (hj : j < l.length) (h : namB (l.take j) = true) (hn : Lx.kindA (l.getD j []) = 1) : namB (l.take (j + 1)) = true := by
  unfold namB at *
  rw [List.take_add_one, List.all_append, h, List.getElem?_eq_getElem hj]
  rw [List.getD_eq_getElem?_getD, List.getElem?_eq_getElem hj] at hn
  simpa using hn
theorem namB_not {l : List (List UInt8)} {j : Nat} (hj : j < l.length) (hn : Lx.kindA (l.getD j []) ≠ 1) : namB l = false := by
  unfold namB
  rw [List.all_eq_false]
  rw [List.getD_eq_getElem?_getD, List.getElem?_eq_getElem hj] at hn
  exact ⟨l[j], List.getElem_mem hj, by simpa using hn⟩
set_option maxHeartbeats 4000000 in
set_option maxRecDepth 100000 in
theorem allN_any {w : World} {N : Nat} {x : Tx} (h : Txs w N x) (hc : x.l.length ≤ 9223372036854775807) (hl : ∀ s ∈ x.l, s.length ≤ 1000000000000000000) (hd : ∀ (args : Array Value) (W' : World), Sem.run Try.prog (callFunc 79 args) W' = .ok (.enter 79 args) W') :
    Calls Try.prog 122 #[.slice x.ao x.l.length x.cap, .func (.func 79) #[] #[]] w fun r w' => r = .returned (.bool (namB x.l)) ∧ Below w.heap.size w w' := by
  obtain ⟨ao, cap, l⟩ := x
  have HH := Lib.hid h
  have HL := Lib.hid hl
  dsimp only at hc
  clear h hl
  dsimp only
  have HM : Hid (∃ m, l.length = m) := Lib.hid ⟨_, rfl⟩
  obtain ⟨m, hm⟩ := HM.out
  rw [hm] at hc ⊢
  have HQ := Lib.hid hm
  clear hm HM
  go_enter Try.func122, Try.ntmps122
  go_wp2
  go_loopw [6, 9] (fun _ i wr => ∃ j : Nat, j ≤ m ∧ i = .int .i64 j ∧ namB (l.take j) = true ∧ Below w.heap.size w wr) (fun _ i _ => m - (intOf i).toNat)
  case atStart => exact ⟨0, Nat.zero_le _, rfl, by simp [namB], Below.refl _ _⟩
  case round =>
    obtain ⟨j, hj, rfl, hj1, kr⟩ := hrel
    by_cases hjm : j < m
    · have hjl : j < l.length := by rw [HQ.out]; exact hjm
      have hne : l ≠ [] := fun e => by subst e; simp at hjl
      obtain ⟨b, off, ha, hb, hz, hcc⟩ := HH.out.elim (fun e => (hne e).elim) id
      dsimp only at ha
      subst ha
      have c0 := (kr.cell (p := ⟨b, off + j, none⟩) hz).trans (hcc j hjl)
      have HS := Lib.hid (HL.out (l.getD j []) (by rw [List.getD_eq_getElem?_getD, List.getElem?_eq_getElem hjl]; exact List.getElem_mem hjl))
      have HT := Lib.hid hj1
      have HJL := Lib.hid hjl
      have HKR := Lib.hid kr
      have hk0 : (0 : Int) ≤ (j : Int) := Int.natCast_nonneg _
      have hk1 : (j : Int) < (m : Int) := by omega
      have zb : b < wr.heap.size := Nat.lt_of_lt_of_le hz kr.size
      have HTK := fun h => namB_take (l := l) (j := j) hjl hj1 h
      have HTN := fun h => namB_not (l := l) (j := j) hjl h
      have HTK' := Lib.hid HTK
      have HTN' := Lib.hid HTN
      clear hcc hj1 kr hjl hne HTK HTN
      dsimp only at c0 HS HTK' HTN'
      generalize l.getD j [] = s at *
      by_cases hs : Lx.kindA s = 1
      · have HN := Lib.hid (HTK'.out hs)
        have HC := Lib.hid (isName_any s HS.out wr true (by simp [hs]))
        clear hs
        go_wp2_with (refine HC.out.mono ?_)
        rintro e w3 ⟨rfl, b3⟩
        have B3 := Lib.hid (HKR.out.trans (b3.mono HKR.out.size))
        clear b3 HC
        go_wp2
        go_roundw
        case rel => exact ⟨j + 1, by omega, by go_num, HN.out, B3.out⟩
        case measure => simp [intOf]; omega
      · have HN := Lib.hid (HTN'.out hs)
        have HC := Lib.hid (isName_any s HS.out wr false (by simp [hs]))
        clear hs
        go_wp2_with (refine HC.out.mono ?_)
        rintro e w3 ⟨rfl, b3⟩
        have B3 := Lib.hid (HKR.out.trans (b3.mono HKR.out.size))
        clear b3 HC
        go_wp2
        go_ret
        exact ⟨by rw [HN.out]; rfl, B3.out⟩
    · obtain rfl : j = m := by omega
      have hE : namB l = true := by rw [← hj1, List.take_of_length_le (by rw [HQ.out]; exact Nat.le_refl _)]
      have HE := Lib.hid hE
      have HKR := Lib.hid kr
      clear hj1 kr hE
      go_wp2
      go_ret
      exact ⟨by rw [HE.out]; rfl, HKR.out⟩
/-- What a statement has beside its parts is what its kind has: lengths as numbers, ek: the kind of its first expression, an: its Names are names. -/
def fB (k t n : Int) (nm : List UInt8) (a i e h l ek : Int) (an : Bool) : Bool :=
  if k = 1 then decide (n = 0 ∧ a = 0 ∧ i = 0 ∧ e = 1 ∧ h = 0 ∧ l = 0) && decide (Lx.kindA nm = 1) && decide (1 ≤ t ∧ t ≤ 4)
  else if k = 2 then decide (t = 0 ∧ n = 0 ∧ a = 0 ∧ e = 1 ∧ h = 0 ∧ l = 0) && decide (Lx.kindA nm = 1) && decide (i ≤ 1)
  else if k = 3 then decide (t = 0 ∧ n = 0 ∧ nm = [] ∧ a = 0 ∧ i = 0 ∧ e = 1 ∧ h = 0 ∧ l = 0) && decide (ek = 4)
  else if k = 4 then decide (t = 0 ∧ n = 0 ∧ nm = [] ∧ a = 0 ∧ i = 0 ∧ e = 1)
  else if k = 5 then decide (t = 0 ∧ n = 0 ∧ nm = [] ∧ a = 0 ∧ i = 0 ∧ e = 1 ∧ l = 0)
  else if k = 6 then decide (t = 0 ∧ n = 0 ∧ nm = [] ∧ a = 0 ∧ i = 0 ∧ e = 1 ∧ h = 0 ∧ l = 0)
  else if k = 7 ∨ k = 8 then decide (t = 0 ∧ nm = [] ∧ a = 0 ∧ i = 0 ∧ e = 0 ∧ h = 0 ∧ l = 0) && decide (0 ≤ n ∧ n < 32)
  else if k = 9 then decide (t = 0 ∧ nm = [] ∧ a = 0 ∧ i = 0 ∧ e = 0 ∧ h = 0 ∧ l = 0) && decide (0 ≤ n ∧ n ≤ 15)
  else if k = 10 then decide (t = 0 ∧ n = 0 ∧ nm = [] ∧ i = 0 ∧ e = 0 ∧ l = 0) && decide (0 < a) && an
  else false
end As
end Go.Proofs.Ytbedcplkcaanhaa
