/-
  WALKS: rows of tokens and of texts in memory; the kit's Texts; the statements' texts. Own work.
-/
import Derived.Test.YtlgkcjhoaecekaaDoorLxAll
namespace Go.Proofs.YtlgkcjhoaecekaaDoor
namespace Lx
open Go.RowKit Go
set_option linter.unusedVariables false

def celT (l : List UInt8) : List Value := [.string (bytesOf l)]
theorem flat_get {α : Type} (f : α → List Value) (c : Nat) (hf : ∀ x, (f x).length = c) : ∀ (l : List α) (i j : Nat) (x : α), j < c → l[i]? = some x → (l.flatMap f)[i * c + j]? = (f x)[j]?
  | [], i, j, x, _, h => by simp at h
  | y :: l, 0, j, x, hj, h => by
    rw [List.getElem?_cons_zero] at h
    obtain rfl := Option.some.inj h
    rw [List.flatMap_cons, List.getElem?_append_left (by rw [hf]; omega)]
    congr 1
    omega
  | y :: l, i + 1, j, x, hj, h => by
    rw [List.getElem?_cons_succ] at h
    rw [List.flatMap_cons, List.getElem?_append_right (by rw [hf, Nat.succ_mul]; omega), ← flat_get f c hf l i j x hj h, hf]
    congr 1
    rw [Nat.succ_mul]
    omega
theorem flat_len {α : Type} (f : α → List Value) (c : Nat) (hf : ∀ x, (f x).length = c) : ∀ (l : List α), (l.flatMap f).length = l.length * c
  | [] => by simp
  | y :: l => by rw [List.flatMap_cons, List.length_append, hf, flat_len f c hf l, List.length_cons, Nat.succ_mul, Nat.add_comm]
/-- What a row looks like. -/
theorem own_form {w : World} {B : Nat} {T : TypeId} {c n : Nat} {v : Value} {xs : List Value} (h : w.ownsRow B T c v n xs) : ∃ ao cap, v = .slice ao n cap ∧ n ≤ cap ∧ cap ≤ 9223372036854775807 ∧ ∀ a, ao = some a → ∃ g, a = ⟨g, 0, none⟩ ∧ B ≤ g ∧ g < w.heap.size := by
  rcases h.2 with ⟨rfl, rfl⟩ | ⟨g, cap, cur, rfl, hb, hg, hn, hm, _⟩
  · exact ⟨none, 0, rfl, Nat.le_refl _, by omega, fun a e => by cases e⟩
  · refine ⟨some ⟨g, 0, none⟩, cap, rfl, hn, by unfold maxLen at hm; omega, fun a e => ?_⟩
    cases e
    refine ⟨g, rfl, hb, ?_⟩
    rcases Nat.lt_or_ge g w.heap.size with hlt | hge
    · exact hlt
    · rw [Array.getElem?_eq_none hge] at hg; cases hg
/-- A row's cells. -/
theorem own_cells {w : World} {B : Nat} {T : TypeId} {c n cap : Nat} {ao : Option Addr} {α : Type} {l : List α} {f : α → List Value} (hf : ∀ x, (f x).length = c) (hc : 0 < c) (h : w.ownsRow B T c (.slice ao n cap) n (l.flatMap f)) :
    n = l.length ∧ (l.length = 0 ∨ ∃ g, ao = some ⟨g, 0, none⟩ ∧ g < w.heap.size ∧ ∀ i j x u, j < c → l[i]? = some x → (f x)[j]? = some u → w.cell? ⟨g, 0 + i * c + j, none⟩ = some u) := by
  have hl : n = l.length := by
    have := h.1
    rw [flat_len f c hf] at this
    exact (Nat.eq_of_mul_eq_mul_right hc this).symm
  refine ⟨hl, ?_⟩
  obtain ⟨ao', cap', e, _, _, ha⟩ := own_form h
  rcases h.2 with ⟨_, h0⟩ | ⟨g, cap2, cur, e2, _⟩
  · exact .inl (by omega)
  · right
    simp only [Value.slice.injEq] at e e2
    obtain ⟨rfl, -, -⟩ := e
    obtain ⟨rfl, -, -⟩ := e2
    obtain ⟨g', eg, _, hlt⟩ := ha _ rfl
    have eg' : g = g' := congrArg Addr.block eg
    subst eg'
    refine ⟨g, rfl, hlt, fun i j x u hj hx hu => ?_⟩
    have := h.cells (g := g) rfl (i * c + j) u (by rw [flat_get f c hf l i j x hj hx]; exact hu)
    rw [← this]
    congr 1
    simp [Addr.add]
theorem getD_some {α : Type} {l : List α} {d : α} {i : Nat} (hi : i < l.length) : l[i]? = some (l.getD i d) := by
  rw [List.getD_eq_getElem?_getD, List.getElem?_eq_getElem hi]; rfl
/-- Tokens in memory. -/
structure Tcs (w : World) (b off : Nat) (l : List Tk) : Prop where
  size : b < w.heap.size
  k : ∀ i, i < l.length → w.cell? ⟨b, off + i * 5, none⟩ = some (.int .i64 (l.getD i t0).k)
  t : ∀ i, i < l.length → w.cell? ⟨b, off + i * 5 + 1, none⟩ = some (.string (bytesOf (l.getD i t0).t))
  l' : ∀ i, i < l.length → w.cell? ⟨b, off + i * 5 + 2, none⟩ = some (.int .i64 (l.getD i t0).l)
  c : ∀ i, i < l.length → w.cell? ⟨b, off + i * 5 + 3, none⟩ = some (.int .i64 (l.getD i t0).c)
  n : ∀ i, i < l.length → w.cell? ⟨b, off + i * 5 + 4, none⟩ = some (.int .u32 (l.getD i t0).n)
theorem Tcs.kp {w w' : World} {b off : Nat} {l : List Tk} (h : Tcs w b off l) (k : Kp w w') : Tcs w' b off l :=
  ⟨Nat.lt_of_lt_of_le h.size k.size, fun i hi => (k.cells _ _ h.size).trans (h.k i hi), fun i hi => (k.cells _ _ h.size).trans (h.t i hi), fun i hi => (k.cells _ _ h.size).trans (h.l' i hi), fun i hi => (k.cells _ _ h.size).trans (h.c i hi), fun i hi => (k.cells _ _ h.size).trans (h.n i hi)⟩
def TIn (w : World) (ao : Option Addr) (l : List Tk) : Prop := l.length = 0 ∨ ∃ b off, ao = some ⟨b, off, none⟩ ∧ Tcs w b off l
theorem TIn.kp {w w' : World} {ao : Option Addr} {l : List Tk} (h : TIn w ao l) (k : Kp w w') : TIn w' ao l := h.imp id fun ⟨b, off, e, g⟩ => ⟨b, off, e, g.kp k⟩
theorem TIn.at {w : World} {ao : Option Addr} {l : List Tk} (h : TIn w ao l) {i : Nat} (hi : i < l.length) : ∃ b off, ao = some ⟨b, off, none⟩ ∧ Tcs w b off l := h.elim (fun e => by omega) id
theorem row_K {w : World} {B n cap : Nat} {T : TypeId} {ao : Option Addr} {l : List Tk} (h : w.ownsRow B T 5 (.slice ao n cap) n (l.flatMap celK)) : TIn w ao l := by
  obtain ⟨_, h0 | ⟨g, e, hg, hc⟩⟩ := own_cells (c := 5) (fun _ => rfl) (by decide) h
  · exact .inl h0
  · exact .inr ⟨g, 0, e, hg, fun i hi => hc i 0 _ _ (by omega) (getD_some hi) rfl, fun i hi => hc i 1 _ _ (by omega) (getD_some hi) rfl, fun i hi => hc i 2 _ _ (by omega) (getD_some hi) rfl, fun i hi => hc i 3 _ _ (by omega) (getD_some hi) rfl, fun i hi => hc i 4 _ _ (by omega) (getD_some hi) rfl⟩
/-- What All answers, opened: tokens that lie somewhere. -/
def AllQ (w : World) (ts : List Tk) (fe fl fc : Int) (e : Ending) (w' : World) : Prop :=
  ∃ ao cap, e = .returned (.tuple #[.slice ao ts.length cap, .agg #[.int .i64 fe, .int .i64 fl, .int .i64 fc]]) ∧ TIn w' ao ts ∧ Kp w w'
theorem All_q {w : World} (hE : Env w) (s : List UInt8) (hl : s.length ≤ 65536) (ts : List Tk) (fe fl fc : Int) (h1 : resT (Lex s 1 1) = ts) (h2 : resE (Lex s 1 1) = fe) (h3 : resL (Lex s 1 1) = fl) (h4 : resC (Lex s 1 1) = fc) :
    Calls Tryd.prog 8 #[.string (bytesOf s)] w (AllQ w ts fe fl fc) :=
  (All_any hE s hl ts fe fl fc h1 h2 h3 h4).mono fun e w' ⟨tv, he, ho, k⟩ => by
    obtain ⟨ao, cap, rfl, _, _, _⟩ := own_form ho
    exact ⟨ao, cap, he, row_K ho, k⟩
/-- A world in which only draws were made. -/
def Qt (w w' : World) : Prop := ∃ m, w' = w.drewN m
theorem Qt.refl (w : World) : Qt w w := ⟨0, rfl⟩
theorem Qt.kp {w w' : World} (h : Qt w w') : Kp w w' := by
  obtain ⟨m, rfl⟩ := h
  exact (Kp.refl w).drewN m
theorem Qt.drew {w w' : World} (h : Qt w w') (m : Nat) : Qt w (w'.drewN m) := by
  obtain ⟨n, rfl⟩ := h
  exact ⟨n + m, by rw [World.drewN_drewN]⟩
/-- A callee that only draws is quiet behind draws. -/
theorem quietD {P : Program} {f : FuncId} {args : Array Value} {w : World} {n : Nat} {v : Value}
    (h : Calls P f args (w.drewN n) fun e w' => e = .returned v ∧ Qt (w.drewN n) w') : Calls P f args (w.drewN n) fun e w'' => e = .returned v ∧ ∃ m, w'' = w.drewN m :=
  h.mono fun _ _ ⟨he, m, hm⟩ => ⟨he, n + m, by rw [hm, World.drewN_drewN]⟩
theorem ext_getD {α : Type} {xs ys : List α} {d : α} (hl : xs.length = ys.length) (h : ∀ j, j < xs.length → xs.getD j d = ys.getD j d) : xs = ys := by
  apply List.ext_getElem hl
  intro i h1 h2
  have := h i h1
  rwa [List.getD_eq_getElem?_getD, List.getElem?_eq_getElem h1, List.getD_eq_getElem?_getD, List.getElem?_eq_getElem h2] at this
theorem ne_getD {α : Type} {xs ys : List α} {d : α} {j : Nat} (h : xs.getD j d ≠ ys.getD j d) : xs ≠ ys := fun e => h (by rw [e])
theorem ne_len {α : Type} {xs ys : List α} (h : xs.length ≠ ys.length) : xs ≠ ys := fun e => h (by rw [e])
/-- Texts in memory. -/
def SIn (w : World) (ao : Option Addr) (l : List (List UInt8)) : Prop := l.length = 0 ∨ ∃ b off, ao = some ⟨b, off, none⟩ ∧ b < w.heap.size ∧ ∀ i, i < l.length → w.cell? ⟨b, off + i, none⟩ = some (.string (bytesOf (l.getD i [])))
theorem SIn.kp {w w' : World} {ao : Option Addr} {l : List (List UInt8)} (h : SIn w ao l) (k : Kp w w') : SIn w' ao l :=
  h.imp id fun ⟨b, off, e, g, c⟩ => ⟨b, off, e, Nat.lt_of_lt_of_le g k.size, fun i hi => (k.cells _ _ g).trans (c i hi)⟩
theorem SIn.at {w : World} {ao : Option Addr} {l : List (List UInt8)} (h : SIn w ao l) {i : Nat} (hi : i < l.length) : ∃ b off, ao = some ⟨b, off, none⟩ ∧ b < w.heap.size ∧ w.cell? ⟨b, off + i, none⟩ = some (.string (bytesOf (l.getD i []))) := by
  rcases h with h | ⟨b, off, e, g, c⟩
  · omega
  · exact ⟨b, off, e, g, c i hi⟩
theorem row_T {w : World} {B n cap : Nat} {T : TypeId} {ao : Option Addr} {l : List (List UInt8)} (h : w.ownsRow B T 1 (.slice ao n cap) n (l.flatMap celT)) : SIn w ao l := by
  obtain ⟨_, h0 | ⟨g, e, hg, hc⟩⟩ := own_cells (c := 1) (fun _ => rfl) (by decide) h
  · exact .inl h0
  · exact .inr ⟨g, 0, e, hg, fun i hi => by have := hc i 0 _ _ (by omega) (getD_some (d := []) hi) rfl; simpa using this⟩
set_option maxHeartbeats 1000000 in
theorem texts_same (ao bo : Option Addr) (ca cb n : Nat) (xs ys : List (List UInt8)) (w : World) (hv : SIn w ao xs) (hv2 : SIn w bo ys) (lx : xs.length = n) (ly : ys.length = n) (hn : n ≤ 9223372036854775807) (r : Bool) (hr : xs = ys ↔ r = true) :
    Calls Tryd.prog 23 #[.slice ao n ca, .slice bo n cb] w fun e w' => e = .returned (.bool r) ∧ Qt w w' := by
  have HR := Lib.hid hr
  have HV := Lib.hid hv
  have HV2 := Lib.hid hv2
  have LX := Lib.hid lx
  have LY := Lib.hid ly
  clear hr hv hv2 lx ly
  go_enter Tryd.func23, Tryd.ntmps23
  go_wp2
  go_loopw [5] (fun i wr => ∃ (k : Nat), k ≤ n ∧ i = .int .i64 k ∧ Qt w wr ∧ Hid (∀ j, j < k → xs.getD j [] = ys.getD j [])) (fun i _ => n - (intOf i).toNat)
  case atStart => exact ⟨0, Nat.zero_le _, rfl, Qt.refl _, fun j h => absurd h (Nat.not_lt_zero j)⟩
  case round =>
    obtain ⟨k, hk, rfl, hkp, ha⟩ := hrel
    have HA := Lib.hid ha
    clear ha
    by_cases hlt : k < n
    · obtain ⟨b, off, hao, hbs, cl⟩ := SIn.at (HV.out.kp hkp.kp) (i := k) (by rw [LX.out]; exact hlt)
      subst hao
      obtain ⟨b2, off2, hbo, hbs2, cl2⟩ := SIn.at (HV2.out.kp hkp.kp) (i := k) (by rw [LY.out]; exact hlt)
      subst hbo
      have hk0 : (0 : Int) ≤ (k : Int) := Int.natCast_nonneg _
      have hk1 : (k : Int) < (n : Int) := by omega
      by_cases hx : xs.getD k [] = ys.getD k []
      · have HX : Hid (∀ j, j < k + 1 → xs.getD j [] = ys.getD j []) := Lib.hid (fun j hj => by
          rcases Nat.lt_succ_iff_lt_or_eq.1 hj with h2 | h2
          · exact HA.out.out j h2
          · subst h2; exact hx)
        generalize xs.getD k [] = x at *
        generalize ys.getD k [] = y at *
        have hx : ((bytesOf x).toList == (bytesOf y).toList) = true := by rw [bytesOf_toList, bytesOf_toList]; simpa using hx
        go_wp2
        go_quiet (fail)
        go_wp2
        go_roundw
        case rel => exact ⟨k + 1, by omega, by go_num, hkp.drew _, HX⟩
        case measure => simp [intOf]; omega
      · have HX := Lib.hid hx
        have FIN : Hid (r = false) := Lib.hid (by
          have : ¬ r = true := fun e => ne_getD hx (HR.out.2 e)
          simpa using this)
        generalize xs.getD k [] = x at *
        generalize ys.getD k [] = y at *
        have hx : ((bytesOf x).toList == (bytesOf y).toList) = false := by rw [bytesOf_toList, bytesOf_toList]; simpa using hx
        go_wp2
        go_quiet (fail)
        go_wp2
        go_ret
        exact ⟨ret_bool FIN.out.symm, hkp.drew _⟩
    · obtain rfl : k = n := by omega
      go_wp2
      go_ret
      exact ⟨ret_bool (HR.out.1 (ext_getD (d := []) (by rw [LX.out, LY.out]) (fun j hj => HA.out.out j (by rw [← LX.out]; exact hj)))).symm, hkp⟩
theorem Texts_any (ao bo : Option Addr) (ca cb : Nat) (xs ys : List (List UInt8)) (w : World) (hv : SIn w ao xs) (hv2 : SIn w bo ys) (hn : xs.length ≤ 9223372036854775807) (r : Bool) (hr : xs = ys ↔ r = true) :
    Calls Tryd.prog 23 #[.slice ao xs.length ca, .slice bo ys.length cb] w fun e w' => e = .returned (.bool r) ∧ Qt w w' := by
  by_cases hnm : xs.length = ys.length
  · have := texts_same ao bo ca cb xs.length xs ys w hv hv2 rfl hnm.symm hn r hr
    rw [← hnm]
    exact this
  · have FIN : r = false := by
      have : ¬ r = true := fun e => ne_len hnm (hr.2 e)
      simpa using this
    subst FIN
    have hne : ((xs.length : Int) != (ys.length : Int)) = true := by simpa using (by omega : ¬ (xs.length : Int) = ys.length)
    clear hv hv2 hr
    generalize xs.length = n at *
    generalize ys.length = m at *
    go_enter Tryd.func23, Tryd.ntmps23
    go_wp2
    go_ret
    exact ⟨rfl, Qt.refl _⟩
theorem info_T : (Tryd.prog.info? 9).map (fun i => (i.zero, i.size, i.bytes)) = some (some (.string ⟨#[]⟩), 1, 16) := by kernel_rfl
/-- Texts that a call has made. -/
def SgP (w : World) (l : List (List UInt8)) (e : Ending) (w' : World) : Prop := ∃ ao cap, e = .returned (.slice ao l.length cap) ∧ SIn w' ao l ∧ Kp w w'
set_option maxHeartbeats 4000000 in
set_option maxRecDepth 100000 in
theorem texts_any {w : World} {ao : Option Addr} {cap : Nat} {l : List Tk} (h : TIn w ao l) (hl : l.length ≤ 65536) :
    Calls Tryd.prog 24 #[.slice ao l.length cap] w (SgP w (l.map (·.t))) := by
  obtain ⟨i0, hi, hz0, hz1, hz2⟩ := info_parts info_T
  have HH := Lib.hid h
  have HLM : Hid ((l.map (·.t)).length = l.length) := Lib.hid (List.length_map ..)
  have HTK : Hid (∀ k (hk : k < l.length), ((l.map (·.t)).take (k + 1)).flatMap celT = ((l.map (·.t)).take k).flatMap celT ++ [.string (bytesOf (l.getD k t0).t)]) := Lib.hid (fun k hk => by
    rw [List.take_add_one, List.getElem?_map, getD_some (d := t0) hk]
    simp [celT])
  obtain ⟨n, hn⟩ : ∃ n, l.length = n := ⟨_, rfl⟩
  have HN := Lib.hid hn
  rw [hn] at hl HLM ⊢
  have hl2 : (n : Int) ≤ 65536 := by omega
  clear h hn
  go_enter Tryd.func24, Tryd.ntmps24
  go_wp2_with fail
  go_loopw [3, 4] (fun v i wr => ∃ k : Nat, k ≤ n ∧ i = .int .i64 k ∧ wr.ownsRow w.heap.size 9 1 v k (((l.map (·.t)).take k).flatMap celT) ∧ Kp w wr) (fun _ i _ => n - (intOf i).toNat)
  case atStart => exact ⟨0, Nat.zero_le _, rfl, World.ownsRow_nil _ _ _ _, Kp.refl _⟩
  case round =>
    obtain ⟨k, hk, rfl, hown, kr⟩ := hrel
    by_cases hlt : k < n
    · obtain ⟨b, off, hao, hc⟩ := TIn.at (HH.out.kp kr) (i := k) (by rw [HN.out]; exact hlt)
      have x1 := hc.t k (by rw [HN.out]; exact hlt)
      have y0 := hc.size
      have HT2 := Lib.hid (HTK.out k (by rw [HN.out]; exact hlt))
      have hk0 : (0 : Int) ≤ (k : Int) := Int.natCast_nonneg _
      have hk1 : (k : Int) < (n : Int) := by omega
      have hwz := kr.size
      have KR := Lib.hid kr
      clear hc kr
      generalize (l.getD k t0).t = x at *
      rw [hao]
      go_wp2_with (at_builtin; refine wpList_append_own _ rfl _ _ 40 rfl w.heap.size 9 i0 (.string ⟨#[]⟩) 1 16 Tryd.underlying40 hi hz0 hz1 hz2 rfl (by decide) _ _ _ rfl (hown.alloc _) ⟨wr.heap.size, 0, none⟩ 1 1 [.string (bytesOf x)] rfl rfl ?c1 ?c2 ?c3 ?c4 ?c5 ?_)
      case c1 => exact cell_one_new _ _ _
      case c2 => intro u hu; simp only [List.mem_singleton] at hu; subst hu; rfl
      case c3 => unfold maxLen; omega
      case c4 => omega
      case c5 => simp; omega
      intro v' w3 hown' hgrow _
      have hk3 : Kp w w3 := kp_grown (KR.out.alloc _ _) hgrow (fun q hq => (hown.lt q hq).1)
      rw [← HT2.out] at hown'
      have HOW := Lib.hid hown'
      clear hgrow hown hown'
      go_wp2
      go_roundw
      case rel => exact ⟨k + 1, by omega, by go_num, HOW.out, hk3⟩
      case measure => simp [intOf]; omega
    · obtain rfl : k = n := by omega
      have ht : (l.map (·.t)).take k = l.map (·.t) := List.take_of_length_le (by rw [HLM.out]; omega)
      rw [ht] at hown
      obtain ⟨ao', cap', rfl, _, _, _⟩ := own_form hown
      have HR := Lib.hid (row_T hown)
      clear hown ht
      go_wp2
      go_ret
      exact ⟨_, _, by rw [HLM.out]; rfl, HR.out, kr⟩
end Lx
end Go.Proofs.YtlgkcjhoaecekaaDoor
