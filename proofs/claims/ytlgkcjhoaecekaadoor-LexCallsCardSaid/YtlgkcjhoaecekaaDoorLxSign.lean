/-
  WALKS: package lex, a word, a sign. Own work.
-/
import Derived.Test.YtlgkcjhoaecekaaDoorLxWord
namespace Go.Proofs.YtlgkcjhoaecekaaDoor
namespace Lx
open Go.RowKit Go
set_option linter.unusedVariables false

theorem StOk.dropl {s : St} (h : StOk s) : (s.src.drop s.a).length = s.src.length - s.a := List.length_drop
set_option maxHeartbeats 4000000 in
set_option maxRecDepth 100000 in
theorem word_any {w : World} {R : Nat} {s : St} {f tv : Value} (h : RdIn w R s f tv) (hs : StOk s) (n : Nat) (hn : spn inW (s.src.drop s.a) = n) (t : List UInt8) (ht : (s.src.drop s.a).take n = t) (k : Int) (hk : kindW t = k) (c : Int) (hc : (s.a : Int) - s.st + 1 = c) :
    Calls Tryd.prog 39 #[.pointer (some ⟨R, 0, none⟩)] w (StP w R ⟨s.src, s.M, s.a + n, s.l, s.st, s.ts ++ [⟨k, t, s.l, c, 0⟩], s.fe, s.fl, s.fc⟩ f (.func (.func 19) #[] #[])) := by
  have hdl := hs.dropl
  have hnl : n ≤ s.src.length - s.a := by rw [← hn, ← hdl]; exact spn_le _ _
  have htl : t.length = n := by rw [← ht, List.length_take, hdl]; omega
  have hk2 : k = 1 ∨ k = 2 := by rw [← hk]; unfold kindW; split <;> simp
  have H1 := Lib.hid (rest_any h hs _ rfl)
  have H2 : Hid (∀ W, Calls Tryd.prog 48 #[.string (bytesOf (s.src.drop s.a)), .func (.func 49) #[] #[]] W fun e w' => e = .returned (.int .i64 n) ∧ w' = W) := Lib.hid (fun W => span_any inWordS _ (by rw [hdl]; have := hs.n; omega) W n hn)
  have H3 : Hid (∀ W, Kp w W → Calls Tryd.prog 57 #[.pointer (some ⟨R, 0, none⟩), .int .i64 n] W fun e w' => e = .returned (.string (bytesOf t)) ∧ Kp W w') := Lib.hid (fun W kW => first_any (h.kp kW) hs n hnl t ht)
  have H4 : Hid (∀ W, Kp w W → Calls Tryd.prog 26 #[.string (bytesOf t), .map (some s.M)] W fun e w' => e = .returned (.int .i64 k) ∧ Kp W w') := Lib.hid (fun W kW => kindOf_any (h.map.kp kW) t (by have := hs.n; omega) k hk)
  have H5 : Hid (∀ W, Kp w W → Calls Tryd.prog 58 #[.pointer (some ⟨R, 0, none⟩), .int .i64 k, .string (bytesOf t), .int .u32 0] W fun e w' => e = .returned (.func (.func 19) #[] #[]) ∧ ∃ tv', RdIn w' R ⟨s.src, s.M, s.a + n, s.l, s.st, s.ts ++ [⟨k, t, s.l, c, 0⟩], s.fe, s.fl, s.fc⟩ f tv' ∧ Below R W w') := Lib.hid (fun W kW => by
    have := token_any (h.kp kW) hs k 0 t (by omega) (by decide) (by have := hs.a; omega) c hc
    rwa [htl] at this)
  have HZ := Lib.hid h.size
  have C2 : Hid (∀ W, Kp w W → W.cell? ⟨R, 2, none⟩ = some (.map (some s.M))) := Lib.hid (fun W kW => (h.kp kW).c2)
  clear h hs hn ht hk hc hdl hnl htl hk2
  generalize s.src.drop s.a = r at *
  go_enter Tryd.func39, Tryd.ntmps39
  go_wp2_with fail
  refine H1.out.mono ?_
  rintro e w1 ⟨rfl, k1⟩
  go_wp2_with fail
  refine (H2.out _).mono ?_
  rintro e w2 ⟨rfl, rfl⟩
  go_wp2_with fail
  refine (H3.out _ k1).mono ?_
  rintro e w3 ⟨rfl, k3⟩
  have K3 := k1.trans k3
  have c2 := C2.out _ K3
  have HK3 := Lib.hid K3
  clear K3 k1 k3
  go_wp2_with fail
  refine (H4.out _ HK3.out).mono ?_
  rintro e w4 ⟨rfl, k4⟩
  have HK4 := Lib.hid (HK3.out.trans k4)
  clear k4 c2
  go_wp2_with fail
  refine (H5.out _ HK4.out).mono ?_
  rintro e w5 ⟨rfl, tv', h5, b5⟩
  go_wp2
  go_ret
  exact ⟨rfl, tv', h5, (HK4.out.down (Nat.le_of_lt HZ.out)).trans b5⟩
/-- The signs as an array's value. -/
def sgnV : List Value := sgnL.map fun g => .string (bytesOf g)
theorem info_sg : (Tryd.prog.info? 85).map (·.size) = some 27 := by kernel_rfl
theorem sgnV_at {k : Nat} (h : k < 27) : sgnV[k]? = some (.string (bytesOf (sgnL.getD k []))) := by
  unfold sgnV
  rw [List.getElem?_map, List.getD_eq_getElem?_getD, List.getElem?_eq_getElem (show k < sgnL.length from h)]
  rfl
theorem ix_list (V : List Value) (k : Nat) (h : k < 27) (b : ByteArray) (ha : V[k]? = some (.string b)) (W : World) : (Instr.index 85 (.agg V.toArray) (.int .i64 (k : Int))).run Tryd.prog W = .ok (.string b) W := by
  have hu := Tryd.underlying85
  have hs : (sizeOf 9).run Tryd.prog W = .ok 1 W := by kernel_rfl
  have hg : (isAgg 9).run Tryd.prog W = .ok false W := by kernel_rfl
  have h0 : (0 : Int) ≤ k ∧ (k : Int) < 27 := by omega
  have hp : ∀ cs : Array Value, cs[k]? = some (.string b) → (part 9 cs (k * 1)).run Tryd.prog W = .ok (.string b) W := by
    intro cs hc
    unfold part
    simp [Sem.run_bind, hg, hc, go_sem]
  simp [Instr.index, asIntOf, run_underlying hu, Sem.run_bind, hs, h0, go_sem]
  rw [if_pos h, ha]
  rfl
theorem ix_sg (k : Nat) (h : k < 27) (W : World) : (Instr.index 85 (.agg sgnV.toArray) (.int .i64 (k : Int))).run Tryd.prog W = .ok (.string (bytesOf (sgnL.getD k []))) W :=
  ix_list sgnV k h _ (sgnV_at h) W
theorem sgnN_hit {s : List UInt8} {k : Nat} (hk : k < 27) (h : (sgnL.getD k []).isPrefixOf s = true) (hn : ∀ j, j < k → (sgnL.getD j []).isPrefixOf s = false) : sgnN s = (sgnL.getD k []).length := by
  have e : sgnL.find? (fun g => g.isPrefixOf s) = some (sgnL.getD k []) := by
    rw [List.find?_eq_some_iff_getElem]
    have hl : sgnL.length = 27 := rfl
    refine ⟨h, k, by omega, ?_, fun j hj => ?_⟩
    · rw [List.getD_eq_getElem?_getD, List.getElem?_eq_getElem (by omega)]; rfl
    · have := hn j hj
      rw [List.getD_eq_getElem?_getD, List.getElem?_eq_getElem (by omega)] at this
      simpa using this
  unfold sgnN
  rw [e]
theorem sgnN_no {s : List UInt8} (hn : ∀ j, j < 27 → (sgnL.getD j []).isPrefixOf s = false) : sgnN s = 0 := by
  have e : sgnL.find? (fun g => g.isPrefixOf s) = none := by
    rw [List.find?_eq_none]
    intro g hg
    obtain ⟨j, hj, rfl⟩ := List.getElem_of_mem hg
    have := hn j hj
    rw [List.getD_eq_getElem?_getD, List.getElem?_eq_getElem hj] at this
    intro q
    rw [show (sgnL[j].isPrefixOf s) = false from this] at q
    cases q
  unfold sgnN
  rw [e]
set_option maxHeartbeats 4000000 in
set_option maxRecDepth 100000 in
theorem signLength_any {w : World} (hE : Env w) (s : List UInt8) (n : Nat) (hn : sgnN s = n) :
    Calls Tryd.prog 61 #[.string (bytesOf s)] w fun e w' => e = .returned (.int .i64 n) ∧ w' = w := by
  have HRA : Hid (w.rangeAt 1 0 sgnV) := Lib.hid (fun q v hv => by
    rw [Nat.zero_add]
    by_cases hq : q < 27
    · rw [sgnV_at hq] at hv
      rw [hE.sg q hq]; exact hv
    · rw [List.getElem?_eq_none (by show 27 ≤ q; omega)] at hv; cases hv)
  obtain ⟨CS, hCS⟩ : ∃ CS, sgnV.toArray = CS := ⟨_, rfl⟩
  have HIX : Hid (∀ k : Nat, k < 27 → ∀ W, (Instr.index 85 (.agg CS) (.int .i64 (k : Int))).run Tryd.prog W = .ok (.string (bytesOf (sgnL.getD k []))) W) := Lib.hid (fun k hk W => by rw [← hCS]; exact ix_sg k hk W)
  have HCS := Lib.hid hCS
  have HN := Lib.hid hn
  clear hCS hn hE
  go_enter Tryd.func61, Tryd.ntmps61
  go_wp2_with (refine wpList_load_mid rfl 85 (.global 1) rfl 1 0 rfl sgnV _ HRA.out Tryd.underlying85 rfl info_sg ?_; rw [HCS.out])
  go_loop [6] (fun i => ∃ k : Nat, k ≤ 27 ∧ i = .int .i64 k ∧ Hid (∀ j, j < k → (sgnL.getD j []).isPrefixOf s = false)) (fun i => 27 - (intOf i).toNat)
  case atStart => exact ⟨0, by omega, rfl, Lib.hid (fun j hj => absurd hj (Nat.not_lt_zero _))⟩
  case round =>
    obtain ⟨k, hk, rfl, hall⟩ := hrel
    by_cases hkt : k < 27
    · have hix := HIX.out k hkt
      cases hp : (sgnL.getD k []).isPrefixOf s with
      | true =>
        have HP := Lib.hid hp
        have HV : Hid (((bytesOf (sgnL.getD k [])).size : Int) = n) := Lib.hid (by rw [bytesOf_size, ← HN.out, sgnN_hit hkt hp hall.out])
        clear hp
        generalize sgnL.getD k [] = g at *
        go_wp2_with (go_at_call 28; refine (hasPrefix_any s g _ true HP.out).mono ?_; rintro e w1 ⟨rfl, rfl⟩)
        go_ret
        exact ⟨ret_int HV.out, rfl⟩
      | false =>
        have HP := Lib.hid hp
        clear hp
        generalize hg : sgnL.getD k [] = g at *
        have HG := Lib.hid hg
        clear hg
        go_wp2_with (go_at_call 28; refine (hasPrefix_any s g _ false HP.out).mono ?_; rintro e w1 ⟨rfl, rfl⟩)
        go_round
        case rel => exact ⟨k + 1, by omega, by go_num, Lib.hid (fun j hj => by
          by_cases e : j = k
          · subst e; rw [HG.out]; exact HP.out
          · exact hall.out j (by omega))⟩
        case measure => simp [intOf]; omega
    · obtain rfl : k = 27 := by omega
      have HV : Hid ((0 : Int) = n) := Lib.hid (by rw [← HN.out, sgnN_no hall.out]; rfl)
      go_wp2
      go_ret
      exact ⟨ret_int HV.out, rfl⟩
end Lx
end Go.Proofs.YtlgkcjhoaecekaaDoor
