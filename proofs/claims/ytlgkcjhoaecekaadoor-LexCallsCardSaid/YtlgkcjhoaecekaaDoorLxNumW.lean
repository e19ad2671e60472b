/-
  WALKS: package lex, a number. Own work.
-/
import Derived.Test.YtlgkcjhoaecekaaDoorLxPu
namespace Go.Proofs.YtlgkcjhoaecekaaDoor
namespace Lx
open Go.RowKit Go
set_option linter.unusedVariables false

set_option maxHeartbeats 8000000 in
set_option maxRecDepth 100000 in
theorem number_any {w : World} (hE : Env w) {R : Nat} {s : St} {f tv : Value} (h : RdIn w R s f tv) (hs : StOk s) (pre q : Nat) (hq : q = 10 ∨ q = 16) {F : FuncId} {p : UInt8 → Bool} (hF : Srt F p) (hp : p = dgs q) (r : List UInt8) (hr : s.src.drop s.a = r) (hpre : pre ≤ r.length) (c : Int) (hc : (s.a : Int) - s.st + 1 = c) (g : Value) (s' : St)
    (hg : match numT pre p q r with
      | some (n, v) => g = .func (.func 19) #[] #[] ∧ s' = ⟨s.src, s.M, s.a + n, s.l, s.st, s.ts ++ [⟨3, r.take n, s.l, c, v⟩], s.fe, s.fl, s.fc⟩
      | none => g = .nilFunc ∧ s' = ⟨s.src, s.M, s.a, s.l, s.st, s.ts, 11, s.l, c⟩) :
    Calls Tryd.prog 59 #[.pointer (some ⟨R, 0, none⟩), .int .i64 pre, .func (.func F) #[] #[], .int .i64 q] w (StP w R s' f g) := by
  have hdl := hs.dropl
  rw [hr] at hdl
  have hrl : r.length ≤ 65536 := by have := hs.n; omega
  obtain ⟨m, hm⟩ : ∃ m, spn p (r.drop pre) = m := ⟨_, rfl⟩
  have hml : pre + m ≤ r.length := by have := spn_le p (r.drop pre); rw [List.length_drop] at this; omega
  have H1 := Lib.hid (rest_any h hs r hr)
  have H2 : Hid (∀ W, Calls Tryd.prog 48 #[.string (bytesOf (r.drop pre)), .func (.func F) #[] #[]] W fun e w' => e = .returned (.int .i64 m) ∧ w' = W) := Lib.hid (fun W => span_any hF _ (by rw [List.length_drop]; omega) W m hm)
  have HX1 : Hid ((bytesOf r).extract pre (bytesOf r).size = bytesOf (r.drop pre)) := Lib.hid (ext_end r pre)
  have HX2 : Hid ((bytesOf r).extract pre (pre + m) = bytesOf ((r.drop pre).take m)) := Lib.hid (by rw [ext_ab, Nat.add_sub_cancel_left])
  have HDS : Hid (∀ b ∈ (r.drop pre).take m, dgs q b = true) := Lib.hid (by rw [← hp, ← hm]; exact all_spn p _)
  have hdsl : ((r.drop pre).take m).length = m := by rw [List.length_take, List.length_drop]; omega
  have HDL := Lib.hid hdsl
  have HZ := Lib.hid h.size
  have hsz : ((bytesOf r).size : Int) ≤ 65536 := by rw [bytesOf_size]; omega
  have hm0 : (0 : Int) ≤ (m : Int) := by omega
  have hp0 : (0 : Int) ≤ (pre : Int) := by omega
  have hE1 : (pre : Int) + (m : Int) ≤ ((bytesOf r).size : Int) := by rw [bytesOf_size]; omega
  have hE0 : (0 : Int) ≤ (pre : Int) + (m : Int) := by omega
  have hp1 : (pre : Int) ≤ ((bytesOf r).size : Int) := by rw [bytesOf_size]; omega
  have hEt : ((pre : Int) + (m : Int)).toNat = pre + m := by omega
  have hp2 : (pre : Int) ≤ (pre : Int) + (m : Int) := by omega
  have HML := Lib.hid hml
  have HSL := Lib.hid (bytesOf_size r)
  by_cases herr : (r.drop pre).take m = [] ∨ 4294967295 < val q ((r.drop pre).take m)
  · have hnone : numT pre p q r = none := by
      unfold numT
      rw [hm]
      rcases herr with h0 | h0
      · rw [h0] at hdsl
        rw [if_pos (by simpa using hdsl.symm)]
      · by_cases m0 : m = 0
        · rw [if_pos m0]
        · rw [if_neg m0, if_pos h0]
    rw [hnone] at hg
    obtain ⟨rfl, rfl⟩ := hg
    have H3 : Hid (∀ W, Kp w W → Calls Tryd.prog 68 #[.string (bytesOf ((r.drop pre).take m)), .int .i64 q, .int .i64 32] W fun e w' => ∃ (x : Int) (N : Nat), e = .returned (.tuple #[.int .u64 x, .iface 96 (.pointer (some ⟨N, 0, none⟩))]) ∧ Kp W w') := Lib.hid (fun W k => pu_err (hE.kp k) q hq _ HDS.out (by rw [hdsl]; omega) herr)
    have H6 : Hid (∀ W, Kp w W → Calls Tryd.prog 62 #[.pointer (some ⟨R, 0, none⟩)] W (StP W R ⟨s.src, s.M, s.a, s.l, s.st, s.ts, 11, s.l, c⟩ f .nilFunc)) := Lib.hid (fun W k => wrong_any (h.kp k) hs c hc)
    clear h hs hr hpre hc hdl hrl hm hml hdsl herr hnone hE hF hp hq
    generalize (r.drop pre).take m = ds at *
    generalize r.drop pre = rd at *
    go_enter Tryd.func59, Tryd.ntmps59
    go_wp2_with fail
    refine H1.out.mono ?_
    rintro e w1 ⟨rfl, k1⟩
    go_wp2_with fail
    rw [HX1.out]
    refine (H2.out _).mono ?_
    rintro e w2 ⟨rfl, rfl⟩
    go_wp2_with fail
    rw [HX2.out]
    refine (H3.out _ k1).mono ?_
    rintro e w3 ⟨x, N, rfl, k3⟩
    have K3 := Lib.hid (k1.trans k3)
    clear k1 k3
    go_wp2_with fail
    refine (H6.out _ K3.out).mono ?_
    rintro e w5 ⟨rfl, tv', h5, b5⟩
    go_wp2
    go_ret
    exact ⟨rfl, tv', h5, (K3.out.down (Nat.le_of_lt HZ.out)).trans b5⟩
  · have hv : val q ((r.drop pre).take m) ≤ 4294967295 := by omega
    have hne : (r.drop pre).take m ≠ [] := fun e => herr (.inl e)
    have m0 : m ≠ 0 := by intro e; subst e; exact hne (by simp)
    obtain ⟨v, ev⟩ : ∃ v, val q ((r.drop pre).take m) = v := ⟨_, rfl⟩
    have hnum : numT pre p q r = match r.drop (pre + m) with
        | b :: _ => if stick b then none else some (pre + m, (v : Nat))
        | [] => some (pre + m, (v : Nat)) := by
      unfold numT
      rw [hm, if_neg m0, if_neg (by omega), ev]
      cases r.drop (pre + m) <;> rfl
    have hv2 : v ≤ 4294967295 := by omega
    have H3 : Hid (∀ W, Calls Tryd.prog 68 #[.string (bytesOf ((r.drop pre).take m)), .int .i64 q, .int .i64 32] W fun e w' => e = .returned (.tuple #[.int .u64 v, .nilIface]) ∧ Kp W w') := Lib.hid (fun W => pu_ok q hq _ HDS.out hne (by rw [hdsl]; omega) v ev hv2 W)
    have H6 : Hid (∀ W, Kp w W → Calls Tryd.prog 62 #[.pointer (some ⟨R, 0, none⟩)] W (StP W R ⟨s.src, s.M, s.a, s.l, s.st, s.ts, 11, s.l, c⟩ f .nilFunc)) := Lib.hid (fun W k => wrong_any (h.kp k) hs c hc)
    have H4 : Hid (∀ W, Kp w W → Calls Tryd.prog 57 #[.pointer (some ⟨R, 0, none⟩), .int .i64 ((pre : Int) + (m : Int))] W fun e w' => e = .returned (.string (bytesOf (r.take (pre + m)))) ∧ Kp W w') := Lib.hid (fun W kW => first_any (h.kp kW) hs (pre + m) (by rw [← hdl]; exact hml) _ (by rw [hr]))
    have H5 : Hid (∀ W, Kp w W → Calls Tryd.prog 58 #[.pointer (some ⟨R, 0, none⟩), .int .i64 3, .string (bytesOf (r.take (pre + m))), .int .u32 v] W fun e w' => e = .returned (.func (.func 19) #[] #[]) ∧ ∃ tv', RdIn w' R ⟨s.src, s.M, s.a + (pre + m), s.l, s.st, s.ts ++ [⟨3, r.take (pre + m), s.l, c, v⟩], s.fe, s.fl, s.fc⟩ f tv' ∧ Below R W w') := Lib.hid (fun W kW => by
      have hl : (r.take (pre + m)).length = pre + m := by rw [List.length_take]; omega
      have := token_any (h.kp kW) hs 3 v (r.take (pre + m)) (by decide) (by omega) (by rw [hl]; have := hs.a; omega) c hc
      rwa [hl] at this)
    have hwv : IntKind.u32.wrap (v : Int) = (v : Int) := IntWalk.u32_in _ (by omega)
    have hvI : (v : Int) ≤ 4294967295 := by omega
    have hv0 : (0 : Int) ≤ (v : Int) := by omega
    clear h hs hr hpre hc hdl hrl hm hml hdsl herr hE hF hp hq hne m0 hv hv2 ev
    generalize (r.drop pre).take m = ds at *
    generalize r.drop pre = rd at *
    by_cases hend : pre + m < r.length
    · have hb2 : pre + m < (bytesOf r).size := by rw [HSL.out]; exact hend
      have hE2 : (pre : Int) + (m : Int) < ((bytesOf r).size : Int) := by omega
      have hbb := byte_at r (pre + m) hb2 hend
      obtain ⟨bb, ebb⟩ : ∃ bb, r[pre + m]'hend = bb := ⟨_, rfl⟩
      rw [ebb] at hbb
      have hnum2 : numT pre p q r = if stick bb then none else some (pre + m, ((v : Nat) : Int)) := by
        rw [hnum, List.drop_eq_getElem_cons hend, ebb]
      cases hst : stick bb with
      | true =>
        have HST : Hid (stick ((bytesOf r)[pre + m]'hb2) = true) := Lib.hid ((congrArg stick hbb).trans hst)
        rw [hst] at hnum2
        rw [hnum2] at hg
        simp only [if_true] at hg
        obtain ⟨rfl, rfl⟩ := hg
        clear hnum hnum2 hbb hst hend ebb
        go_enter Tryd.func59, Tryd.ntmps59
        go_wp2_with fail
        refine H1.out.mono ?_
        rintro e w1 ⟨rfl, k1⟩
        go_wp2_with fail
        rw [HX1.out]
        refine (H2.out _).mono ?_
        rintro e w2 ⟨rfl, rfl⟩
        go_wp2_with fail
        rw [HX2.out]
        refine (H3.out _).mono ?_
        rintro e w3 ⟨rfl, k3⟩
        have K3 := Lib.hid (k1.trans k3)
        clear k1 k3
        go_wp2_with fail
        refine (sticks_any _ _ true HST.out).mono ?_
        rintro e w9 ⟨rfl, rfl⟩
        go_wp2_with fail
        refine (H6.out _ K3.out).mono ?_
        rintro e w5 ⟨rfl, tv', h5, b5⟩
        go_wp2
        go_ret
        exact ⟨rfl, tv', h5, (K3.out.down (Nat.le_of_lt HZ.out)).trans b5⟩
      | false =>
        have HST : Hid (stick ((bytesOf r)[pre + m]'hb2) = false) := Lib.hid ((congrArg stick hbb).trans hst)
        rw [hst] at hnum2
        rw [hnum2] at hg
        simp only [if_false, Bool.false_eq_true] at hg
        obtain ⟨rfl, rfl⟩ := hg
        clear hnum hnum2 hbb hst hend ebb
        generalize r.take (pre + m) = tx at *
        go_enter Tryd.func59, Tryd.ntmps59
        go_wp2_with fail
        refine H1.out.mono ?_
        rintro e w1 ⟨rfl, k1⟩
        go_wp2_with fail
        rw [HX1.out]
        refine (H2.out _).mono ?_
        rintro e w2 ⟨rfl, rfl⟩
        go_wp2_with fail
        rw [HX2.out]
        refine (H3.out _).mono ?_
        rintro e w3 ⟨rfl, k3⟩
        have K3 := Lib.hid (k1.trans k3)
        clear k1 k3
        go_wp2_with fail
        refine (sticks_any _ _ false HST.out).mono ?_
        rintro e w9 ⟨rfl, rfl⟩
        go_wp2_with fail
        refine (H4.out _ K3.out).mono ?_
        rintro e w4 ⟨rfl, k4⟩
        have K4 := Lib.hid (K3.out.trans k4)
        clear k4
        go_wp2_with fail
        refine (H5.out _ K4.out).mono ?_
        rintro e w5 ⟨rfl, tv', h5, b5⟩
        go_wp2
        go_ret
        exact ⟨rfl, tv', h5, (K4.out.down (Nat.le_of_lt HZ.out)).trans b5⟩
    · have hE2 : (pre : Int) + (m : Int) = ((bytesOf r).size : Int) := by have := HSL.out; have := HML.out; omega
      have hlt : decide ((pre : Int) + (m : Int) < ((bytesOf r).size : Int)) = false := by simp; omega
      rw [List.drop_eq_nil_of_le (by omega)] at hnum
      simp only at hnum
      rw [hnum] at hg
      obtain ⟨rfl, rfl⟩ := hg
      clear hnum hend hE2
      generalize r.take (pre + m) = tx at *
      go_enter Tryd.func59, Tryd.ntmps59
      go_wp2_with fail
      refine H1.out.mono ?_
      rintro e w1 ⟨rfl, k1⟩
      go_wp2_with fail
      rw [HX1.out]
      refine (H2.out _).mono ?_
      rintro e w2 ⟨rfl, rfl⟩
      go_wp2_with fail
      rw [HX2.out]
      refine (H3.out _).mono ?_
      rintro e w3 ⟨rfl, k3⟩
      have K3 := Lib.hid (k1.trans k3)
      clear k1 k3
      go_wp2_with fail
      refine (H4.out _ K3.out).mono ?_
      rintro e w4 ⟨rfl, k4⟩
      have K4 := Lib.hid (K3.out.trans k4)
      clear k4
      go_wp2_with fail
      refine (H5.out _ K4.out).mono ?_
      rintro e w5 ⟨rfl, tv', h5, b5⟩
      go_wp2
      go_ret
      exact ⟨rfl, tv', h5, (K4.out.down (Nat.le_of_lt HZ.out)).trans b5⟩
end Lx
end Go.Proofs.YtlgkcjhoaecekaaDoor
