/-
  WALKS: package lex, the states: sign, hexadecimal, decimal, between; what a state does. Own work.
-/
import Derived.Test.YtlgkcjhoaecekaaDoorLxNumW
namespace Go.Proofs.YtlgkcjhoaecekaaDoor
namespace Lx
open Go.RowKit Go
set_option linter.unusedVariables false

/-- The state that reads what stands at a head. -/
def fnH : Hd → Value
  | .fin => .nilFunc
  | .nl => .func (.func 34) #[] #[]
  | .bl => .func (.func 36) #[] #[]
  | .cm => .func (.func 37) #[] #[]
  | .wd => .func (.func 39) #[] #[]
  | .hx => .func (.func 40) #[] #[]
  | .dg => .func (.func 42) #[] #[]
  | .sg => .func (.func 43) #[] #[]
def btw : Value := .func (.func 19) #[] #[]
/-- The reader behind a state, and the state that is next. -/
def St.rd (s : St) : List UInt8 := s.src.drop s.a
def St.col (s : St) : Int := (s.a : Int) - s.st + 1
def St.to (s : St) (n : Nat) : St := ⟨s.src, s.M, s.a + n, s.l, s.st, s.ts, s.fe, s.fl, s.fc⟩
def St.tok (s : St) (k : Int) (n : Nat) (v : Int) : St := ⟨s.src, s.M, s.a + n, s.l, s.st, s.ts ++ [⟨k, s.rd.take n, s.l, s.col, v⟩], s.fe, s.fl, s.fc⟩
def St.bad (s : St) : St := ⟨s.src, s.M, s.a, s.l, s.st, s.ts, 11, s.l, s.col⟩
def nxS (h : Hd) (s : St) : St := match h with
  | .fin => s
  | .nl => ⟨s.src, s.M, s.a + 1, s.l + 1, s.a + 1, s.ts, s.fe, s.fl, s.fc⟩
  | .bl => s.to (spn isBl s.rd)
  | .cm => s.to (spn noNl s.rd)
  | h => match tokH h s.rd with
    | some (k, n, v) => s.tok k n v
    | none => s.bad
def nxF (h : Hd) (s : St) : Value := match h with
  | .fin => .nilFunc
  | .nl => btw
  | .bl => btw
  | .cm => btw
  | h => match tokH h s.rd with
    | some _ => btw
    | none => .nilFunc
set_option maxHeartbeats 4000000 in
set_option maxRecDepth 100000 in
theorem sign_any {w : World} (hE : Env w) {R : Nat} {s : St} {f tv : Value} (h : RdIn w R s f tv) (hs : StOk s) :
    Calls Tryd.prog 43 #[.pointer (some ⟨R, 0, none⟩)] w (StP w R (nxS .sg s) f (nxF .sg s)) := by
  obtain ⟨r, hr⟩ : ∃ r, s.src.drop s.a = r := ⟨_, rfl⟩
  have hdl := hs.dropl
  rw [hr] at hdl
  obtain ⟨n, hn⟩ : ∃ n, sgnN r = n := ⟨_, rfl⟩
  have hnl : n ≤ r.length := by rw [← hn]; exact sgnN_le r
  have H1 := Lib.hid (rest_any h hs r hr)
  have H2 : Hid (∀ W, Kp w W → Calls Tryd.prog 61 #[.string (bytesOf r)] W fun e w' => e = .returned (.int .i64 n) ∧ w' = W) := Lib.hid (fun W k => signLength_any (hE.kp k) r n hn)
  have HZ := Lib.hid h.size
  have hn0 : (0 : Int) ≤ (n : Int) := by omega
  by_cases h0 : n = 0
  · have e1 : nxS .sg s = ⟨s.src, s.M, s.a, s.l, s.st, s.ts, 11, s.l, s.col⟩ := by
      simp [nxS, tokH, St.rd, hr, hn, h0, St.bad]
    have e2 : nxF .sg s = .nilFunc := by simp [nxF, tokH, St.rd, hr, hn, h0]
    rw [e1, e2]
    have H6 : Hid (∀ W, Kp w W → Calls Tryd.prog 62 #[.pointer (some ⟨R, 0, none⟩)] W (StP W R ⟨s.src, s.M, s.a, s.l, s.st, s.ts, 11, s.l, s.col⟩ f .nilFunc)) := Lib.hid (fun W k => wrong_any (h.kp k) hs s.col rfl)
    subst h0
    clear h hs hr hdl hn hnl e1 e2 hE
    go_enter Tryd.func43, Tryd.ntmps43
    go_wp2_with fail
    refine H1.out.mono ?_
    rintro e w1 ⟨rfl, k1⟩
    go_wp2_with fail
    refine (H2.out _ k1).mono ?_
    rintro e w2 ⟨rfl, rfl⟩
    have K3 := Lib.hid k1
    clear k1
    go_wp2_with fail
    refine (H6.out _ K3.out).mono ?_
    rintro e w5 ⟨rfl, tv', h5, b5⟩
    go_wp2
    go_ret
    exact ⟨rfl, tv', h5, (K3.out.down (Nat.le_of_lt HZ.out)).trans b5⟩
  · have e1 : nxS .sg s = ⟨s.src, s.M, s.a + n, s.l, s.st, s.ts ++ [⟨4, r.take n, s.l, s.col, 0⟩], s.fe, s.fl, s.fc⟩ := by
      simp [nxS, tokH, St.rd, hr, hn, h0, St.tok]
    have e2 : nxF .sg s = btw := by simp [nxF, tokH, St.rd, hr, hn, h0]
    rw [e1, e2]
    unfold btw
    have H4 : Hid (∀ W, Kp w W → Calls Tryd.prog 57 #[.pointer (some ⟨R, 0, none⟩), .int .i64 n] W fun e w' => e = .returned (.string (bytesOf (r.take n))) ∧ Kp W w') := Lib.hid (fun W kW => first_any (h.kp kW) hs n (by rw [← hdl]; exact hnl) _ (by rw [hr]))
    have H5 : Hid (∀ W, Kp w W → Calls Tryd.prog 58 #[.pointer (some ⟨R, 0, none⟩), .int .i64 4, .string (bytesOf (r.take n)), .int .u32 0] W fun e w' => e = .returned (.func (.func 19) #[] #[]) ∧ ∃ tv', RdIn w' R ⟨s.src, s.M, s.a + n, s.l, s.st, s.ts ++ [⟨4, r.take n, s.l, s.col, 0⟩], s.fe, s.fl, s.fc⟩ f tv' ∧ Below R W w') := Lib.hid (fun W kW => by
      have hl : (r.take n).length = n := by rw [List.length_take]; omega
      have := token_any (h.kp kW) hs 4 0 (r.take n) (by decide) (by decide) (by rw [hl]; have := hs.a; omega) s.col rfl
      rwa [hl] at this)
    have hne : ((n : Int) == 0) = false := by simpa using h0
    clear h hs hr hdl hn hnl e1 e2 hE h0
    generalize r.take n = tx at *
    go_enter Tryd.func43, Tryd.ntmps43
    go_wp2_with fail
    refine H1.out.mono ?_
    rintro e w1 ⟨rfl, k1⟩
    go_wp2_with fail
    refine (H2.out _ k1).mono ?_
    rintro e w2 ⟨rfl, rfl⟩
    have K3 := Lib.hid k1
    clear k1
    go_wp2_with fail
    refine (H4.out _ K3.out).mono ?_
    rintro e w4 ⟨rfl, k4⟩
    have K4 := Lib.hid (K3.out.trans k4)
    clear k4
    go_wp2_with fail
    refine (H5.out _ K4.out).mono ?_
    rintro e w5 ⟨rfl, tv', h5, b5⟩
    go_wp2
    go_ret
    exact ⟨rfl, tv', h5, (K4.out.down (Nat.le_of_lt HZ.out)).trans b5⟩
theorem hex_any {w : World} (hE : Env w) {R : Nat} {s : St} {f tv : Value} (h : RdIn w R s f tv) (hs : StOk s) (hh : hdOf s.rd = .hx) :
    Calls Tryd.prog 40 #[.pointer (some ⟨R, 0, none⟩)] w (StP w R (nxS .hx s) f (nxF .hx s)) := by
  have H := Lib.hid (number_any hE h hs 2 16 (.inr rfl) hexS (by unfold dgs; rw [if_pos rfl]) s.rd rfl (hx_len hh) s.col rfl (nxF .hx s) (nxS .hx s) (by
    simp only [nxF, nxS, tokH]
    cases numT 2 isHx 16 s.rd with
    | none => exact ⟨rfl, rfl⟩
    | some x => exact ⟨rfl, rfl⟩))
  clear h hs hh hE
  go_enter Tryd.func40, Tryd.ntmps40
  go_wp2_with fail
  refine H.out.mono ?_
  rintro e w5 ⟨rfl, tv', h5, b5⟩
  go_wp2
  go_ret
  exact ⟨rfl, tv', h5, b5⟩
theorem dec_any {w : World} (hE : Env w) {R : Nat} {s : St} {f tv : Value} (h : RdIn w R s f tv) (hs : StOk s) :
    Calls Tryd.prog 42 #[.pointer (some ⟨R, 0, none⟩)] w (StP w R (nxS .dg s) f (nxF .dg s)) := by
  have H := Lib.hid (number_any hE h hs 0 10 (.inl rfl) digitS (by unfold dgs; rw [if_neg (by decide)]) s.rd rfl (Nat.zero_le _) s.col rfl (nxF .dg s) (nxS .dg s) (by
    simp only [nxF, nxS, tokH]
    cases numT 0 isDg 10 s.rd with
    | none => exact ⟨rfl, rfl⟩
    | some x => exact ⟨rfl, rfl⟩))
  clear h hs hE
  go_enter Tryd.func42, Tryd.ntmps42
  go_wp2_with fail
  refine H.out.mono ?_
  rintro e w5 ⟨rfl, tv', h5, b5⟩
  go_wp2
  go_ret
  exact ⟨rfl, tv', h5, b5⟩
/-- between: what stands at the head. -/
theorem first_byte {b : UInt8} {q : List UInt8} : ∀ h : 0 < (bytesOf (b :: q)).size, (bytesOf (b :: q))[0]'h = b := fun _ => rfl
set_option maxHeartbeats 8000000 in
set_option maxRecDepth 100000 in
theorem between_any {w : World} {R : Nat} {s : St} {f tv : Value} (h : RdIn w R s f tv) (hs : StOk s) :
    Calls Tryd.prog 19 #[.pointer (some ⟨R, 0, none⟩)] w fun e w' => e = .returned (fnH (hdOf s.rd)) ∧ Kp w w' := by
  have H1 := Lib.hid (rest_any h hs s.rd rfl)
  clear h hs
  generalize s.rd = r at *
  cases r with
  | nil =>
    have he : (bytesOf []).toList.isEmpty = true := by rw [bytesOf_toList]; rfl
    go_enter Tryd.func19, Tryd.ntmps19
    go_wp2_with fail
    refine H1.out.mono ?_
    rintro e w1 ⟨rfl, k1⟩
    go_wp2
    go_ret
    exact ⟨rfl, k1⟩
  | cons b q =>
    have he : (bytesOf (b :: q)).toList.isEmpty = false := by rw [bytesOf_toList]; rfl
    have hs0 : 0 < (bytesOf (b :: q)).size := by rw [bytesOf_size]; simp
    have hs1 : (0 : Int) < ((bytesOf (b :: q)).size : Int) := by omega
    have hb0 := first_byte (b := b) (q := q) hs0
    obtain ⟨v, hv⟩ : ∃ v, fnH (hdOf (b :: q)) = v := ⟨_, rfl⟩
    rw [hv]
    rw [hd_cons] at hv
    have H28 : Hid (∀ g z W, g.isPrefixOf (b :: q) = z → Calls Tryd.prog 28 #[.string (bytesOf (b :: q)), .string (bytesOf g)] W fun e w' => e = .returned (.bool z) ∧ w' = W) := Lib.hid (fun g z W e => hasPrefix_any (b :: q) g W z e)
    have e1 : bytesOf [47, 47] = ⟨#[47, 47]⟩ := rfl
    have e2 : bytesOf [48, 120] = ⟨#[48, 120]⟩ := rfl
    generalize hu : [47, 47].isPrefixOf (b :: q) = u at *
    generalize hx : [48, 120].isPrefixOf (b :: q) = x at *
    generalize bytesOf (b :: q) = BS at *
    have HV := Lib.hid hv
    have HU := Lib.hid hu
    have HX := Lib.hid hx
    have HBE := Lib.hid hb0
    clear hv hu hx
    obtain ⟨zb, hzb⟩ : ∃ z, isBl b = z := ⟨_, rfl⟩
    obtain ⟨zs, hzs⟩ : ∃ z, stW b = z := ⟨_, rfl⟩
    obtain ⟨zd, hzd⟩ : ∃ z, isDg b = z := ⟨_, rfl⟩
    have HBL : Hid (isBl BS[0] = zb) := Lib.hid ((congrArg isBl hb0).trans hzb)
    have HST : Hid (stW BS[0] = zs) := Lib.hid ((congrArg stW hb0).trans hzs)
    have HDG : Hid (isDg BS[0] = zd) := Lib.hid ((congrArg isDg hb0).trans hzd)
    rw [hzb, hzs, hzd] at HV
    by_cases h10 : b = 10
    · have h0 : ((BS[0].toNat : Int) == 10) = true := by rw [hb0, h10]; decide
      have HV := Lib.hid HV.out
      clear hb0 hzb hzs hzd
      have HV2 : Hid (fnH .nl = v) := Lib.hid (by have e := HV.out; rw [if_pos h10] at e; exact e)
      clear e1 e2
      go_enter Tryd.func19, Tryd.ntmps19
      go_wp2_with fail
      refine H1.out.mono ?_
      rintro e w1 ⟨rfl, k1⟩
      go_wp2_with (first
        | (go_at_call 35; refine (isBlank_any BS[0] _ _ HBL.out).mono ?_; rintro e w2 ⟨rfl, rfl⟩)
        | (go_at_call 28; refine (H28.out [47, 47] _ _ HU.out).mono ?_; rintro e w2 ⟨rfl, rfl⟩)
        | (go_at_call 28; refine (H28.out [48, 120] _ _ HX.out).mono ?_; rintro e w2 ⟨rfl, rfl⟩)
        | (go_at_call 38; refine (startsWord_any BS[0] _ _ HST.out).mono ?_; rintro e w2 ⟨rfl, rfl⟩)
        | (go_at_call 41; refine (isDigit_any BS[0] _ _ HDG.out).mono ?_; rintro e w2 ⟨rfl, rfl⟩))
      go_ret
      exact ⟨by rw [← HV2.out]; rfl, k1⟩
    · have h0 : ((BS[0].toNat : Int) == 10) = false := by
        rw [hb0]
        have : b.toNat ≠ 10 := fun e => h10 (UInt8.toNat_inj.1 e)
        simp only [beq_eq_false_iff_ne, ne_eq]
        omega
      clear hb0 hzb hzs hzd
      cases zb with
      | true =>
        have HV2 : Hid (fnH .bl = v) := Lib.hid (by have e := HV.out; rw [if_neg h10, if_pos rfl] at e; exact e)
        clear e1 e2
        go_enter Tryd.func19, Tryd.ntmps19
        go_wp2_with fail
        refine H1.out.mono ?_
        rintro e w1 ⟨rfl, k1⟩
        go_wp2_with (first
          | (go_at_call 35; refine (isBlank_any BS[0] _ _ HBL.out).mono ?_; rintro e w2 ⟨rfl, rfl⟩)
          | (go_at_call 28; refine (H28.out [47, 47] _ _ HU.out).mono ?_; rintro e w2 ⟨rfl, rfl⟩)
          | (go_at_call 28; refine (H28.out [48, 120] _ _ HX.out).mono ?_; rintro e w2 ⟨rfl, rfl⟩)
          | (go_at_call 38; refine (startsWord_any BS[0] _ _ HST.out).mono ?_; rintro e w2 ⟨rfl, rfl⟩)
          | (go_at_call 41; refine (isDigit_any BS[0] _ _ HDG.out).mono ?_; rintro e w2 ⟨rfl, rfl⟩))
        go_ret
        exact ⟨by rw [← HV2.out]; rfl, k1⟩
      | false =>
      cases u with
      | true =>
        have HV2 : Hid (fnH .cm = v) := Lib.hid (by have e := HV.out; rw [if_neg h10, if_neg (by decide), if_pos rfl] at e; exact e)
        clear e1 e2
        go_enter Tryd.func19, Tryd.ntmps19
        go_wp2_with fail
        refine H1.out.mono ?_
        rintro e w1 ⟨rfl, k1⟩
        go_wp2_with (first
          | (go_at_call 35; refine (isBlank_any BS[0] _ _ HBL.out).mono ?_; rintro e w2 ⟨rfl, rfl⟩)
          | (go_at_call 28; refine (H28.out [47, 47] _ _ HU.out).mono ?_; rintro e w2 ⟨rfl, rfl⟩)
          | (go_at_call 28; refine (H28.out [48, 120] _ _ HX.out).mono ?_; rintro e w2 ⟨rfl, rfl⟩)
          | (go_at_call 38; refine (startsWord_any BS[0] _ _ HST.out).mono ?_; rintro e w2 ⟨rfl, rfl⟩)
          | (go_at_call 41; refine (isDigit_any BS[0] _ _ HDG.out).mono ?_; rintro e w2 ⟨rfl, rfl⟩))
        go_ret
        exact ⟨by rw [← HV2.out]; rfl, k1⟩
      | false =>
      cases zs with
      | true =>
        have HV2 : Hid (fnH .wd = v) := Lib.hid (by have e := HV.out; rw [if_neg h10, if_neg (by decide), if_neg (by decide), if_pos rfl] at e; exact e)
        clear e1 e2
        go_enter Tryd.func19, Tryd.ntmps19
        go_wp2_with fail
        refine H1.out.mono ?_
        rintro e w1 ⟨rfl, k1⟩
        go_wp2_with (first
          | (go_at_call 35; refine (isBlank_any BS[0] _ _ HBL.out).mono ?_; rintro e w2 ⟨rfl, rfl⟩)
          | (go_at_call 28; refine (H28.out [47, 47] _ _ HU.out).mono ?_; rintro e w2 ⟨rfl, rfl⟩)
          | (go_at_call 28; refine (H28.out [48, 120] _ _ HX.out).mono ?_; rintro e w2 ⟨rfl, rfl⟩)
          | (go_at_call 38; refine (startsWord_any BS[0] _ _ HST.out).mono ?_; rintro e w2 ⟨rfl, rfl⟩)
          | (go_at_call 41; refine (isDigit_any BS[0] _ _ HDG.out).mono ?_; rintro e w2 ⟨rfl, rfl⟩))
        go_ret
        exact ⟨by rw [← HV2.out]; rfl, k1⟩
      | false =>
      cases x with
      | true =>
        have HV2 : Hid (fnH .hx = v) := Lib.hid (by have e := HV.out; rw [if_neg h10, if_neg (by decide), if_neg (by decide), if_neg (by decide), if_pos rfl] at e; exact e)
        clear e1 e2
        go_enter Tryd.func19, Tryd.ntmps19
        go_wp2_with fail
        refine H1.out.mono ?_
        rintro e w1 ⟨rfl, k1⟩
        go_wp2_with (first
          | (go_at_call 35; refine (isBlank_any BS[0] _ _ HBL.out).mono ?_; rintro e w2 ⟨rfl, rfl⟩)
          | (go_at_call 28; refine (H28.out [47, 47] _ _ HU.out).mono ?_; rintro e w2 ⟨rfl, rfl⟩)
          | (go_at_call 28; refine (H28.out [48, 120] _ _ HX.out).mono ?_; rintro e w2 ⟨rfl, rfl⟩)
          | (go_at_call 38; refine (startsWord_any BS[0] _ _ HST.out).mono ?_; rintro e w2 ⟨rfl, rfl⟩)
          | (go_at_call 41; refine (isDigit_any BS[0] _ _ HDG.out).mono ?_; rintro e w2 ⟨rfl, rfl⟩))
        go_ret
        exact ⟨by rw [← HV2.out]; rfl, k1⟩
      | false =>
      cases zd with
      | true =>
        have HV2 : Hid (fnH .dg = v) := Lib.hid (by have e := HV.out; rw [if_neg h10, if_neg (by decide), if_neg (by decide), if_neg (by decide), if_neg (by decide), if_pos rfl] at e; exact e)
        clear e1 e2
        go_enter Tryd.func19, Tryd.ntmps19
        go_wp2_with fail
        refine H1.out.mono ?_
        rintro e w1 ⟨rfl, k1⟩
        go_wp2_with (first
          | (go_at_call 35; refine (isBlank_any BS[0] _ _ HBL.out).mono ?_; rintro e w2 ⟨rfl, rfl⟩)
          | (go_at_call 28; refine (H28.out [47, 47] _ _ HU.out).mono ?_; rintro e w2 ⟨rfl, rfl⟩)
          | (go_at_call 28; refine (H28.out [48, 120] _ _ HX.out).mono ?_; rintro e w2 ⟨rfl, rfl⟩)
          | (go_at_call 38; refine (startsWord_any BS[0] _ _ HST.out).mono ?_; rintro e w2 ⟨rfl, rfl⟩)
          | (go_at_call 41; refine (isDigit_any BS[0] _ _ HDG.out).mono ?_; rintro e w2 ⟨rfl, rfl⟩))
        go_ret
        exact ⟨by rw [← HV2.out]; rfl, k1⟩
      | false =>
        have HV2 : Hid (fnH .sg = v) := Lib.hid (by have e := HV.out; rw [if_neg h10, if_neg (by decide), if_neg (by decide), if_neg (by decide), if_neg (by decide), if_neg (by decide)] at e; exact e)
        clear e1 e2
        go_enter Tryd.func19, Tryd.ntmps19
        go_wp2_with fail
        refine H1.out.mono ?_
        rintro e w1 ⟨rfl, k1⟩
        go_wp2_with (first
          | (go_at_call 35; refine (isBlank_any BS[0] _ _ HBL.out).mono ?_; rintro e w2 ⟨rfl, rfl⟩)
          | (go_at_call 28; refine (H28.out [47, 47] _ _ HU.out).mono ?_; rintro e w2 ⟨rfl, rfl⟩)
          | (go_at_call 28; refine (H28.out [48, 120] _ _ HX.out).mono ?_; rintro e w2 ⟨rfl, rfl⟩)
          | (go_at_call 38; refine (startsWord_any BS[0] _ _ HST.out).mono ?_; rintro e w2 ⟨rfl, rfl⟩)
          | (go_at_call 41; refine (isDigit_any BS[0] _ _ HDG.out).mono ?_; rintro e w2 ⟨rfl, rfl⟩))
        go_ret
        exact ⟨by rw [← HV2.out]; rfl, k1⟩
end Lx
end Go.Proofs.YtlgkcjhoaecekaaDoor
