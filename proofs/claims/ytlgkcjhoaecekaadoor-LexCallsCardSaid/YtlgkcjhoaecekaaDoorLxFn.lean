/-
  WALKS: package lex, sorts of bytes; span. Own work.
-/
import Derived.Test.YtlgkcjhoaecekaaDoorLxBase
import Derived.Test.YtlgkcjhoaecekaaDoorLxJoin
namespace Go.Proofs.YtlgkcjhoaecekaaDoor
namespace Lx
open Go.RowKit Go
set_option linter.unusedVariables false

theorem u8_all {P : UInt8 → Prop} (h : ∀ n : Fin 256, P (UInt8.ofNat n.val)) (b : UInt8) : P b := by
  have := h ⟨b.toNat, b.toNat_lt⟩
  have e : UInt8.ofNat b.toNat = b := by simp
  rwa [show ((⟨b.toNat, b.toNat_lt⟩ : Fin 256).val) = b.toNat from rfl, e] at this
theorem isBl_i : ∀ b : UInt8, isBl b = decide ((b.toNat : Int) = 32 ∨ (b.toNat : Int) = 9 ∨ (b.toNat : Int) = 13) := u8_all (by decide +kernel)
theorem isDg_i : ∀ b : UInt8, isDg b = decide (48 ≤ (b.toNat : Int) ∧ (b.toNat : Int) ≤ 57) := u8_all (by decide +kernel)
theorem hxl_i : ∀ b : UInt8, isHx b = (isDg b || decide (97 ≤ (b.toNat : Int) ∧ (b.toNat : Int) ≤ 102)) := u8_all (by decide +kernel)
theorem stW_i : ∀ b : UInt8, stW b = decide ((97 ≤ (b.toNat : Int) ∧ (b.toNat : Int) ≤ 122) ∨ (b.toNat : Int) = 95) := u8_all (by decide +kernel)
theorem stick_i : ∀ b : UInt8, stick b = (inW b || decide (65 ≤ (b.toNat : Int) ∧ (b.toNat : Int) ≤ 90)) := u8_all (by decide +kernel)
theorem noNl_i : ∀ b : UInt8, noNl b = !decide ((b.toNat : Int) = 10) := u8_all (by decide +kernel)
theorem u8_lo (b : UInt8) : (0 : Int) ≤ (b.toNat : Int) ∧ (b.toNat : Int) ≤ 255 := by have := b.toNat_lt; omega
/-- A function value that tells a sort of bytes. -/
def SrtC (F : FuncId) (p : UInt8 → Bool) : Prop := ∀ (b : UInt8) (w : World) (r : Bool), p b = r → Calls Tryd.prog F #[.int .u8 (b.toNat : Int)] w fun e w' => e = .returned (.bool r) ∧ w' = w
theorem isBlank_any : SrtC 35 isBl := by
  intro b w r hr
  rw [isBl_i] at hr
  obtain ⟨h0, h1⟩ := u8_lo b
  generalize (b.toNat : Int) = x at *
  have HR := Lib.hid hr
  clear hr
  by_cases a1 : x = 32
  · subst a1
    go_enter Tryd.func35, Tryd.ntmps35
    go_wp2
    go_ret
    exact ⟨ret_bool (by rw [← HR.out]; rfl), rfl⟩
  · by_cases a2 : x = 9
    · subst a2
      go_enter Tryd.func35, Tryd.ntmps35
      go_wp2
      go_ret
      exact ⟨ret_bool (by rw [← HR.out]; rfl), rfl⟩
    · go_enter Tryd.func35, Tryd.ntmps35
      go_wp2
      go_ret
      exact ⟨ret_bool (by rw [← HR.out]; rw [Bool.eq_iff_iff]; simp <;> omega), rfl⟩
theorem isDigit_any : SrtC 41 isDg := by
  intro b w r hr
  rw [isDg_i] at hr
  obtain ⟨h0, h1⟩ := u8_lo b
  generalize (b.toNat : Int) = x at *
  have HR := Lib.hid hr
  clear hr
  by_cases a1 : 48 ≤ x
  all_goals
    go_enter Tryd.func41, Tryd.ntmps41
    go_wp2
    go_ret
    exact ⟨ret_bool (by rw [← HR.out]; rw [Bool.eq_iff_iff]; simp <;> omega), rfl⟩
theorem startsWord_any : SrtC 38 stW := by
  intro b w r hr
  rw [stW_i] at hr
  obtain ⟨h0, h1⟩ := u8_lo b
  generalize (b.toNat : Int) = x at *
  have HR := Lib.hid hr
  clear hr
  by_cases a1 : 97 ≤ x
  · by_cases a2 : x ≤ 122
    all_goals
      go_enter Tryd.func38, Tryd.ntmps38
      go_wp2
      go_ret
      exact ⟨ret_bool (by rw [← HR.out]; rw [Bool.eq_iff_iff]; simp <;> omega), rfl⟩
  · go_enter Tryd.func38, Tryd.ntmps38
    go_wp2
    go_ret
    exact ⟨ret_bool (by rw [← HR.out]; rw [Bool.eq_iff_iff]; simp <;> omega), rfl⟩
theorem notNl_any : SrtC 56 noNl := by
  intro b w r hr
  rw [noNl_i] at hr
  obtain ⟨h0, h1⟩ := u8_lo b
  generalize (b.toNat : Int) = x at *
  have HR := Lib.hid hr
  clear hr
  go_enter Tryd.func56, Tryd.ntmps56
  go_wp2
  go_ret
  exact ⟨ret_bool (by rw [← HR.out]; first | rfl | simp [bne] | (by_cases e : x = 10 <;> simp [e])), rfl⟩
theorem inWord_any : SrtC 49 inW := by
  intro b w r hr
  unfold inW at hr
  have HR := Lib.hid hr
  clear hr
  cases h1 : stW b <;> cases h2 : isDg b
  all_goals
    have H1 := Lib.hid h1
    have H2 := Lib.hid h2
    clear h1 h2
    go_enter Tryd.func49, Tryd.ntmps49
    go_wp2_with (first
      | (go_at_call 38; refine (startsWord_any b _ _ H1.out).mono ?_; rintro e w1 ⟨rfl, rfl⟩)
      | (go_at_call 41; refine (isDigit_any b _ _ H2.out).mono ?_; rintro e w1 ⟨rfl, rfl⟩))
    go_ret
    exact ⟨ret_bool (by rw [← HR.out, H1.out, H2.out]; rfl), rfl⟩
theorem isHexDigit_any : SrtC 60 isHx := by
  intro b w r hr
  rw [hxl_i] at hr
  have hx := u8_lo b
  obtain ⟨x, ex⟩ : ∃ x, (b.toNat : Int) = x := ⟨_, rfl⟩
  rw [ex] at hr hx
  have HR := Lib.hid hr
  have EX := Lib.hid ex
  cases h2 : isDg b
  · have H2 := Lib.hid h2
    have C := isDigit_any b w _ H2.out
    rw [ex] at C ⊢
    have HC := Lib.hid C
    clear h2 hr ex C
    obtain ⟨h0, h1⟩ := hx
    by_cases a1 : 97 ≤ x
    all_goals
      go_enter Tryd.func60, Tryd.ntmps60
      go_wp2_with (go_at_call 41; refine HC.out.mono ?_; rintro e w1 ⟨rfl, rfl⟩)
      go_ret
      exact ⟨ret_bool (by rw [← HR.out, H2.out]; rw [Bool.eq_iff_iff]; simp <;> omega), rfl⟩
  · have H2 := Lib.hid h2
    have C := isDigit_any b w _ H2.out
    rw [ex] at C ⊢
    have HC := Lib.hid C
    clear h2 hr ex C
    go_enter Tryd.func60, Tryd.ntmps60
    go_wp2_with (go_at_call 41; refine HC.out.mono ?_; rintro e w1 ⟨rfl, rfl⟩)
    go_ret
    exact ⟨ret_bool (by rw [← HR.out, H2.out]; rfl), rfl⟩
theorem sticks_any : SrtC 69 stick := by
  intro b w r hr
  rw [stick_i] at hr
  have hx := u8_lo b
  obtain ⟨x, ex⟩ : ∃ x, (b.toNat : Int) = x := ⟨_, rfl⟩
  rw [ex] at hr hx
  have HR := Lib.hid hr
  have EX := Lib.hid ex
  cases h2 : inW b
  · have H2 := Lib.hid h2
    have C := inWord_any b w _ H2.out
    rw [ex] at C ⊢
    have HC := Lib.hid C
    clear h2 hr ex C
    obtain ⟨h0, h1⟩ := hx
    by_cases a1 : 65 ≤ x
    all_goals
      go_enter Tryd.func69, Tryd.ntmps69
      go_wp2_with (go_at_call 49; refine HC.out.mono ?_; rintro e w1 ⟨rfl, rfl⟩)
      go_ret
      exact ⟨ret_bool (by rw [← HR.out, H2.out]; rw [Bool.eq_iff_iff]; simp <;> omega), rfl⟩
  · have H2 := Lib.hid h2
    have C := inWord_any b w _ H2.out
    rw [ex] at C ⊢
    have HC := Lib.hid C
    clear h2 hr ex C
    go_enter Tryd.func69, Tryd.ntmps69
    go_wp2_with (go_at_call 49; refine HC.out.mono ?_; rintro e w1 ⟨rfl, rfl⟩)
    go_ret
    exact ⟨ret_bool (by rw [← HR.out, H2.out]; rfl), rfl⟩
/-- .. that may be handed over as a value. -/
structure Srt (F : FuncId) (p : UInt8 → Bool) : Prop where
  call : SrtC F p
  ent : ∀ (args : Array Value) (w : World), Sem.run Tryd.prog (callFunc F args) w = .ok (.enter F args) w
theorem blankS : Srt 35 isBl := ⟨isBlank_any, fun _ _ => by kernel_rfl⟩
theorem digitS : Srt 41 isDg := ⟨isDigit_any, fun _ _ => by kernel_rfl⟩
theorem hexS : Srt 60 isHx := ⟨isHexDigit_any, fun _ _ => by kernel_rfl⟩
theorem inWordS : Srt 49 inW := ⟨inWord_any, fun _ _ => by kernel_rfl⟩
theorem notNlS : Srt 56 noNl := ⟨notNl_any, fun _ _ => by kernel_rfl⟩
theorem byte_at (s : List UInt8) (k : Nat) (h : k < (bytesOf s).size) (h2 : k < s.length) : (bytesOf s)[k] = s[k] := by
  show (bytesOf s).data[k] = s[k]
  rfl
theorem spn_stop {p : UInt8 → Bool} : ∀ {s : List UInt8} {k : Nat} (hk : k < s.length), (∀ j (hj : j < s.length), j < k → p s[j] = true) → p s[k] = false → spn p s = k
  | [], k, hk, _, _ => absurd hk (Nat.not_lt_zero _)
  | b :: s, 0, _, _, h => spn_cons_f h
  | b :: s, k + 1, hk, h, hf => by
    have h0 := h 0 (by simp) (by omega)
    rw [spn_cons_t (show p b = true from h0), spn_stop (s := s) (k := k) (by simpa using hk) (fun j hj hjk => h (j + 1) (by simp; omega) (by omega)) hf]
set_option maxRecDepth 100000 in
theorem span_any {F : FuncId} {p : UInt8 → Bool} (hF : Srt F p) (s : List UInt8) (hl : s.length ≤ 4611686018427387904) (w : World) (n : Nat) (hn : spn p s = n) :
    Calls Tryd.prog 48 #[.string (bytesOf s), .func (.func F) #[] #[]] w fun e w' => e = .returned (.int .i64 n) ∧ w' = w := by
  have hsz : (bytesOf s).size = s.length := bytesOf_size s
  have HZ := Lib.hid hsz
  have hm : ((bytesOf s).size : Int) ≤ 4611686018427387904 := by rw [hsz]; omega
  have HN := Lib.hid hn
  have hent := hF.ent
  have HC := Lib.hid hF.call
  clear hsz hn hl hF
  go_enter Tryd.func48, Tryd.ntmps48
  go_wp2_with fail
  go_loop [8] (fun i => ∃ k : Nat, k ≤ (bytesOf s).size ∧ i = .int .i64 k ∧ Hid (∀ j (hj : j < s.length), j < k → p s[j] = true)) (fun i => (bytesOf s).size - (intOf i).toNat)
  case atStart => exact ⟨0, Nat.zero_le _, rfl, Lib.hid (fun j hj h => absurd h (Nat.not_lt_zero _))⟩
  case round =>
    obtain ⟨k, hk, rfl, hall⟩ := hrel
    by_cases hlt : k < (bytesOf s).size
    · have hb := byte_at s k hlt (by rw [← HZ.out]; exact hlt)
      cases hp : p (bytesOf s)[k]
      · have HP := Lib.hid hp
        have HB := Lib.hid hb
        clear hp hb
        go_wp2_with fail
        refine (HC.out (bytesOf s)[k] _ _ HP.out).mono ?_
        rintro e w1 ⟨rfl, rfl⟩
        go_wp2
        go_ret
        exact ⟨ret_int (by rw [← HN.out, spn_stop (k := k) (by rw [← HZ.out]; exact hlt) hall.out (by rw [← HB.out]; exact HP.out)]), rfl⟩
      · have HP := Lib.hid hp
        have HB := Lib.hid hb
        clear hp hb
        go_wp2_with fail
        refine (HC.out (bytesOf s)[k] _ _ HP.out).mono ?_
        rintro e w1 ⟨rfl, rfl⟩
        go_wp2
        go_round
        case rel => exact ⟨k + 1, by omega, by go_num, Lib.hid (fun j hj h => by
          by_cases e : j = k
          · subst e; rw [← HB.out]; exact HP.out
          · exact hall.out j hj (by omega))⟩
        case measure => simp [intOf]; omega
    · have e : (bytesOf s).size = n := by
        rw [HZ.out, ← HN.out]
        exact (spn_all (fun b hb => by
          obtain ⟨j, hj, rfl⟩ := List.getElem_of_mem hb
          exact hall.out j hj (by have := HZ.out; omega))).symm
      have HEE := Lib.hid e
      clear e
      go_wp2
      go_ret
      exact ⟨ret_int (by rw [HEE.out]), rfl⟩
end Lx
end Go.Proofs.YtlgkcjhoaecekaaDoor
