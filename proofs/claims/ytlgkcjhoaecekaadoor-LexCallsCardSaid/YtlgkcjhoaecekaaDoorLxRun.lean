/-
  WALKS: package lex, the machine: what a run of states keeps. Own work.
-/
import Derived.Test.YtlgkcjhoaecekaaDoorLxSt
namespace Go.Proofs.YtlgkcjhoaecekaaDoor
namespace Lx
open Go.RowKit Go
set_option linter.unusedVariables false

theorem hd_fin {s : List UInt8} (h : hdOf s = .fin) : s = [] := by
  cases s with
  | nil => rfl
  | cons b q =>
    rw [hd_cons] at h
    repeat' split at h
    all_goals cases h
/-- The machine runs: what is found and what is left make the result. -/
structure Inv (Res : Except (Int × Int) (List Tk)) (s : St) : Prop where
  ok : StOk s
  fe : s.fe = 0
  fl : s.fl = 0
  fc : s.fc = 0
  res : pre s.ts (Lex s.rd s.l s.col) = Res
/-- The machine has ended. -/
def Fin' (Res : Except (Int × Int) (List Tk)) (s : St) : Prop := (s.fe = 0 ∧ s.fl = 0 ∧ s.fc = 0 ∧ Res = .ok s.ts) ∨ (s.fe = 11 ∧ Res = .error (s.fl, s.fc))
theorem pre_push {us : List Tk} {t : Tk} {r : Except (Int × Int) (List Tk)} : pre us (push t r) = pre (us ++ [t]) r := by
  cases r <;> simp [pre, push]
theorem rd_to (s : St) (n : Nat) : (s.to n).rd = s.rd.drop n := by
  unfold St.rd St.to
  simp [List.drop_drop]
theorem rd_len {s : St} (h : StOk s) : s.rd.length = s.src.length - s.a := List.length_drop
theorem col_to (s : St) (n : Nat) : (s.to n).col = s.col + n := by unfold St.col St.to; simp; omega
theorem ok_to {s : St} (h : StOk s) {n : Nat} (hn : n ≤ s.rd.length) : StOk (s.to n) := by
  have := rd_len h
  obtain ⟨h1, h2, h3, h4, h5, h6, h7⟩ := h
  exact ⟨h1, by simp only [St.to]; omega, h3, by simp only [St.to]; omega, h5, by simp only [St.to]; omega, by simp only [St.to]; omega⟩
theorem ok_tok {s : St} (h : StOk s) {k v : Int} {n : Nat} (hn : 0 < n ∧ n ≤ s.rd.length) : StOk (s.tok k n v) := by
  have := rd_len h
  obtain ⟨h1, h2, h3, h4, h5, h6, h7⟩ := h
  exact ⟨h1, by simp only [St.tok]; omega, h3, by simp only [St.tok]; omega, h5, by simp only [St.tok]; omega, by simp only [St.tok, List.length_append, List.length_singleton]; omega⟩
theorem inv_gap {Res : Except (Int × Int) (List Tk)} {s : St} (h : Inv Res s) {n : Nat} (hn : n ≤ s.rd.length) (e : Lex s.rd s.l s.col = Lex (s.rd.drop n) s.l (s.col + n)) : Inv Res (s.to n) :=
  ⟨ok_to h.ok hn, h.fe, h.fl, h.fc, by rw [rd_to, col_to]; show pre s.ts (Lex (s.rd.drop n) s.l (s.col + n)) = Res; rw [← e]; exact h.res⟩
/-- What a state does to the machine, and how much nearer it comes to its end. -/
theorem nx_inv {Res : Except (Int × Int) (List Tk)} {s : St} (h : Inv Res s) {hd : Hd} (hh : hdOf s.rd = hd) (hf : hd ≠ .fin) :
    (nxF hd s = btw ∧ Inv Res (nxS hd s) ∧ s.a < (nxS hd s).a ∧ (nxS hd s).src = s.src) ∨ (nxF hd s = .nilFunc ∧ Fin' Res (nxS hd s)) := by
  have tok : ∀ h0, hd = h0 → IsTok h0 → nxS hd s = (match tokH hd s.rd with | some (k, n, v) => s.tok k n v | none => s.bad) → nxF hd s = (match tokH hd s.rd with | some _ => btw | none => .nilFunc) →
      (nxF hd s = btw ∧ Inv Res (nxS hd s) ∧ s.a < (nxS hd s).a ∧ (nxS hd s).src = s.src) ∨ (nxF hd s = .nilFunc ∧ Fin' Res (nxS hd s)) := by
    intro h0 e0 ht e1 e2
    rw [e1, e2]
    cases hx : tokH hd s.rd with
    | none =>
      refine .inr ⟨rfl, .inr ⟨rfl, ?_⟩⟩
      have := Lex_no (s := s.rd) (l := s.l) (c := s.col) (by rw [hh, e0]; exact ht) (by rw [hh]; exact hx)
      rw [← h.res, this]
      rfl
    | some x =>
      obtain ⟨k, n, v⟩ := x
      have hx' : tokH (hdOf s.rd) s.rd = some (k, n, v) := by rw [hh]; exact hx
      have hl := tokH_len hx'
      refine .inl ⟨rfl, ⟨ok_tok h.ok hl, h.fe, h.fl, h.fc, ?_⟩, by simp only [St.tok]; omega, rfl⟩
      have e := Lex_yes (s := s.rd) (l := s.l) (c := s.col) hx'
      have r1 : (s.tok k n v).rd = s.rd.drop n := by unfold St.rd St.tok; simp [List.drop_drop]
      have c1 : (s.tok k n v).col = s.col + n := by unfold St.col St.tok; simp; omega
      rw [r1, c1]
      show pre (s.ts ++ [⟨k, s.rd.take n, s.l, s.col, v⟩]) (Lex (s.rd.drop n) s.l (s.col + n)) = Res
      rw [← pre_push, ← e]
      exact h.res
  cases hd with
  | fin => exact absurd rfl hf
  | nl =>
    have hs := nl_head hh
    have hl : 0 < s.rd.length := by rw [hs]; simp
    have hr := rd_len h.ok
    refine .inl ⟨rfl, ⟨?_, h.fe, h.fl, h.fc, ?_⟩, by simp only [nxS]; omega, rfl⟩
    · obtain ⟨h1, h2, h3, h4, h5, h6, h7⟩ := h.ok
      exact ⟨h1, by simp only [nxS]; omega, by simp only [nxS]; omega, by simp only [nxS]; omega, by simp only [nxS]; omega, by simp only [nxS]; omega, by simp only [nxS]; omega⟩
    · have e := Lex_nl (s := s.rd) (l := s.l) (c := s.col) hh
      have r1 : (nxS .nl s).rd = s.rd.drop 1 := by unfold St.rd nxS; simp [List.drop_drop]
      have c1 : (nxS .nl s).col = 1 := by unfold St.col nxS; simp
      rw [r1, c1]
      show pre s.ts (Lex (s.rd.drop 1) (s.l + 1) 1) = Res
      rw [← e]
      exact h.res
  | bl => exact .inl ⟨rfl, inv_gap h (spn_le _ _) (Lex_bl hh), by have := bl_pos hh; simp only [nxS, St.to]; omega, rfl⟩
  | cm => exact .inl ⟨rfl, inv_gap h (spn_le _ _) (Lex_cm hh), by have := cm_pos hh; simp only [nxS, St.to]; omega, rfl⟩
  | wd => exact tok .wd rfl (.inl rfl) rfl rfl
  | hx => exact tok .hx rfl (.inr (.inl rfl)) rfl rfl
  | dg => exact tok .dg rfl (.inr (.inr (.inl rfl))) rfl rfl
  | sg => exact tok .sg rfl (.inr (.inr (.inr rfl))) rfl rfl
theorem inv_fin {Res : Except (Int × Int) (List Tk)} {s : St} (h : Inv Res s) (hh : hdOf s.rd = .fin) : Fin' Res s := by
  refine .inl ⟨h.fe, h.fl, h.fc, ?_⟩
  rw [← h.res, Lex_fin hh]
  simp [pre]
/-- The machine in a state. -/
def Run (Res : Except (Int × Int) (List Tk)) (s : St) (f : Value) : Prop :=
  (f = btw ∧ Inv Res s) ∨ (∃ h, h ≠ .fin ∧ f = fnH h ∧ hdOf s.rd = h ∧ Inv Res s) ∨ (f = .nilFunc ∧ Fin' Res s)
def mzF : Value → Nat
  | .func (.func n) _ _ => if n = 19 then 2 else 1
  | _ => 0
def mz (N a : Nat) (f : Value) : Nat := if mzF f = 0 then 0 else 2 * (N - a) + mzF f
def mzW (N R : Nat) (w : World) : Nat := match w.cell? ⟨R, 0, none⟩, w.cell? ⟨R, 3, none⟩ with
  | some f, some (.int _ a) => mz N a.toNat f
  | _, _ => 0
theorem mzW_rd {w : World} {R : Nat} {s : St} {f tv : Value} (h : RdIn w R s f tv) (N : Nat) : mzW N R w = mz N s.a f := by
  unfold mzW
  rw [h.c0, h.c3]
  simp
/-- A state that may be called. -/
structure Can (f : Value) (F : FuncId) : Prop where
  is : f = .func (.func F) #[] #[]
  ent : ∀ (args : Array Value) (w : World), Sem.run Tryd.prog (callFunc F args) w = .ok (.enter F args) w
theorem StP.of {w w' : World} {R : Nat} {s : St} {f tv g : Value} {e : Ending} (h : RdIn w R s f tv) (he : e = .returned g) (k : Kp w w') : StP w R s f g e w' :=
  ⟨he, tv, h.kp k, k.down (Nat.le_of_lt h.size)⟩
/-- A step of the machine: the state that is called, what it leaves, and that it comes nearer to its end. -/
theorem run_step {Res : Except (Int × Int) (List Tk)} {s : St} {f : Value} (h : Run Res s f) (hnot : f ≠ .nilFunc) :
    ∃ F s' g, Can f F ∧ (g = .nilFunc ∨ ∃ G, g = .func (.func G) #[] #[]) ∧ Run Res s' g ∧ mz s.src.length s'.a g < mz s.src.length s.a f ∧ s'.src = s.src ∧
      ∀ w R tv, Env w → RdIn w R s f tv → Calls Tryd.prog F #[.pointer (some ⟨R, 0, none⟩)] w (StP w R s' f g) := by
  rcases h with ⟨rfl, hi⟩ | ⟨hd, hf, rfl, hh, hi⟩ | ⟨rfl, _⟩
  · refine ⟨19, s, fnH (hdOf s.rd), ⟨rfl, fun _ _ => by kernel_rfl⟩, ?_, ?_, ?_, rfl, fun w R tv hE hr => (between_any hr hi.ok).mono fun e w' h => StP.of hr h.1 h.2⟩
    · cases hdOf s.rd
      · exact .inl rfl
      all_goals exact .inr ⟨_, rfl⟩
    · by_cases e : hdOf s.rd = .fin
      · exact .inr (.inr ⟨by rw [e]; rfl, inv_fin hi e⟩)
      · exact .inr (.inl ⟨hdOf s.rd, e, rfl, rfl, hi⟩)
    · have m1 : mz s.src.length s.a btw = 2 * (s.src.length - s.a) + 2 := rfl
      rw [m1]
      cases hdOf s.rd <;> simp [mz, mzF, fnH] <;> omega
  · have key : ∀ F, Can (fnH hd) F → mzF (fnH hd) = 1 → (∀ w R tv, Env w → RdIn w R s (fnH hd) tv → Calls Tryd.prog F #[.pointer (some ⟨R, 0, none⟩)] w (StP w R (nxS hd s) (fnH hd) (nxF hd s))) →
        ∃ F s' g, Can (fnH hd) F ∧ (g = .nilFunc ∨ ∃ G, g = .func (.func G) #[] #[]) ∧ Run Res s' g ∧ mz s.src.length s'.a g < mz s.src.length s.a (fnH hd) ∧ s'.src = s.src ∧
          ∀ w R tv, Env w → RdIn w R s (fnH hd) tv → Calls Tryd.prog F #[.pointer (some ⟨R, 0, none⟩)] w (StP w R s' (fnH hd) g) := by
      intro F hc hm hcall
      have m1 : mz s.src.length s.a (fnH hd) = 2 * (s.src.length - s.a) + 1 := by unfold mz; rw [hm]; rfl
      rcases nx_inv hi hh hf with ⟨e, hi2, hlt, hsrc⟩ | ⟨e, hfin⟩
      · refine ⟨F, nxS hd s, btw, hc, .inr ⟨_, rfl⟩, .inl ⟨rfl, hi2⟩, ?_, hsrc, fun w R tv hE hr => by rw [← e]; exact hcall w R tv hE hr⟩
        rw [m1]
        have m2 : mz s.src.length (nxS hd s).a btw = 2 * (s.src.length - (nxS hd s).a) + 2 := rfl
        rw [m2]
        have := hi2.ok.a
        rw [hsrc] at this
        omega
      · refine ⟨F, nxS hd s, .nilFunc, hc, .inl rfl, .inr (.inr ⟨rfl, hfin⟩), ?_, ?_, fun w R tv hE hr => by rw [← e]; exact hcall w R tv hE hr⟩
        · rw [m1]
          have : mz s.src.length (nxS hd s).a .nilFunc = 0 := rfl
          omega
        · cases hd <;> first | rfl | (simp only [nxS]; split <;> rfl)
    cases hd with
    | fin => exact absurd rfl hf
    | nl => exact key _ ⟨rfl, fun _ _ => by kernel_rfl⟩ rfl (fun w R tv hE hr => lineEnd_any hr hi.ok)
    | bl => exact key _ ⟨rfl, fun _ _ => by kernel_rfl⟩ rfl (fun w R tv hE hr => blanks_any hr hi.ok _ rfl)
    | cm => exact key _ ⟨rfl, fun _ _ => by kernel_rfl⟩ rfl (fun w R tv hE hr => comment_any hr hi.ok _ rfl)
    | wd => exact key _ ⟨rfl, fun _ _ => by kernel_rfl⟩ rfl (fun w R tv hE hr => word_any hr hi.ok _ rfl _ rfl _ rfl _ rfl)
    | hx => exact key _ ⟨rfl, fun _ _ => by kernel_rfl⟩ rfl (fun w R tv hE hr => hex_any hE hr hi.ok hh)
    | dg => exact key _ ⟨rfl, fun _ _ => by kernel_rfl⟩ rfl (fun w R tv hE hr => dec_any hE hr hi.ok)
    | sg => exact key _ ⟨rfl, fun _ _ => by kernel_rfl⟩ rfl (fun w R tv hE hr => sign_any hE hr hi.ok)
  · exact absurd rfl hnot
end Lx
end Go.Proofs.YtlgkcjhoaecekaaDoor
