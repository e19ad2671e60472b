/-
  WALKS: package image, the walk with three colours: returns, recursion. Own work.
-/
import Derived.Test.YtaeblnlbelebkaaGreatDoorImCalls
namespace Go.Proofs.YtaeblnlbelebkaaGreatDoor
namespace Im
open Go.RowKit Go
open Co (Kp ret_int ret_bool ret2_int In in0 IIn Ics Wf)
open Ln (VIn Vcs)
set_option linter.unusedVariables false

/-- All that was there stands, but for one block. -/
structure Gx (B : Nat) (w w' : World) : Prop where
  size : w.heap.size ≤ w'.heap.size
  block : ∀ k, k < w.heap.size → k ≠ B → w'.heap[k]? = w.heap[k]?
theorem Gx.refl (B : Nat) (w : World) : Gx B w w := ⟨Nat.le_refl _, fun _ _ _ => rfl⟩
theorem Gx.trans {B : Nat} {a b c : World} (h : Gx B a b) (k : Gx B b c) : Gx B a c :=
  ⟨Nat.le_trans h.size k.size, fun i hi hB => (k.block i (Nat.lt_of_lt_of_le hi h.size) hB).trans (h.block i hi hB)⟩
theorem Gx.of_kp {B : Nat} {w w' : World} (k : Kp w w') : Gx B w w' := ⟨k.size, fun i hi _ => k.below.block i hi⟩
theorem Gx.set (B o : Nat) (w : World) (v : Value) : Gx B w (w.setCell ⟨B, o, none⟩ v) := ⟨by simp, fun i _ hB => Below.heap_setCell w _ v i hB⟩
theorem Gx.cell {B : Nat} {w w' : World} (h : Gx B w w') {b o : Nat} (hb : b < w.heap.size) (hB : b ≠ B) : w'.cell? ⟨b, o, none⟩ = w.cell? ⟨b, o, none⟩ := World.cell?_of_block (w := w) (h.block b hb hB)

/-- A walk along the calls, in memory: the image's pointer, and a colour a function. -/
structure WlkIn (w : World) (B p : Nat) (c : Nat → Nat) : Prop where
  size : B < w.heap.size
  c0 : w.cell? ⟨B, 0, none⟩ = some (.pointer (some ⟨p, 0, none⟩))
  at' : ∀ g, g < 64 → w.cell? ⟨B, 1 + g, none⟩ = some (.int .u8 (c g : Int))
  fro : ∀ g, w.frozen? ⟨B, g, none⟩ = false
theorem WlkIn.kp {w w' : World} {B p : Nat} {c : Nat → Nat} (h : WlkIn w B p c) (k : Kp w w') : WlkIn w' B p c :=
  ⟨Nat.lt_of_lt_of_le h.size k.size, (k.cells _ _ h.size).trans h.c0, fun g hg => (k.cells _ _ h.size).trans (h.at' g hg), fun g => (k.fros _ _ h.size).trans (h.fro g)⟩
theorem WlkIn.ext {w : World} {B p : Nat} {c d : Nat → Nat} (h : WlkIn w B p c) (e : ∀ g, c g = d g) : WlkIn w B p d := ⟨h.size, h.c0, fun g hg => by rw [h.at' g hg, e g], h.fro⟩
theorem WlkIn.set {w : World} {B p : Nat} {c : Nat → Nat} (h : WlkIn w B p c) {f : Nat} (hf : f < 64) (x : Nat) : WlkIn (w.setCell ⟨B, 1 + f, none⟩ (.int .u8 (x : Int))) B p (setC c f x) where
  size := by simpa using h.size
  c0 := (World.cell?_setCell_other _ _ _ _ (fun e' => by have := congrArg Addr.off e'; simp at this)).trans h.c0
  at' := fun g hg => by
    by_cases e : g = f
    · subst e; rw [setC_same]; exact World.cell?_setCell_same _ _ _ (h.at' g hg)
    · rw [setC_other _ _ _ e]
      exact (World.cell?_setCell_other _ _ _ _ (fun e' => e (by have := congrArg Addr.off e'; simp at this; omega))).trans (h.at' g hg)
  fro := fun g => by rw [World.frozen?_setCell]; exact h.fro g

/-- What returns answers, and what it leaves. -/
def RetP (m : Im) (w0 w : World) (B p : Nat) (c : Nat → Nat) (f : Nat) (e : Ending) (w' : World) : Prop :=
  ∃ r : Bool, ∃ d : Nat → Nat, e = .returned (.bool r) ∧ WlkIn w' B p d ∧ Kp w0 w' ∧ Gx B w w' ∧ (r = true → Loop m) ∧ (r = false → Cols m d ∧ Went c d ∧ d f = 2)

set_option maxHeartbeats 4000000 in
set_option maxRecDepth 100000 in
theorem returns_n {w0 : World} {p B : Nat} {h : Hd} {m : Im} (hP : Ptr w0 p h m) (hW : ImWf m) (hF : FnsB m) (hI : InsB m) (hn : m.funcs.length ≤ 64) (hB0 : w0.heap.size ≤ B) : ∀ n : Nat, ∀ (w : World) (c : Nat → Nat) (f : Nat), whites c < n → f < m.funcs.length → WlkIn w B p c → Kp w0 w → Cols m c → (∀ g, c g = 1 → Leads m g f) →
    Calls Tryz.prog 108 #[.pointer (some ⟨B, 0, none⟩), .int .i64 f] w (RetP m w0 w B p c f) := by
  have HP := Lib.hid hP
  have HW := Lib.hid hW
  have HF := Lib.hid hF
  have HI := Lib.hid hI
  clear hP hW hF hI
  intro n
  induction n with
  | zero => intro w c f hn0; omega
  | succ n ih =>
    intro w c f hwh hf hwl kw hc hl
    have IH := Lib.hid ih
    clear ih
    have hf64 : f < 64 := by omega
    have hcell := hwl.at' f hf64
    have hfro := hwl.fro (1 + f)
    have hsz := hwl.size
    have h2 := hc.two f
    have i0 : (0 : Int) ≤ (f : Int) := by omega
    have i1 : (f : Int) < 64 := by omega
    by_cases hcf : c f = 0
    · have HCF := Lib.hid hcf
      rw [hcf] at hcell
      have hcell' : w.cell? ⟨B, 1 + f, none⟩ = some (.int .u8 0) := hcell
      have hwl1 : WlkIn (w.setCell ⟨B, 1 + f, none⟩ (.int .u8 1)) B p (setC c f 1) := hwl.set hf64 1
      have kw1 : Kp w0 (w.setCell ⟨B, 1 + f, none⟩ (.int .u8 1)) := kw.setCell hB0 _
      have gx1 := Gx.set B (1 + f) w (.int .u8 1)
      have hpp := hwl.c0
      have HWL := Lib.hid hwl
      have HC := Lib.hid hc
      have HL := Lib.hid hl
      have HWH := Lib.hid hwh
      clear hcell hcf hwl hc hl hwh
      go_enter Tryz.func108, Tryz.ntmps108
      go_wp2_with fail
      revert hwl1 kw1 gx1
      generalize w.setCell ⟨B, 1 + f, none⟩ (.int .u8 1) = w1
      intro hwl1 kw1 gx1
      refine (calls_any (HP.out.kp kw1) HW.out HF.out HI.out hn f hf).mono ?_
      rintro e w2 ⟨v, rfl, ⟨ao, cap, rfl, hin, hlen⟩, k2, hnew⟩
      have hwl2 := hwl1.kp k2
      have kw2 := kw1.trans k2
      have gx2 := gx1.trans (Gx.of_kp k2)
      have hBs : B < w1.heap.size := hwl1.size
      have HIN := Lib.hid hin
      have HNEW := Lib.hid hnew
      have HLT : Hid (∀ g ∈ callsOf m f, g < m.funcs.length) := Lib.hid (fun g hg => callsOf_lt HI.out hf hg)
      have HED : Hid (∀ k, k < (callsOf m f).length → (callsOf m f).getD k 0 ∈ callsOf m f) := Lib.hid (fun k hk => by
        rw [List.getD_eq_getElem?_getD, List.getElem?_eq_getElem hk]
        exact List.getElem_mem hk)
      have HALL : Hid (∀ d : Nat → Nat, (∀ k, k < (callsOf m f).length → d ((callsOf m f).getD k 0) = 2) → ∀ g ∈ callsOf m f, d g = 2) := Lib.hid (fun d hd g hg => by
        obtain ⟨k, hk, e⟩ := List.mem_iff_getElem.1 hg
        have := hd k hk
        rwa [List.getD_eq_getElem?_getD, List.getElem?_eq_getElem hk, Option.getD_some, e] at this)
      have HLEAD : Hid (∀ g ∈ callsOf m f, Leads m f g) := Lib.hid (fun g hg => .one hg)
      have HBLK : Hid (∀ d, Cols m d → (∀ g ∈ callsOf m f, d g = 2) → Cols m (setC d f 2)) := Lib.hid (fun d h1 h2 => h1.black hf h2)
      have HMORE : Hid (∀ x, Leads m x f → ∀ g ∈ callsOf m f, Leads m x g) := Lib.hid (fun x hx g hg => .more hx hg)
      generalize callsOf m f = L at *
      clear hin hnew k2 hpp
      go_wp2
      go_loopw [33] (fun i wr => ∃ (k : Nat) (d : Nat → Nat), k ≤ L.length ∧ i = .int .i64 k ∧ WlkIn wr B p d ∧ Kp w0 wr ∧ Gx B w2 wr ∧ Hid (Cols m d ∧ Went (setC c f 1) d ∧ ∀ q, q < k → d (L.getD q 0) = 2)) (fun i _ => L.length - (intOf i).toNat)
      case atStart => exact ⟨0, setC c f 1, Nat.zero_le _, rfl, hwl2, kw2, Gx.refl _ _, HC.out.grey (by have := HCF.out; omega), Went.refl _, fun q hq => absurd hq (Nat.not_lt_zero _)⟩
      case round =>
        obtain ⟨k, d, hk, rfl, hwr, kwr, gxr, hd⟩ := hrel
        by_cases hkt : k < L.length
        · obtain ⟨b, off, hbo, hIc⟩ := IIn.at HIN.out hkt
          subst hbo
          have hbB : b ≠ B := by have := HNEW.out b rfl; omega
          have x0 : wr.cell? ⟨b, off + k, none⟩ = some (.int .i64 ((L.getD k 0 : Nat) : Int)) := (gxr.cell hIc.size hbB).trans (hIc.at' k hkt)
          have hbs : b < wr.heap.size := Nat.lt_of_lt_of_le hIc.size gxr.size
          have hmem := HED.out k hkt
          have hEQ : Hid (L.getD k 0 = L.getD k 0) := rfl
          have HQ : Hid (∀ d' : Nat → Nat, (∀ q, q < k → d' (L.getD q 0) = 2) → d' (L.getD k 0) = 2 → ∀ q, q < k + 1 → d' (L.getD q 0) = 2) := Lib.hid (fun d' h1 h2 q hq => by
            by_cases e : q = k
            · subst e; exact h2
            · exact h1 q (by omega))
          generalize L.getD k 0 = g at *
          have hgl := HLT.out g hmem
          have PRE : Hid (∀ x, d x = 1 → Leads m x g) := Lib.hid (fun x hx => by
            have h1 := (hd.out.2.1.grey x).2 hx
            by_cases e : x = f
            · subst e; exact HLEAD.out g hmem
            · rw [setC_other _ _ _ e] at h1
              exact HMORE.out x (HL.out x h1) g hmem)
          have WH : whites d < n := by
            have a := whites_le hd.out.2.1.white
            have b := whites_lt (x := 1) hf64 HCF.out (by decide)
            have := HWH.out
            omega
          have HM := Lib.hid hmem
          clear hIc hmem
          go_wp2_with fail
          refine (IH.out wr d g WH hgl hwr kwr hd.out.1 PRE.out).mono ?_
          rintro e w4 ⟨r, d', rfl, hw4, k4, g4, hr1, hr0⟩
          cases r with
          | true =>
            have hloop := hr1 rfl
            have HLP := Lib.hid hloop
            clear hloop hr1 hr0
            go_wp2
            go_ret
            exact ⟨true, d', rfl, hw4, k4, gx2.trans (gxr.trans g4), fun _ => HLP.out, fun e => by cases e⟩
          | false =>
            have h0 := hr0 rfl
            have H0 := Lib.hid h0
            clear h0 hr1 hr0
            go_wp2
            go_roundw
            case rel => exact ⟨k + 1, d', by omega, by go_num, hw4, k4, gxr.trans g4, H0.out.1, hd.out.2.1.trans H0.out.2.1, HQ.out d' (fun q hq => H0.out.2.1.black _ (hd.out.2.2 q hq)) H0.out.2.2⟩
            case measure => simp [intOf]; omega
        · obtain rfl : k = L.length := by omega
          have hcell := hwr.at' f hf64
          have hfro := hwr.fro (1 + f)
          have hsz' := hwr.size
          have FIN : Hid (RetP m w0 w B p c f (.returned (.bool false)) (wr.setCell ⟨B, 1 + f, none⟩ (.int .u8 2))) := Lib.hid (by
            refine ⟨false, setC d f 2, rfl, hwr.set hf64 2, kwr.setCell hB0 _, (gx2.trans gxr).trans (Gx.set B (1 + f) wr _), (fun e => by cases e), fun _ => ⟨HBLK.out d hd.out.1 (HALL.out d hd.out.2.2), ⟨fun x => ?_, fun x hx => ?_, fun x hx => ?_⟩, setC_same _ _ _⟩⟩
            · by_cases e : x = f
              · subst e; rw [setC_same, HCF.out]; exact ⟨fun y => absurd y (by decide), fun y => absurd y (by decide)⟩
              · have := hd.out.2.1.grey x
                rw [setC_other _ _ _ e] at this
                rw [setC_other _ _ _ e]; exact this
            · have e : x ≠ f := fun e => by subst e; rw [HCF.out] at hx; cases hx
              have := hd.out.2.1.black x
              rw [setC_other _ _ _ e] at this
              rw [setC_other _ _ _ e]; exact this hx
            · have e : x ≠ f := fun e => by subst e; rw [setC_same] at hx; cases hx
              have := hd.out.2.1.white x
              rw [setC_other _ _ _ e] at this
              rw [setC_other _ _ _ e] at hx; exact this hx)
          go_wp2
          go_ret
          exact FIN.out
    · have hne : ((c f : Int) != 0) = true := by simp; omega
      cases Decidable.em (c f = 1) with
      | inl h1 =>
        have hb : ((c f : Int) == 1) = true := by simp; omega
        have FIN : Hid (RetP m w0 w B p c f (.returned (.bool true)) w) := Lib.hid ⟨true, c, rfl, hwl, kw, Gx.refl _ _, fun _ => ⟨f, hf, hl f h1⟩, fun e => by cases e⟩
        generalize (c f : Int) = q at *
        clear hwl kw hc hl h1 hwh
        go_enter Tryz.func108, Tryz.ntmps108
        go_wp2
        go_ret
        exact FIN.out
      | inr h1 =>
        have h22 : c f = 2 := by omega
        have hb : ((c f : Int) == 1) = false := by simp; omega
        have FIN : Hid (RetP m w0 w B p c f (.returned (.bool false)) w) := Lib.hid ⟨false, c, rfl, hwl, kw, Gx.refl _ _, (fun e => by cases e), fun _ => ⟨hc, Went.refl _, h22⟩⟩
        generalize (c f : Int) = q at *
        clear hwl kw hc hl h1 h22 hwh
        go_enter Tryz.func108, Tryz.ntmps108
        go_wp2
        go_ret
        exact FIN.out
end Im
end Go.Proofs.YtaeblnlbelebkaaGreatDoor
