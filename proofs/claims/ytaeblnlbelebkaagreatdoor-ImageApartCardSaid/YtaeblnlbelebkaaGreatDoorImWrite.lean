/-
  WALKS: package image, an image as bytes: write, Bytes. Own work.
-/
import Derived.Test.YtaeblnlbelebkaaGreatDoorImPut
import Derived.Test.YtaeblnlbelebkaaGreatDoorImWords
import Derived.Test.YtaeblnlbelebkaaGreatDoorImAsk
import Derived.Deep.RegionWith
import Derived.Deep.DeepCutAuto
namespace Go.Proofs.YtaeblnlbelebkaaGreatDoor
namespace Im
open Go.RowKit Go
open Co (Kp ret_int ret_bool ret2_int In in0 IIn Ics Wf)
open Ln (VIn Vcs)
set_option linter.unusedVariables false

theorem take_flat {α : Type} (enc : α → List Int) (d : α) {l : List α} {k : Nat} (hk : k < l.length) : (l.take (k + 1)).flatMap enc = (l.take k).flatMap enc ++ enc (l.getD k d) := by
  rw [List.take_succ_eq_append_getElem hk, List.flatMap_append, List.getD_eq_getElem?_getD, List.getElem?_eq_getElem hk]
  simp
theorem word_le {x : Int} (h : Word x) : 0 ≤ x ∧ x ≤ 9223372036854775807 := by unfold Word at h; omega
theorem wd_le {l : List Int} (h : ∀ x ∈ l, Word x) : ∀ x ∈ l, 0 ≤ x ∧ x ≤ 9223372036854775807 := fun x hx => word_le (h x hx)
def wd1 (x : Int) : List Int := [x]
def pt1 (p : Pt) : List Int := [acc p]
theorem byts_parts (m : Im) : byts m = vints [(m.funcs.length : Int)] ++ vints (m.funcs.flatMap fnN) ++ vints [(m.vecs.length : Int)] ++ vints (m.vecs.flatMap vcN) ++ vints [m.main, (m.init.length : Int)] ++ vints (m.init.flatMap wd1) ++ vints [(m.ports.length : Int)] ++ vints (m.ports.flatMap pt1) ++ vints [m.stack, (m.atoms.length : Int)] ++ vints (m.atoms.flatMap atN) ++ vints [(m.code.length : Int)] ++ vints (m.code.flatMap inN) := by
  unfold byts nums
  have e1 : m.init.flatMap wd1 = m.init := by unfold wd1; simp
  have e2 : m.ports.flatMap pt1 = m.ports.map acc := by unfold pt1; rw [List.map_eq_flatMap]
  rw [e1, e2]
  simp only [vints_append, vints_cons, vints_nil, List.append_assoc, List.cons_append, List.nil_append]
/-- What is known of the bytes behind k rounds of a loop. -/
structure Sofar (X : List UInt8) (ns : List Int) (N : Nat) (bs : List UInt8) : Prop where
  eq : bs = X ++ vints ns
  len : bs.length ≤ N
theorem Sofar.next {X : List UInt8} {ns es : List Int} {N c : Nat} {bs : List UInt8} (h : Sofar X ns N bs) (he : ∀ y ∈ es, 0 ≤ y ∧ y ≤ 9223372036854775807) (hc : 10 * es.length ≤ c) {ns' : List Int} (hn : ns' = ns ++ es) : Sofar X ns' (N + c) (bs ++ vints es) := by
  refine ⟨by rw [h.eq, hn, vints_append, List.append_assoc], ?_⟩
  rw [List.length_append]
  have := vints_le es he
  have := h.len
  omega
theorem Sofar.more {X : List UInt8} {ns es : List Int} {N c : Nat} {bs : List UInt8} (h : Sofar X ns N bs) (he : ∀ y ∈ es, 0 ≤ y ∧ y ≤ 9223372036854775807) (hc : 10 * es.length ≤ c) : Sofar (X ++ vints ns ++ vints es) [] (N + c) (bs ++ vints es) := by
  refine ⟨by rw [h.eq, vints_nil, List.append_nil], ?_⟩
  rw [List.length_append]
  have := vints_le es he
  have := h.len
  omega
theorem Sofar.weak {X : List UInt8} {ns : List Int} {N M : Nat} {bs : List UInt8} (h : Sofar X ns N bs) (hm : N ≤ M) : Sofar X ns M bs := ⟨h.eq, Nat.le_trans h.len hm⟩
/-- What write answers. -/
def WrP (w : World) (l : List UInt8) (e : Ending) (w' : World) : Prop := ∃ v, e = .returned v ∧ Ow w' w.heap.size v l ∧ Kp w w'
set_option maxHeartbeats 8000000 in
set_option maxRecDepth 100000 in
theorem write_any {w : World} {p : Nat} {h : Hd} {m : Im} (hP : Ptr w p h m) (hW : ImWf m) (hK : OkI m) (hM : May m) :
    Calls Tryz.prog 32 #[.pointer (some ⟨p, 0, none⟩)] w (WrP w (byts m)) := by
  have hsz := hP.size
  have HP := Lib.hid hP
  have HW := Lib.hid hW
  have HK := Lib.hid hK
  obtain ⟨aC, cC, aF, cF, aV, cV, aI, cI, aP, cP, aA, cA⟩ := h
  have c0 := hP.c0
  have c1 := hP.c1
  have c2 := hP.c2
  have c3 := hP.c3
  have c4 := hP.c4
  have c5 := hP.c5
  have c6 := hP.c6
  have c7 := hP.c7
  simp only at c0 c1 c2 c3 c4 c5 c6 c7
  have nF : (m.funcs.length : Int) ≤ 64 := by have := hK.nF; omega
  have nV : (m.vecs.length : Int) ≤ 32 := by have := hK.nV; omega
  have nI : (m.init.length : Int) ≤ 4096 := by have := hK.nI; omega
  have nP : (m.ports.length : Int) ≤ 32 := by have := hK.nP; omega
  have nA : (m.atoms.length : Int) ≤ 64 := by have := hK.nA; omega
  have nC : (m.code.length : Int) ≤ 16384 := by have := hK.nC; omega
  have HIF : Hid (FIn w aF m.funcs) := hP.in'.funcs
  have HIV : Hid (VIn w aV m.vec m.vecs.length) := hP.in'.vecs
  have HII : Hid (UIn w aI m.init) := hP.in'.init
  have HIP : Hid (PIn w aP m.ports) := hP.in'.ports
  have HIA : Hid (AIn w aA m.atoms) := hP.in'.atoms
  have HIC : Hid (CIn w aC m.code) := hP.in'.code
  have HMA := Lib.hid (word_le hK.words.main)
  have HST := Lib.hid (word_le hK.words.stack)
  have HBY := Lib.hid (byts_parts m)
  have O0 : Ow w w.heap.size (.slice none 0 0) [] := World.ownsRow_nil _ _ _ _
  clear hP hW hK hM
  go_enter Tryz.func32, Tryz.ntmps32
  go_wp2_with fail
  refine (put_1 O0 ((Kp.refl w).alloc _ _) (Nat.le_refl _) (m.funcs.length : Int) w.heap.size (Nat.le_refl _) (by simp) (by simp) ⟨by omega, by omega⟩ (by simp)).mono ?_
  rintro e w2 ⟨v2, rfl, ho2, kb2⟩
  have k2 : Kp w w2 := ((Kp.refl w).alloc _ _).trans' kb2 (by simp)
  have hs2 : Sofar (vints [(m.funcs.length : Int)]) [] 10 ([] ++ vints [(m.funcs.length : Int)]) := ⟨by simp [vints_nil], by have := vints_le [(m.funcs.length : Int)] (by intro y hy; simp at hy; omega); simpa using this⟩
  have hsz1 : p < w2.heap.size := Nat.lt_of_lt_of_le hsz k2.size
  have d0 := (k2.cells p 0 hsz).trans c0
  have d1 := (k2.cells p 1 hsz).trans c1
  obtain ⟨X0, hX0⟩ : ∃ X, vints [(m.funcs.length : Int)] = X := ⟨_, rfl⟩
  rw [hX0] at hs2 ho2
  have HX0 := Lib.hid hX0
  clear hX0 kb2 O0
  go_wp2
  go_loopw [3, 28] (fun u i wr => ∃ (k : Nat) (bs : List UInt8), k ≤ m.funcs.length ∧ i = .int .i64 k ∧ Ow wr w.heap.size u bs ∧ Hid (Sofar X0 ((m.funcs.take k).flatMap fnN) (10 + 30 * k) bs) ∧ Kp w wr) (fun _ i _ => m.funcs.length - (intOf i).toNat)
  case atStart => exact ⟨0, _, Nat.zero_le _, rfl, ho2, Lib.hid (hs2.weak (by omega)), k2⟩
  case round =>
    obtain ⟨k, bs, hk, rfl, hown, hsf, kr⟩ := hrel
    by_cases hlt : k < m.funcs.length
    · have hkk : k ≤ 64 := by omega
      obtain ⟨b, off, hao, hC⟩ := HIF.out.at hlt
      subst hao
      have hCr := hC.kp kr
      have x0 := hCr.e k hlt
      have x1 := hCr.p k hlt
      have x2 := hCr.l' k hlt
      have hbs := hCr.size
      have hwd := HK.out.words.fn _ (getD_mem' (d := f0) hlt)
      have hst := take_flat fnN f0 hlt
      have i1 : (k : Int) < m.funcs.length := by omega
      generalize m.funcs.getD k f0 = x at *
      obtain ⟨fe, fp, fl⟩ := x
      obtain ⟨w0, w1, w2'⟩ := hwd
      simp only at x0 x1 x2 w0 w1 w2'
      have NX := Lib.hid (hsf.out.next (es := [fe, fp, fl]) (c := 30) (by intro y hy; simp at hy; rcases hy with rfl | rfl | rfl <;> (apply word_le; assumption)) (by simp) hst)
      have W0 := Lib.hid (word_le w0)
      have W1 := Lib.hid (word_le w1)
      have W2 := Lib.hid (word_le w2')
      have HO := Lib.hid hown
      have HKR := Lib.hid kr
      have HL := Lib.hid hsf.out.len
      clear hC hCr hst w0 w1 w2' hown kr
      go_wp2_with fail
      refine (put_3 HO.out (((Kp.refl wr).alloc _ _).alloc _ _) HKR.out.size fe fp fl (wr.heap.size + 1) (Nat.le_succ _) (by simp) (by simp) (by simp) (by simp) W0.out W1.out W2.out (by have := HL.out; omega)).mono ?_
      rintro e w4 ⟨v4, rfl, ho4, kb4⟩
      have k4 : Kp w w4 := ((HKR.out.alloc _ _).alloc _ _).trans' kb4 (by have := HKR.out.size; simp; omega)
      have HO4 := Lib.hid ho4
      clear ho4 kb4
      go_wp2
      go_roundw
      case rel => exact ⟨k + 1, _, by omega, by go_num, HO4.out, Lib.hid (NX.out.weak (by omega)), k4⟩
      case measure => simp [intOf]; omega
    · obtain rfl : k = m.funcs.length := by omega
      rw [List.take_length] at hsf
      have hsz1 : p < wr.heap.size := Nat.lt_of_lt_of_le hsz kr.size
      have hwz : w.heap.size ≤ wr.heap.size := kr.size
      have d0 := (kr.cells p 0 hsz).trans c0
      have d1 := (kr.cells p 1 hsz).trans c1
      have d2 := (kr.cells p 2 hsz).trans c2
      have d3 := (kr.cells p 3 hsz).trans c3
      have d4 := (kr.cells p 4 hsz).trans c4
      have d5 := (kr.cells p 5 hsz).trans c5
      have d6 := (kr.cells p 6 hsz).trans c6
      have d7 := (kr.cells p 7 hsz).trans c7
      have HSF := Lib.hid (hsf.out.weak (M := 1930) (by omega))
      have HO := Lib.hid hown
      have HKR := Lib.hid kr
      clear hown hsf kr
      go_wp2_with fail
      refine (put_1 HO.out ((Kp.refl wr).alloc _ _) hwz (m.vecs.length : Int) wr.heap.size (Nat.le_refl _) (by simp) (by simp) ⟨by omega, by omega⟩ (by have := HSF.out.len; omega)).mono ?_
      rintro e w3 ⟨v3, rfl, ho3, kb3⟩
      have k3 : Kp w w3 := (HKR.out.alloc _ _).trans' kb3 (by have := HKR.out.size; simp; omega)
      clear kb3
      have hs3 := HSF.out.more (es := [(m.vecs.length : Int)]) (c := 10) (by intro y hy; simp at hy; subst hy; omega) (by simp)
      obtain ⟨X1, hX1⟩ : ∃ X, X0 ++ vints (m.funcs.flatMap fnN) ++ vints [(m.vecs.length : Int)] = X := ⟨_, rfl⟩
      rw [hX1] at hs3
      have HX1 := Lib.hid hX1
      have hsz3 : p < w3.heap.size := Nat.lt_of_lt_of_le hsz k3.size
      clear d0 d1 d2 d3 d4 d5 d6 d7
      have d0 := (k3.cells p 0 hsz).trans c0
      have d1 := (k3.cells p 1 hsz).trans c1
      have d2 := (k3.cells p 2 hsz).trans c2
      have d3 := (k3.cells p 3 hsz).trans c3
      have d4 := (k3.cells p 4 hsz).trans c4
      have d5 := (k3.cells p 5 hsz).trans c5
      have d6 := (k3.cells p 6 hsz).trans c6
      have d7 := (k3.cells p 7 hsz).trans c7
      clear hX1
      go_wp2
      go_loopw [3, 55] (fun u i wr => ∃ (k : Nat) (bs : List UInt8), k ≤ m.vecs.length ∧ i = .int .i64 k ∧ Ow wr w.heap.size u bs ∧ Hid (Sofar X1 ((m.vecs.take k).flatMap vcN) (1940 + 30 * k) bs) ∧ Kp w wr) (fun _ i _ => m.vecs.length - (intOf i).toNat)
      case atStart => exact ⟨0, _, Nat.zero_le _, rfl, ho3, Lib.hid (hs3.weak (by omega)), k3⟩
      case round =>
        obtain ⟨k, bs, hk, rfl, hown, hsf, kr⟩ := hrel
        by_cases hlt : k < m.vecs.length
        · have hkk : k ≤ 32 := by omega
          obtain ⟨b, off, hao, hC⟩ := HIV.out.at hlt
          subst hao
          have hCr := hC.kp kr
          have x0 := hCr.l k hlt
          have x1 := hCr.p k hlt
          have x2 := hCr.f k hlt
          have hbs := hCr.size
          have hwd := HK.out.words.vc _ (getD_mem' (d := v0) hlt)
          have hst := take_flat vcN v0 hlt
          have hve : m.vec k = m.vecs.getD k v0 := rfl
          rw [hve] at x0 x1 x2
          have i1 : (k : Int) < m.vecs.length := by omega
          generalize m.vecs.getD k v0 = x at *
          obtain ⟨fe, fp, fl⟩ := x
          obtain ⟨w0, w1, w2'⟩ := hwd
          simp only at x0 x1 x2 w0 w1 w2'
          have NX := Lib.hid (hsf.out.next (es := [fe, fp, fl]) (c := 30) (by intro y hy; simp at hy; rcases hy with rfl | rfl | rfl <;> (apply word_le; assumption)) (by simp) hst)
          have W0 := Lib.hid (word_le w0)
          have W1 := Lib.hid (word_le w1)
          have W2 := Lib.hid (word_le w2')
          have HO := Lib.hid hown
          have HKR := Lib.hid kr
          have HL := Lib.hid hsf.out.len
          clear hC hCr hst w0 w1 w2' hown kr hve
          go_wp2_with fail
          refine (put_3 HO.out (((Kp.refl wr).alloc _ _).alloc _ _) HKR.out.size fe fp fl (wr.heap.size + 1) (Nat.le_succ _) (by simp) (by simp) (by simp) (by simp) W0.out W1.out W2.out (by have := HL.out; omega)).mono ?_
          rintro e w4 ⟨v4, rfl, ho4, kb4⟩
          have k4 : Kp w w4 := ((HKR.out.alloc _ _).alloc _ _).trans' kb4 (by have := HKR.out.size; simp; omega)
          have HO4 := Lib.hid ho4
          clear ho4 kb4
          go_wp2
          go_roundw
          case rel => exact ⟨k + 1, _, by omega, by go_num, HO4.out, Lib.hid (NX.out.weak (by omega)), k4⟩
          case measure => simp [intOf]; omega
        · obtain rfl : k = m.vecs.length := by omega
          rw [List.take_length] at hsf
          have hsz1 : p < wr.heap.size := Nat.lt_of_lt_of_le hsz kr.size
          have hwz : w.heap.size ≤ wr.heap.size := kr.size
          have d0 := (kr.cells p 0 hsz).trans c0
          have d1 := (kr.cells p 1 hsz).trans c1
          have d2 := (kr.cells p 2 hsz).trans c2
          have d3 := (kr.cells p 3 hsz).trans c3
          have d4 := (kr.cells p 4 hsz).trans c4
          have d5 := (kr.cells p 5 hsz).trans c5
          have d6 := (kr.cells p 6 hsz).trans c6
          have d7 := (kr.cells p 7 hsz).trans c7
          have HSF := Lib.hid (hsf.out.weak (M := 2900) (by omega))
          have HO := Lib.hid hown
          have HKR := Lib.hid kr
          clear hown hsf kr
          go_upto_region 13 with (fail)
          go_cut [3] (fun v wx => Ow wx w.heap.size v (bs ++ vints [m.main, (m.init.length : Int)]) ∧ Kp w wx)
          case first =>
            go_region_with (go_at_call 62; refine (put_2 HO.out (((Kp.refl wr).alloc _ _).drew) hwz m.main (m.init.length : Int) wr.heap.size (Nat.le_refl _) (by simp) (by simp) (by simp) HMA.out ⟨by omega, by omega⟩ (by have := HSF.out.len; omega)).mono ?_; rintro e w3 ⟨v3, rfl, ho3, kb3⟩)
            all_goals (go_wp2_with fail; go_meet; exact ⟨ho3, ((HKR.out.alloc _ _).drew).trans' kb3 (by have := HKR.out.size; simp; omega)⟩)
          obtain ⟨ho3, k3⟩ := hcut
          obtain ⟨w3, rfl⟩ : ∃ w3 : World, w3 = wc := ⟨_, rfl⟩
          have hs3 := HSF.out.more (es := [m.main, (m.init.length : Int)]) (c := 20) (by intro y hy; simp at hy; rcases hy with rfl | rfl <;> first | exact HMA.out | omega) (by simp)
          obtain ⟨X2, hX2⟩ : ∃ X, X1 ++ vints (m.vecs.flatMap vcN) ++ vints [m.main, (m.init.length : Int)] = X := ⟨_, rfl⟩
          rw [hX2] at hs3
          have HX2 := Lib.hid hX2
          have hsz3 : p < w3.heap.size := Nat.lt_of_lt_of_le hsz k3.size
          clear d0 d1 d2 d3 d4 d5 d6 d7
          have d0 := (k3.cells p 0 hsz).trans c0
          have d1 := (k3.cells p 1 hsz).trans c1
          have d2 := (k3.cells p 2 hsz).trans c2
          have d3 := (k3.cells p 3 hsz).trans c3
          have d4 := (k3.cells p 4 hsz).trans c4
          have d5 := (k3.cells p 5 hsz).trans c5
          have d6 := (k3.cells p 6 hsz).trans c6
          have d7 := (k3.cells p 7 hsz).trans c7
          clear hX2
          go_wp2
          go_loopw [3, 86] (fun u i wr => ∃ (k : Nat) (bs : List UInt8), k ≤ m.init.length ∧ i = .int .i64 k ∧ Ow wr w.heap.size u bs ∧ Hid (Sofar X2 ((m.init.take k).flatMap wd1) (2920 + 10 * k) bs) ∧ Kp w wr) (fun _ i _ => m.init.length - (intOf i).toNat)
          case atStart => exact ⟨0, _, Nat.zero_le _, rfl, ho3, Lib.hid (hs3.weak (by omega)), k3⟩
          case round =>
            obtain ⟨k, bs, hk, rfl, hown, hsf, kr⟩ := hrel
            by_cases hlt : k < m.init.length
            · have hkk : k ≤ 4096 := by omega
              obtain ⟨b, off, hao, hC⟩ := HII.out.at hlt
              subst hao
              have hCr := hC.kp kr
              have x0 := hCr.at' k hlt
              have hbs := hCr.size
              have hwd := HK.out.init _ (getD_mem' (d := 0) hlt)
              have hst := take_flat wd1 0 hlt
              have i1 : (k : Int) < m.init.length := by omega
              generalize m.init.getD k 0 = x at *
              have NX := Lib.hid (hsf.out.next (es := [x]) (c := 10) (by intro y hy; simp at hy; subst hy; exact word_le hwd) (by simp) hst)
              have W0 := Lib.hid (word_le hwd)
              have y0 : 0 ≤ x := (word_le hwd).1
              have y1 : x ≤ 4294967295 := hwd.2
              have HO := Lib.hid hown
              have HKR := Lib.hid kr
              have HL := Lib.hid hsf.out.len
              clear hC hCr hst hwd hown kr
              go_wp2_with fail
              refine (put_1 HO.out ((Kp.refl wr).alloc _ _) HKR.out.size x wr.heap.size (Nat.le_refl _) (by simp) (by simp) W0.out (by have := HL.out; omega)).mono ?_
              rintro e w4 ⟨v4, rfl, ho4, kb4⟩
              have k4 : Kp w w4 := (HKR.out.alloc _ _).trans' kb4 (by have := HKR.out.size; simp; omega)
              have HO4 := Lib.hid ho4
              clear ho4 kb4
              go_wp2
              go_roundw
              case rel => exact ⟨k + 1, _, by omega, by go_num, HO4.out, Lib.hid (NX.out.weak (by omega)), k4⟩
              case measure => simp [intOf]; omega
            · obtain rfl : k = m.init.length := by omega
              rw [List.take_length] at hsf
              have hsz1 : p < wr.heap.size := Nat.lt_of_lt_of_le hsz kr.size
              have hwz : w.heap.size ≤ wr.heap.size := kr.size
              have d0 := (kr.cells p 0 hsz).trans c0
              have d1 := (kr.cells p 1 hsz).trans c1
              have d2 := (kr.cells p 2 hsz).trans c2
              have d3 := (kr.cells p 3 hsz).trans c3
              have d4 := (kr.cells p 4 hsz).trans c4
              have d5 := (kr.cells p 5 hsz).trans c5
              have d6 := (kr.cells p 6 hsz).trans c6
              have d7 := (kr.cells p 7 hsz).trans c7
              have HSF := Lib.hid (hsf.out.weak (M := 43880) (by omega))
              have HO := Lib.hid hown
              have HKR := Lib.hid kr
              clear hown hsf kr
              go_wp2_with fail
              refine (put_1 HO.out ((Kp.refl wr).alloc _ _) hwz (m.ports.length : Int) wr.heap.size (Nat.le_refl _) (by simp) (by simp) ⟨by omega, by omega⟩ (by have := HSF.out.len; omega)).mono ?_
              rintro e w3 ⟨v3, rfl, ho3, kb3⟩
              have k3 : Kp w w3 := (HKR.out.alloc _ _).trans' kb3 (by have := HKR.out.size; simp; omega)
              clear kb3
              have hs3 := HSF.out.more (es := [(m.ports.length : Int)]) (c := 10) (by intro y hy; simp at hy; subst hy; omega) (by simp)
              obtain ⟨X3, hX3⟩ : ∃ X, X2 ++ vints (m.init.flatMap wd1) ++ vints [(m.ports.length : Int)] = X := ⟨_, rfl⟩
              rw [hX3] at hs3
              have HX3 := Lib.hid hX3
              have hsz3 : p < w3.heap.size := Nat.lt_of_lt_of_le hsz k3.size
              clear d0 d1 d2 d3 d4 d5 d6 d7
              have d0 := (k3.cells p 0 hsz).trans c0
              have d1 := (k3.cells p 1 hsz).trans c1
              have d2 := (k3.cells p 2 hsz).trans c2
              have d3 := (k3.cells p 3 hsz).trans c3
              have d4 := (k3.cells p 4 hsz).trans c4
              have d5 := (k3.cells p 5 hsz).trans c5
              have d6 := (k3.cells p 6 hsz).trans c6
              have d7 := (k3.cells p 7 hsz).trans c7
              clear hX3
              go_wp2
              go_loopw [3, 109] (fun u i wr => ∃ (k : Nat) (bs : List UInt8), k ≤ m.ports.length ∧ i = .int .i64 k ∧ Ow wr w.heap.size u bs ∧ Hid (Sofar X3 ((m.ports.take k).flatMap pt1) (43890 + 10 * k) bs) ∧ Kp w wr) (fun _ i _ => m.ports.length - (intOf i).toNat)
              case atStart => exact ⟨0, _, Nat.zero_le _, rfl, ho3, Lib.hid (hs3.weak (by omega)), k3⟩
              case round =>
                obtain ⟨k, bs, hk, rfl, hown, hsf, kr⟩ := hrel
                by_cases hlt : k < m.ports.length
                · have hkk : k ≤ 32 := by omega
                  obtain ⟨b, off, hao, hC⟩ := HIP.out.at hlt
                  subst hao
                  have hCr := hC.kp kr
                  have x0 := hCr.r k hlt
                  have x1 := hCr.w' k hlt
                  have hbs := hCr.size
                  have hst := take_flat pt1 p0 hlt
                  have i1 : (k : Int) < m.ports.length := by omega
                  generalize m.ports.getD k p0 = x at *
                  obtain ⟨pr, pw⟩ := x
                  simp only at x0 x1
                  have hab := acc_bd ⟨pr, pw⟩
                  have NX := Lib.hid (hsf.out.next (es := [acc ⟨pr, pw⟩]) (c := 10) (by intro y hy; simp at hy; subst hy; omega) (by simp) hst)
                  have W0 : Hid (0 ≤ acc ⟨pr, pw⟩ ∧ acc ⟨pr, pw⟩ ≤ 9223372036854775807) := Lib.hid ⟨by omega, by omega⟩
                  have HO := Lib.hid hown
                  have HKR := Lib.hid kr
                  have HL := Lib.hid hsf.out.len
                  clear hC hCr hst hown kr
                  go_wp2_with fail
                  refine (access_any pr pw _).mono ?_
                  rintro e w1 ⟨rfl, k1⟩
                  generalize acc ⟨pr, pw⟩ = x at *
                  have KA := Lib.hid (((Kp.refl wr).alloc _ _).trans k1)
                  have hz1 := KA.out.size
                  clear k1
                  go_wp2_with fail
                  refine (put_1 HO.out (KA.out.alloc _ _) HKR.out.size x w1.heap.size hz1 (by simp) (by simp) W0.out (by have := HL.out; omega)).mono ?_
                  rintro e w4 ⟨v4, rfl, ho4, kb4⟩
                  have k4 : Kp w w4 := ((HKR.out.trans KA.out).alloc _ _).trans' kb4 (by have := HKR.out.size; simp; omega)
                  have HO4 := Lib.hid ho4
                  clear ho4 kb4
                  go_wp2
                  go_roundw
                  case rel => exact ⟨k + 1, _, by omega, by go_num, HO4.out, Lib.hid (NX.out.weak (by omega)), k4⟩
                  case measure => simp [intOf]; omega
                · obtain rfl : k = m.ports.length := by omega
                  rw [List.take_length] at hsf
                  have hsz1 : p < wr.heap.size := Nat.lt_of_lt_of_le hsz kr.size
                  have hwz : w.heap.size ≤ wr.heap.size := kr.size
                  have d0 := (kr.cells p 0 hsz).trans c0
                  have d1 := (kr.cells p 1 hsz).trans c1
                  have d2 := (kr.cells p 2 hsz).trans c2
                  have d3 := (kr.cells p 3 hsz).trans c3
                  have d4 := (kr.cells p 4 hsz).trans c4
                  have d5 := (kr.cells p 5 hsz).trans c5
                  have d6 := (kr.cells p 6 hsz).trans c6
                  have d7 := (kr.cells p 7 hsz).trans c7
                  have HSF := Lib.hid (hsf.out.weak (M := 44210) (by omega))
                  have HO := Lib.hid hown
                  have HKR := Lib.hid kr
                  clear hown hsf kr
                  go_upto_region 25 with (fail)
                  go_cut [3] (fun v wx => Ow wx w.heap.size v (bs ++ vints [m.stack, (m.atoms.length : Int)]) ∧ Kp w wx)
                  case first =>
                    go_region_with (go_at_call 62; refine (put_2 HO.out (((Kp.refl wr).alloc _ _).drew) hwz m.stack (m.atoms.length : Int) wr.heap.size (Nat.le_refl _) (by simp) (by simp) (by simp) HST.out ⟨by omega, by omega⟩ (by have := HSF.out.len; omega)).mono ?_; rintro e w3 ⟨v3, rfl, ho3, kb3⟩)
                    all_goals (go_wp2_with fail; go_meet; exact ⟨ho3, ((HKR.out.alloc _ _).drew).trans' kb3 (by have := HKR.out.size; simp; omega)⟩)
                  obtain ⟨ho3, k3⟩ := hcut
                  obtain ⟨w3, rfl⟩ : ∃ w3 : World, w3 = wc := ⟨_, rfl⟩
                  have hs3 := HSF.out.more (es := [m.stack, (m.atoms.length : Int)]) (c := 20) (by intro y hy; simp at hy; rcases hy with rfl | rfl <;> first | exact HST.out | omega) (by simp)
                  obtain ⟨X4, hX4⟩ : ∃ X, X3 ++ vints (m.ports.flatMap pt1) ++ vints [m.stack, (m.atoms.length : Int)] = X := ⟨_, rfl⟩
                  rw [hX4] at hs3
                  have HX4 := Lib.hid hX4
                  have hsz3 : p < w3.heap.size := Nat.lt_of_lt_of_le hsz k3.size
                  clear d0 d1 d2 d3 d4 d5 d6 d7
                  have d0 := (k3.cells p 0 hsz).trans c0
                  have d1 := (k3.cells p 1 hsz).trans c1
                  have d2 := (k3.cells p 2 hsz).trans c2
                  have d3 := (k3.cells p 3 hsz).trans c3
                  have d4 := (k3.cells p 4 hsz).trans c4
                  have d5 := (k3.cells p 5 hsz).trans c5
                  have d6 := (k3.cells p 6 hsz).trans c6
                  have d7 := (k3.cells p 7 hsz).trans c7
                  clear hX4
                  go_wp2
                  go_loopw [3, 136] (fun u i wr => ∃ (k : Nat) (bs : List UInt8), k ≤ m.atoms.length ∧ i = .int .i64 k ∧ Ow wr w.heap.size u bs ∧ Hid (Sofar X4 ((m.atoms.take k).flatMap atN) (44230 + 40970 * k) bs) ∧ Kp w wr) (fun _ i _ => m.atoms.length - (intOf i).toNat)
                  case atStart => exact ⟨0, _, Nat.zero_le _, rfl, ho3, Lib.hid (hs3.weak (by omega)), k3⟩
                  case round =>
                    obtain ⟨k, bs, hk, rfl, hown, hsf, kr⟩ := hrel
                    by_cases hlt : k < m.atoms.length
                    · have hkk : k ≤ 64 := by omega
                      obtain ⟨b, off, hao, hC⟩ := HIA.out.at hlt
                      subst hao
                      obtain ⟨ao, cap, x0', hI⟩ := hC.at' k hlt
                      have x0 := (kr.cells _ _ hC.size).trans x0'
                      have hbs := (hC.kp kr).size
                      obtain ⟨hl1, hwd⟩ := HK.out.words.at' _ (getD_mem' (d := []) hlt)
                      have hst := take_flat atN [] hlt
                      have i1 : (k : Int) < m.atoms.length := by omega
                      generalize m.atoms.getD k [] = L at *
                      have NX := Lib.hid (hsf.out.next (es := atN L) (c := 40970) (by
                        intro y hy
                        unfold atN at hy
                        rcases List.mem_cons.1 hy with rfl | hy
                        · omega
                        · exact word_le (hwd y hy)) (by unfold atN; rw [List.length_cons]; omega) hst)
                      have HIW := Lib.hid hI
                      have HWD := Lib.hid (wd_le hwd)
                      have i2 : (L.length : Int) ≤ 4096 := by omega
                      have HO := Lib.hid hown
                      have HKR := Lib.hid kr
                      have HL := Lib.hid hsf.out.len
                      clear hC x0' hI hst hwd hown kr
                      go_wp2_with fail
                      refine (put_1 HO.out ((Kp.refl wr).alloc _ _) HKR.out.size (L.length : Int) wr.heap.size (Nat.le_refl _) (by simp) (by simp) ⟨by omega, by omega⟩ (by have := HL.out; omega)).mono ?_
                      rintro e w1 ⟨v1, rfl, ho1, kb1⟩
                      have k1 : Kp w w1 := (HKR.out.alloc _ _).trans' kb1 (by have := HKR.out.size; simp; omega)
                      have hin1 : IIn w1 ao (fun j => L.getD j 0) L.length := HIW.out.kp k1
                      have hnb : ∀ a, ao = some a → 0 < L.length → v1.ownBlock ≠ some a.block := fun a e hz g => by
                        rcases HIW.out with h0 | ⟨b', off', e', gg⟩
                        · omega
                        · rw [e] at e'
                          obtain rfl := Option.some.inj e'
                          have h1 : w.heap.size ≤ b' := (ho1.lt _ g).1
                          have h2 : b' < w.heap.size := gg.size
                          omega
                      have KK1 := Lib.hid k1
                      have HO1 := Lib.hid ho1
                      have HNB := Lib.hid hnb
                      have HIN := Lib.hid hin1
                      have hz1 : w.heap.size ≤ w1.heap.size := k1.size
                      have hv1 : (vints [(L.length : Int)]).length ≤ 10 := by have := vints_le [(L.length : Int)] (by intro y hy; simp at hy; omega); simpa using this
                      clear k1 kb1 ho1 hnb hin1
                      go_wp2_with fail
                      refine (put_row HO1.out ao cap L HIN.out HNB.out hz1 HWD.out (by rw [List.length_append]; have := HL.out; omega)).mono ?_
                      rintro e w4 ⟨v4, rfl, ho4, kb4⟩
                      have k4 : Kp w w4 := (KK1.out).trans' kb4 (hz1)
                      have e4 : vints (atN L) = vints [(L.length : Int)] ++ vints L := by unfold atN; rw [vints_cons, vints_one]
                      rw [List.append_assoc, ← e4] at ho4
                      have HO4 := Lib.hid ho4
                      clear ho4 kb4 e4
                      go_wp2
                      go_roundw
                      case rel => exact ⟨k + 1, _, by omega, by go_num, HO4.out, Lib.hid (NX.out.weak (by omega)), k4⟩
                      case measure => simp [intOf]; omega
                    · obtain rfl : k = m.atoms.length := by omega
                      rw [List.take_length] at hsf
                      have hsz1 : p < wr.heap.size := Nat.lt_of_lt_of_le hsz kr.size
                      have hwz : w.heap.size ≤ wr.heap.size := kr.size
                      have d0 := (kr.cells p 0 hsz).trans c0
                      have d1 := (kr.cells p 1 hsz).trans c1
                      have d2 := (kr.cells p 2 hsz).trans c2
                      have d3 := (kr.cells p 3 hsz).trans c3
                      have d4 := (kr.cells p 4 hsz).trans c4
                      have d5 := (kr.cells p 5 hsz).trans c5
                      have d6 := (kr.cells p 6 hsz).trans c6
                      have d7 := (kr.cells p 7 hsz).trans c7
                      have HSF := Lib.hid (hsf.out.weak (M := 2666310) (by omega))
                      have HO := Lib.hid hown
                      have HKR := Lib.hid kr
                      clear hown hsf kr
                      go_wp2_with fail
                      refine (put_1 HO.out ((Kp.refl wr).alloc _ _) hwz (m.code.length : Int) wr.heap.size (Nat.le_refl _) (by simp) (by simp) ⟨by omega, by omega⟩ (by have := HSF.out.len; omega)).mono ?_
                      rintro e w3 ⟨v3, rfl, ho3, kb3⟩
                      have k3 : Kp w w3 := (HKR.out.alloc _ _).trans' kb3 (by have := HKR.out.size; simp; omega)
                      clear kb3
                      have hs3 := HSF.out.more (es := [(m.code.length : Int)]) (c := 10) (by intro y hy; simp at hy; subst hy; omega) (by simp)
                      obtain ⟨X5, hX5⟩ : ∃ X, X4 ++ vints (m.atoms.flatMap atN) ++ vints [(m.code.length : Int)] = X := ⟨_, rfl⟩
                      rw [hX5] at hs3
                      have HX5 := Lib.hid hX5
                      have hsz3 : p < w3.heap.size := Nat.lt_of_lt_of_le hsz k3.size
                      clear d0 d1 d2 d3 d4 d5 d6 d7
                      have d0 := (k3.cells p 0 hsz).trans c0
                      have d1 := (k3.cells p 1 hsz).trans c1
                      have d2 := (k3.cells p 2 hsz).trans c2
                      have d3 := (k3.cells p 3 hsz).trans c3
                      have d4 := (k3.cells p 4 hsz).trans c4
                      have d5 := (k3.cells p 5 hsz).trans c5
                      have d6 := (k3.cells p 6 hsz).trans c6
                      have d7 := (k3.cells p 7 hsz).trans c7
                      clear hX5
                      go_wp2
                      go_loopw [3, 162] (fun u i wr => ∃ (k : Nat) (bs : List UInt8), k ≤ m.code.length ∧ i = .int .i64 k ∧ Ow wr w.heap.size u bs ∧ Hid (Sofar X5 ((m.code.take k).flatMap inN) (2666320 + 40 * k) bs) ∧ Kp w wr) (fun _ i _ => m.code.length - (intOf i).toNat)
                      case atStart => exact ⟨0, _, Nat.zero_le _, rfl, ho3, Lib.hid (hs3.weak (by omega)), k3⟩
                      case round =>
                        obtain ⟨k, bs, hk, rfl, hown, hsf, kr⟩ := hrel
                        by_cases hlt : k < m.code.length
                        · have hkk : k ≤ 16384 := by omega
                          obtain ⟨b, off, hao, hC⟩ := HIC.out.at hlt
                          subst hao
                          have hCr := hC.kp kr
                          have x0 := hCr.o k hlt
                          have x1 := hCr.a k hlt
                          have x2 := hCr.b' k hlt
                          have x3 := hCr.c k hlt
                          have hbs := hCr.size
                          have hwd := HK.out.words.code _ (getD_mem' (d := in0) hlt)
                          have hst := take_flat inN in0 hlt
                          have i1 : (k : Int) < m.code.length := by omega
                          generalize m.code.getD k in0 = x at *
                          obtain ⟨fo, fa, fb, fc⟩ := x
                          obtain ⟨w0, w1, w2', w3'⟩ := hwd
                          simp only at x0 x1 x2 x3 w0 w1 w2' w3'
                          have NX := Lib.hid (hsf.out.next (es := [fo, fa, fb, fc]) (c := 40) (by intro y hy; simp at hy; rcases hy with rfl | rfl | rfl | rfl <;> (apply word_le; assumption)) (by simp) hst)
                          have W0 := Lib.hid (word_le w0)
                          have W1 := Lib.hid (word_le w1)
                          have W2 := Lib.hid (word_le w2')
                          have W3 := Lib.hid (word_le w3')
                          have HO := Lib.hid hown
                          have HKR := Lib.hid kr
                          have HL := Lib.hid hsf.out.len
                          clear hC hCr hst w0 w1 w2' w3' hown kr
                          go_wp2_with fail
                          refine (put_4 HO.out (((Kp.refl wr).alloc _ _).alloc _ _) HKR.out.size fo fa fb fc (wr.heap.size + 1) (Nat.le_succ _) (by simp) (by simp) (by simp) (by simp) (by simp) W0.out W1.out W2.out W3.out (by have := HL.out; omega)).mono ?_
                          rintro e w4 ⟨v4, rfl, ho4, kb4⟩
                          have k4 : Kp w w4 := ((HKR.out.alloc _ _).alloc _ _).trans' kb4 (by have := HKR.out.size; simp; omega)
                          have HO4 := Lib.hid ho4
                          clear ho4 kb4
                          go_wp2
                          go_roundw
                          case rel => exact ⟨k + 1, _, by omega, by go_num, HO4.out, Lib.hid (NX.out.weak (by omega)), k4⟩
                          case measure => simp [intOf]; omega
                        · obtain rfl : k = m.code.length := by omega
                          rw [List.take_length] at hsf
                          have hsz1 : p < wr.heap.size := Nat.lt_of_lt_of_le hsz kr.size
                          have hwz : w.heap.size ≤ wr.heap.size := kr.size
                          have d0 := (kr.cells p 0 hsz).trans c0
                          have d1 := (kr.cells p 1 hsz).trans c1
                          have d2 := (kr.cells p 2 hsz).trans c2
                          have d3 := (kr.cells p 3 hsz).trans c3
                          have d4 := (kr.cells p 4 hsz).trans c4
                          have d5 := (kr.cells p 5 hsz).trans c5
                          have d6 := (kr.cells p 6 hsz).trans c6
                          have d7 := (kr.cells p 7 hsz).trans c7
                          have HSF := Lib.hid (hsf.out.weak (M := 3321680) (by omega))
                          have HO := Lib.hid hown
                          have HKR := Lib.hid kr
                          clear hown hsf kr
                          go_wp2
                          go_ret
                          have hfin := HSF.out.eq
                          rw [← HX5.out, ← HX4.out, ← HX3.out, ← HX2.out, ← HX1.out, ← HX0.out, ← HBY.out] at hfin
                          rw [← hfin]
                          exact ⟨_, rfl, HO.out, HKR.out⟩
/-- What Bytes answers. -/
def byA (m : Im) : List UInt8 := if chkI m = 0 then byts m else []
def ByP (w : World) (l : List UInt8) (q : Int) (e : Ending) (w' : World) : Prop := ∃ v, e = .returned (.tuple #[v, .int .i64 q]) ∧ (∃ B, w.heap.size ≤ B ∧ Ow w' B v l) ∧ Kp w w'
set_option maxHeartbeats 4000000 in
set_option maxRecDepth 100000 in
theorem Bytes_any {w : World} (hE : Co.Env w) {h : Hd} {m : Im} (hin : ImIn w h m) (hW : ImWf m) (l : List UInt8) (hl : byA m = l) (q : Int) (hq : chkI m = q) :
    Calls Tryz.prog 7 #[.agg #[.slice h.aC m.code.length h.cC, .slice h.aF m.funcs.length h.cF, .slice h.aV m.vecs.length h.cV, .int .i64 m.main, .slice h.aI m.init.length h.cI, .slice h.aP m.ports.length h.cP, .int .i64 m.stack, .slice h.aA m.atoms.length h.cA]] w (ByP w l q) := by
  have PN := Ptr.new hin
  have EN := hE.kept ((Kp.refl w).alloc #[.slice h.aC m.code.length h.cC, .slice h.aF m.funcs.length h.cF, .slice h.aV m.vecs.length h.cV, .int .i64 m.main, .slice h.aI m.init.length h.cI, .slice h.aP m.ports.length h.cP, .int .i64 m.stack, .slice h.aA m.atoms.length h.cA] 29)
  have K1 := (Kp.refl w).alloc #[.slice h.aC m.code.length h.cC, .slice h.aF m.funcs.length h.cF, .slice h.aV m.vecs.length h.cV, .int .i64 m.main, .slice h.aI m.init.length h.cI, .slice h.aP m.ports.length h.cP, .int .i64 m.stack, .slice h.aA m.atoms.length h.cA] 29
  have Z1 : w.heap.size < (w.alloc (.cells #[.slice h.aC m.code.length h.cC, .slice h.aF m.funcs.length h.cF, .slice h.aV m.vecs.length h.cV, .int .i64 m.main, .slice h.aI m.init.length h.cI, .slice h.aP m.ports.length h.cP, .int .i64 m.stack, .slice h.aA m.atoms.length h.cA] 29)).heap.size := by simp
  have HW := Lib.hid hW
  clear hin hW hE
  go_enter Tryz.func7, Tryz.ntmps7
  go_upto_region 1 with (fail)
  revert PN EN K1 Z1
  generalize w.heap.size = p
  generalize w.alloc _ = w1
  intro PN EN K1 Z1
  have e0 := PN.c0
  have e1 := PN.c1
  have e2 := PN.c2
  have e3 := PN.c3
  have e4 := PN.c4
  have e5 := PN.c5
  have e6 := PN.c6
  have e7 := PN.c7
  have HPN := Lib.hid PN
  have HEN := Lib.hid EN
  clear PN EN
  by_cases h0 : chkI m = 0
  case neg =>
    have er : l = [] := by rw [← hl]; unfold byA; rw [if_neg h0]
    subst er
    have HQ := Lib.hid hq
    have hne : (q != 0) = true := by rw [← hq]; simpa using h0
    clear hl h0 hq
    go_wp2_with fail
    refine (Check_any HEN.out HPN.out.in' HW.out).mono ?_
    rw [HQ.out]
    rintro e w2 ⟨rfl, k2⟩
    go_wp2
    go_ret2
    exact ⟨_, rfl, ⟨w.heap.size, Nat.le_refl _, World.ownsRow_nil _ _ _ _⟩, K1.trans k2⟩
  case pos =>
  have er : byts m = l := by rw [← hl]; unfold byA; rw [if_pos h0]
  have eq : q = 0 := by rw [← hq]; exact h0
  subst eq
  obtain ⟨hlo, hmay, hac⟩ := chkI_zero.1 h0
  have HOK := Lib.hid (OkI.of h0 HW.out.init)
  have HMY := Lib.hid hmay
  have HQ := Lib.hid hq
  have HR := Lib.hid er
  clear hl er h0 hlo hmay hac hq
  go_wp2_with fail
  refine (Check_any HEN.out HPN.out.in' HW.out).mono ?_
  rw [HQ.out]
  rintro e w2 ⟨rfl, k2⟩
  have z2 : p < w2.heap.size := Nat.lt_of_lt_of_le Z1 k2.size
  have HP2 := Lib.hid (HPN.out.kp k2)
  have HE2 := Lib.hid (HEN.out.kept k2)
  have K2 := Lib.hid (K1.trans k2)
  have d0 := HP2.out.c0
  have d1 := HP2.out.c1
  clear k2 e0 e1 e2 e3 e4 e5 e6 e7 K1
  go_wp2_with (go_at_call 32; refine (write_any HP2.out HW.out HOK.out HMY.out).mono ?_; rintro e w4 ⟨v, rfl, hv, k4⟩)
  go_ret2
  rw [HR.out] at hv
  exact ⟨_, rfl, ⟨w2.heap.size, K2.out.size, hv⟩, K2.out.trans k4⟩
end Im
end Go.Proofs.YtaeblnlbelebkaaGreatDoor
