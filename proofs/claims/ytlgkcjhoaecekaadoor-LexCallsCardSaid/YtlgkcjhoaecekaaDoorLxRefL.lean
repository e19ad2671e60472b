/-
  WALKS: the document's own answers of layer 5: All. Own work.
-/
import Derived.Test.YtlgkcjhoaecekaaDoorLxRefA
import Derived.Test.YtlgkcjhoaecekaaDoorLxRefT
namespace Go.Proofs.YtlgkcjhoaecekaaDoor
namespace Lx
open Go.RowKit Go
set_option linter.unusedVariables false

theorem Bx5.new (w : World) : Bx5 (w.alloc (.cells #[.int .i64 0, .string ⟨#[]⟩, .int .i64 0, .int .i64 0, .int .u32 0] 33)) w.heap.size := by
  have A := alloc_new_of (w := w) (cs := #[.int .i64 0, .string ⟨#[]⟩, .int .i64 0, .int .i64 0, .int .u32 0]) (t := 33) rfl
  exact ⟨A.2.2.1, A.1 0, A.1 1, A.1 2, A.1 3, A.1 4, A.2.2.2⟩
/-- Five stores into a token's new box. -/
theorem five_new {w : World} (v0 v1 v2 v3 v4 : Value) {W : World} (hW : (((((w.alloc (.cells #[.int .i64 0, .string ⟨#[]⟩, .int .i64 0, .int .i64 0, .int .u32 0] 33)).setCell ⟨w.heap.size, 0, none⟩ v0).setCell ⟨w.heap.size, 1, none⟩ v1).setCell ⟨w.heap.size, 2, none⟩ v2).setCell ⟨w.heap.size, 3, none⟩ v3).setCell ⟨w.heap.size, 4, none⟩ v4 = W) :
    W.cell? ⟨w.heap.size, 0, none⟩ = some v0 ∧ W.cell? ⟨w.heap.size, 1, none⟩ = some v1 ∧ W.cell? ⟨w.heap.size, 2, none⟩ = some v2 ∧ W.cell? ⟨w.heap.size, 3, none⟩ = some v3 ∧ W.cell? ⟨w.heap.size, 4, none⟩ = some v4 ∧ Kp w W ∧ w.heap.size < W.heap.size ∧ ∀ o, W.frozen? ⟨w.heap.size, o, none⟩ = false := by
  have hb := Bx5.new w
  obtain ⟨a, b, c, d, e, f⟩ := five_put hb v0 v1 v2 v3 v4 hW
  have k : Kp w W := ⟨((Below.refl _ w).alloc (Nat.le_refl _) _).trans f⟩
  refine ⟨a, b, c, d, e, k, Nat.lt_of_lt_of_le hb.size f.size, fun o => ?_⟩
  rw [← hW]
  simp only [World.frozen?_setCell]
  exact hb.fro o
theorem two_put {w : World} {B : Nat} {u0 u1 u2 u3 u4 : Value} (h0 : w.cell? ⟨B, 0, none⟩ = some u0) (h1 : w.cell? ⟨B, 1, none⟩ = some u1) (h2 : w.cell? ⟨B, 2, none⟩ = some u2) (h3 : w.cell? ⟨B, 3, none⟩ = some u3) (h4 : w.cell? ⟨B, 4, none⟩ = some u4) (v2 v3 : Value) {W : World} (hW : (w.setCell ⟨B, 2, none⟩ v2).setCell ⟨B, 3, none⟩ v3 = W) :
    W.cell? ⟨B, 0, none⟩ = some u0 ∧ W.cell? ⟨B, 1, none⟩ = some u1 ∧ W.cell? ⟨B, 2, none⟩ = some v2 ∧ W.cell? ⟨B, 3, none⟩ = some v3 ∧ W.cell? ⟨B, 4, none⟩ = some u4 ∧ Below B w W := by
  subst hW
  exact ⟨(off_put _ (by decide)).trans ((off_put _ (by decide)).trans h0), (off_put _ (by decide)).trans ((off_put _ (by decide)).trans h1), (off_put _ (by decide)).trans (cell_put h2), cell_put ((off_put _ (by decide)).trans h3), (off_put _ (by decide)).trans ((off_put _ (by decide)).trans h4), (below_put _ _).trans (below_put _ _)⟩
theorem spn_drop_stop {p : UInt8 → Bool} {s : List UInt8} {k j : Nat} (hkj : k ≤ j) (h : ∀ m (hm : m < s.length), k ≤ m → m < j → p s[m] = true) (hs : j = s.length ∨ ∃ hj : j < s.length, p s[j] = false) : spn p (s.drop k) = j - k := by
  rcases hs with rfl | ⟨hj, hf⟩
  · rw [spn_all]
    · rw [List.length_drop]
    · intro b hb
      obtain ⟨i, hi, rfl⟩ := List.getElem_of_mem hb
      rw [List.length_drop] at hi
      rw [List.getElem_drop]
      exact h (k + i) (by omega) (by omega) (by omega)
  · refine spn_stop (by rw [List.length_drop]; omega) (fun i hi hik => ?_) ?_
    · rw [List.getElem_drop]
      rw [List.length_drop] at hi
      exact h (k + i) (by omega) (by omega) (by omega)
    · rw [List.getElem_drop]
      have : k + (j - k) = j := by omega
      simp only [this]
      exact hf
/-- What holds at the head of a round. -/
structure AInv (Res : Except (Int × Int) (List Tk)) (s : List UInt8) (k : Nat) (us : List Tk) (x y : Int) : Prop where
  lex : Res = pre us (Lex (s.drop k) x y)
  us : us.length ≤ k
  x0 : 1 ≤ x
  x1 : x ≤ k + 1
  y0 : 1 ≤ y
  y1 : y ≤ k + 1
set_option maxHeartbeats 8000000 in
set_option maxRecDepth 100000 in
theorem rAll_any {w : World} (s : List UInt8) (hl : s.length ≤ 65536) (ts : List Tk) (fe fl fc : Int) (h1 : resT (Lex s 1 1) = ts) (h2 : resE (Lex s 1 1) = fe) (h3 : resL (Lex s 1 1) = fl) (h4 : resC (Lex s 1 1) = fc) :
    Calls Tryd.prog 13 #[.string (bytesOf s)] w (AllP w ts fe fl fc) := by
  obtain ⟨i0, hi, hz0, hz1, hz2⟩ := info_parts info_tok
  have hsz : (bytesOf s).size = s.length := bytesOf_size s
  have HZ := Lib.hid hsz
  have hm : ((bytesOf s).size : Int) ≤ 65536 := by rw [hsz]; omega
  have hgt : decide ((65536 : Int) < ((bytesOf s).size : Int)) = false := by simp; omega
  obtain ⟨Res, hRes⟩ : ∃ Res, Lex s 1 1 = Res := ⟨_, rfl⟩
  rw [hRes] at h1 h2 h3 h4
  have HR := Lib.hid hRes
  have HF := Lib.hid (And.intro h1 (And.intro h2 (And.intro h3 h4)))
  clear hl h1 h2 h3 h4 hRes hsz
  go_enter Tryd.func13, Tryd.ntmps13
  go_upto_region 1 with (fail)
  generalize hw1 : w.alloc _ = w1
  have A1 := alloc_new_of hw1
  obtain ⟨RB, hRB⟩ : ∃ RB, w.heap.size = RB := ⟨_, rfl⟩
  have HK1 := Lib.hid A1.2.1
  have HRB := Lib.hid hRB
  rw [hRB] at A1 ⊢
  have HB := Lib.hid (And.intro (A1.1 0) (And.intro (A1.1 1) (And.intro (A1.1 2) (And.intro A1.2.2.1 A1.2.2.2))))
  clear A1 hw1 hRB
  have HINV0 : Hid (AInv Res s 0 [] 1 1) := Lib.hid ⟨by rw [← HR.out]; show Lex s 1 1 = pre [] (Lex s 1 1); cases Lex s 1 1 <;> rfl, Nat.le_refl _, Int.le_refl _, by omega, Int.le_refl _, by omega⟩
  go_wp2_with fail
  go_loopw [4, 5, 6, 7, 8, 17, 26, 47] (fun v l c i p g1 g2 g3 wr => ∃ (k : Nat) (us : List Tk) (x y : Int), k ≤ (bytesOf s).size ∧ i = .int .i64 k ∧ l = .int .i64 x ∧ c = .int .i64 y ∧ wr.ownsRow w1.heap.size 33 5 v us.length (us.flatMap celK) ∧ Kp w1 wr ∧ Hid (AInv Res s k us x y)) (fun _ _ _ i _ _ _ _ _ => (bytesOf s).size - (intOf i).toNat)
  case atStart => exact ⟨0, [], 1, 1, Nat.zero_le _, rfl, rfl, rfl, World.ownsRow_nil _ _ _ _, Kp.refl _, HINV0⟩
  case round =>
    obtain ⟨k, us, x, y, hk, rfl, rfl, rfl, hown, kr, hinv⟩ := hrel
    have hx0 := hinv.out.x0
    have hx1 := hinv.out.x1
    have hy0 := hinv.out.y0
    have hy1 := hinv.out.y1
    by_cases hlt : k < (bytesOf s).size
    · obtain ⟨b, hb⟩ : ∃ b, (bytesOf s)[k] = b := ⟨_, rfl⟩
      have hkl : k < s.length := by rw [← HZ.out]; exact hlt
      have hd : s.drop k = b :: s.drop (k + 1) := by
        rw [drop_at hkl]
        rw [← hb]
        rfl
      have HD := Lib.hid hd
      have HBY := Lib.hid hb
      have hbl := isBl_i b
      have HOWN := Lib.hid hown
      have KR := Lib.hid kr
      clear hd hown kr hkl
      by_cases c1 : b = 10
      · have hc1 : (((bytesOf s)[k].toNat : Int) == 10) = true := by rw [hb, c1]; decide
        have HN : Hid (AInv Res s (k + 1) us (x + 1) 1) := Lib.hid ⟨by
          rw [hinv.out.lex, HD.out, Lex_nl (hd_nl' c1)]; rfl, by have := hinv.out.us; omega, by omega, by omega, by omega, by omega⟩
        clear hb hbl
        go_wp2
        go_roundw
        case rel => exact ⟨k + 1, us, x + 1, 1, by omega, by go_num, by go_num, rfl, HOWN.out, KR.out, HN⟩
        case measure => simp [intOf]; omega
      have hc1 : (((bytesOf s)[k].toNat : Int) == 10) = false := by
        rw [hb]
        have : b.toNat ≠ 10 := fun e => c1 (by rw [← UInt8.toNat_inj]; exact e)
        simp
        omega
      have HC1 := Lib.hid c1
      clear c1
      cases c2 : isBl b with
      | true =>
        have HN : Hid (AInv Res s (k + 1) us x (y + 1)) := Lib.hid ⟨by
          rw [hinv.out.lex, HD.out, Lex_bl1 c2], by have := hinv.out.us; omega, by omega, by omega, by omega, by omega⟩
        rw [c2] at hbl
        have hbl2 := of_decide_eq_true hbl.symm
        rw [← hb] at hbl2
        clear hb hbl c2
        rcases hbl2 with g | g | g
        all_goals
          go_wp2
          go_roundw
          case rel => exact ⟨k + 1, us, x, y + 1, by omega, by go_num, rfl, by go_num, HOWN.out, KR.out, HN⟩
          case measure => simp [intOf]; omega
      | false =>
        rw [c2] at hbl
        have hbl2 := of_decide_eq_false hbl.symm
        rw [← hb] at hbl2
        have g1 : (((bytesOf s)[k].toNat : Int) == 32) = false := by simp; omega
        have g2 : (((bytesOf s)[k].toNat : Int) == 9) = false := by simp; omega
        have g3 : (((bytesOf s)[k].toNat : Int) == 13) = false := by simp; omega
        have HEX : Hid ((bytesOf s).extract k (bytesOf s).size = bytesOf (s.drop k)) := Lib.hid (ext_end s k)
        obtain ⟨pc, hpc⟩ : ∃ p, [47, 47].isPrefixOf (s.drop k) = p := ⟨_, rfl⟩
        have HHP := Lib.hid (fun W => hasPrefix_any (s.drop k) [47, 47] W pc hpc)
        have HPC := Lib.hid hpc
        have HC2 := Lib.hid c2
        clear hb hbl hbl2 c2 hpc
        cases pc with
        | true =>
          have hcm : hdOf (s.drop k) = .cm := by
            have := HPC.out
            rw [HD.out] at this ⊢
            exact hd_cm' HC1.out HC2.out this
          have HNX : Hid (∀ j, k ≤ j → j ≤ (bytesOf s).size → (∀ m (hm : m < s.length), k ≤ m → m < j → noNl s[m] = true) → (j = (bytesOf s).size ∨ ∃ hj : j < s.length, noNl s[j] = false) → k < j ∧ AInv Res s j us x (y + (j - k : Nat))) := Lib.hid (fun j hkj hj h he => by
            have hsp := spn_drop_stop hkj h (by rcases he with e | e; exact .inl (by rw [← HZ.out]; exact e); exact .inr e)
            have hpos : 0 < spn noNl (s.drop k) := cm_pos hcm
            rw [hsp] at hpos
            refine ⟨by omega, ?_, by have := hinv.out.us; omega, by omega, by omega, by omega, by omega⟩
            rw [hinv.out.lex, Lex_cm hcm, hsp, List.drop_drop, show k + (j - k) = j by omega])
          have hex := HEX.out
          clear hcm HPC HC1 HC2 HD HBY
          go_wp2_with fail
          refine (HHP.out _).mono ?_
          rintro e w2 ⟨rfl, rfl⟩
          clear hex HEX HHP g1 g2 g3 hc1
          go_wp2_with fail
          go_loop [6, 7] (fun c i => ∃ j : Nat, k ≤ j ∧ j ≤ (bytesOf s).size ∧ i = .int .i64 j ∧ c = .int .i64 (y + (j - k : Nat)) ∧ Hid (∀ m (hm : m < s.length), k ≤ m → m < j → noNl s[m] = true)) (fun _ i => (bytesOf s).size - (intOf i).toNat)
          case atStart => exact ⟨k, Nat.le_refl _, hk, rfl, by simp, Lib.hid (fun m hm h1 h2 => by omega)⟩
          case round =>
            obtain ⟨j, hkj, hj, rfl, rfl, hall⟩ := hrel
            by_cases hjl : j < (bytesOf s).size
            · obtain ⟨z, hz⟩ : ∃ z, (bytesOf s)[j] = z := ⟨_, rfl⟩
              have hsz' : s[j]'(by rw [← HZ.out]; exact hjl) = z := by rw [← hz]; rfl
              by_cases h10 : z = 10
              · have hnn : (((bytesOf s)[j].toNat : Int) != 10) = false := by rw [hz, h10]; decide
                obtain ⟨n1, n2⟩ := HNX.out j hkj hj hall.out (.inr ⟨by rw [← HZ.out]; exact hjl, by rw [hsz', h10]; decide⟩)
                have HN2 := Lib.hid n2
                clear hz hsz' n2
                go_wp2
                go_roundw
                case rel => exact ⟨j, us, x, _, by omega, rfl, rfl, rfl, HOWN.out, KR.out, HN2⟩
                case measure => simp [intOf]; omega
              · have hnn : (((bytesOf s)[j].toNat : Int) != 10) = true := by
                  rw [hz]
                  have : z.toNat ≠ 10 := fun e => h10 (by rw [← UInt8.toNat_inj]; exact e)
                  simp
                  omega
                have HA : Hid (∀ m (hm : m < s.length), k ≤ m → m < j + 1 → noNl s[m] = true) := Lib.hid (fun m hm h1 h2 => by
                  by_cases e : m = j
                  · subst e; rw [hsz']; unfold noNl; simpa using h10
                  · exact hall.out m hm h1 (by omega))
                clear hz hsz'
                go_wp2
                go_round
                case rel => exact ⟨j + 1, by omega, by omega, by go_num, by congr 1; omega, HA⟩
                case measure => simp [intOf]; omega
            · obtain rfl : j = (bytesOf s).size := by omega
              obtain ⟨n1, n2⟩ := HNX.out _ hkj hj hall.out (.inl rfl)
              have HN2 := Lib.hid n2
              clear n2
              go_wp2
              go_roundw
              case rel => exact ⟨_, us, x, _, Nat.le_refl _, rfl, rfl, rfl, HOWN.out, KR.out, HN2⟩
              case measure => simp [intOf]; omega
        | false =>
          have hit : IsTok (hdOf (s.drop k)) := by
            have := HPC.out
            rw [HD.out] at this ⊢
            exact hd_tk' HC1.out HC2.out this
          obtain ⟨⟨kk, tt, vv⟩, hkq⟩ : ∃ z, tokQ (s.drop k) = z := ⟨_, rfl⟩
          have HT := Lib.hid (fun W => rToken_any (s.drop k) (by rw [List.length_drop, ← HZ.out]; omega) W kk tt vv hkq)
          have hex := HEX.out
          have hbl := HB.out.2.2.2.1
          cases ht : tokR (s.drop k) with
          | none =>
            unfold tokQ at hkq
            rw [ht] at hkq
            simp only [Prod.mk.injEq] at hkq
            obtain ⟨rfl, rfl, rfl⟩ := hkq
            have hres : Res = .error (x, y) := by
              rw [hinv.out.lex, Lex_no hit (by rw [tokR_is hit]; exact ht)]
              rfl
            have HUS : Hid ([] = ts ∧ fe = 11 ∧ fl = x ∧ fc = y) := Lib.hid (by
              have := HF.out
              rw [hres] at this
              exact ⟨this.1, this.2.1.symm, this.2.2.1.symm, this.2.2.2.symm⟩)
            clear ht hit hres HPC HC1 HC2 HD HBY
            go_wp2_with fail
            refine (HHP.out _).mono ?_
            rintro e w2 ⟨rfl, rfl⟩
            go_wp2_with fail
            refine (HT.out _).mono ?_
            rintro e w2 ⟨rfl, k2⟩
            clear hex HEX HHP HT
            have K2 := Lib.hid (KR.out.trans k2)
            clear k2
            have kr := K2.out
            have b0 := (kr.cells RB 0 hbl).trans HB.out.1
            have b1 := (kr.cells RB 1 hbl).trans HB.out.2.1
            have b2 := (kr.cells RB 2 hbl).trans HB.out.2.2.1
            have f0 := (kr.fros RB 0 hbl).trans (HB.out.2.2.2.2 0)
            have f1 := (kr.fros RB 1 hbl).trans (HB.out.2.2.2.2 1)
            have f2 := (kr.fros RB 2 hbl).trans (HB.out.2.2.2.2 2)
            simp only [List.getElem?_toArray, List.getElem?_cons_succ, List.getElem?_cons_zero] at b0 b1 b2
            clear kr
            have hnb : ∀ W, Kp w2 W → (∀ o, W.cell? ⟨RB, o, none⟩ = w2.cell? ⟨RB, o, none⟩) ∧ ∀ o, W.frozen? ⟨RB, o, none⟩ = w2.frozen? ⟨RB, o, none⟩ := fun W k => ⟨fun o => k.cells RB o (Nat.lt_of_lt_of_le hbl K2.out.size), fun o => k.fros RB o (Nat.lt_of_lt_of_le hbl K2.out.size)⟩
            have HNB := Lib.hid hnb
            clear hnb
            go_upto_region 15 with (fail)
            generalize hW3 : w2.alloc _ = w3
            have A3 := alloc_new_of hW3
            have K3 := Lib.hid (K2.out.trans A3.2.1)
            obtain ⟨cc, ff⟩ := HNB.out w3 A3.2.1
            have b0 := (cc 0).trans b0
            have b1 := (cc 1).trans b1
            have b2 := (cc 2).trans b2
            have f0 := (ff 0).trans f0
            have f1 := (ff 1).trans f1
            have f2 := (ff 2).trans f2
            have t0 := A3.1 0
            simp only [List.getElem?_toArray, List.getElem?_cons_zero] at t0
            clear A3 hW3 cc ff
            go_wp2
            generalize hW : World.setCell _ ⟨RB, 2, none⟩ _ = W
            obtain ⟨C0, C1, C2, CB⟩ := three_put b0 b1 b2 _ _ _ hW
            obtain ⟨e1, e2, e3, e4⟩ := HUS.out
            subst e1 e2 e3 e4
            exact bodyPost_ret (v := .tuple #[.slice none 0 0, .agg #[.int .i64 11, .int .i64 fl, .int .i64 fc]]) (by simp [results, Tryd.results13, go_sem, C0, C1, C2]) rfl ⟨_, rfl, World.ownsRow_nil _ _ _ _, ⟨(HK1.out.trans K3.out).below.trans (CB.mono (by have := HRB.out; omega))⟩⟩
          | some q =>
            obtain ⟨k', n, v'⟩ := q
            unfold tokQ at hkq
            rw [ht] at hkq
            simp only [Prod.mk.injEq] at hkq
            obtain ⟨rfl, rfl, rfl⟩ := hkq
            have hth : tokH (hdOf (s.drop k)) (s.drop k) = some (k', n, v') := by rw [tokR_is hit]; exact ht
            have hne : (k' == 0) = false := by simpa using kind_ne hit hth
            have hkb := kind_pos ht
            have hvb := num_bd ht
            have hnl := tokH_len hth
            rw [List.length_drop, ← HZ.out] at hnl
            have htl : ((s.drop k).take n).length = n := by rw [List.length_take, List.length_drop, ← HZ.out]; omega
            have hts : ((bytesOf ((s.drop k).take n)).size : Int) = (n : Int) := by rw [bytesOf_size, htl]
            have HN : Hid (AInv Res s (k + n) (us ++ [⟨k', (s.drop k).take n, x, y, v'⟩]) x (y + n)) := Lib.hid ⟨by
              rw [hinv.out.lex, Lex_yes hth, pre_pre, List.drop_drop], by rw [List.length_append]; have := hinv.out.us; simp; omega, by omega, by omega, by omega, by omega⟩
            have HUL : Hid (us.length ≤ 65536) := Lib.hid (by have := hinv.out.us; omega)
            have HFM : Hid ((us ++ [(⟨k', (s.drop k).take n, x, y, v'⟩ : Tk)]).flatMap celK = us.flatMap celK ++ [.int .i64 k', .string (bytesOf ((s.drop k).take n)), .int .i64 x, .int .i64 y, .int .u32 v']) := Lib.hid (by simp [celK])
            clear ht hit hth htl HPC HC1 HC2 HD HBY
            generalize (s.drop k).take n = tx at *
            go_wp2_with fail
            refine (HHP.out _).mono ?_
            rintro e w2 ⟨rfl, rfl⟩
            go_wp2_with fail
            refine (HT.out _).mono ?_
            rintro e w2 ⟨rfl, k2⟩
            clear hex HEX HHP HT
            have K2 := Lib.hid (KR.out.trans k2)
            have HO2 := Lib.hid (own_kp HOWN.out k2)
            clear k2
            go_upto_region 15 with (fail)
            generalize hW3 : w2.alloc _ = w3
            have A3 := alloc_new_of hW3
            have t0 := A3.1 0
            have t1 := A3.1 1
            have t2 := A3.1 2
            have t3 := A3.1 3
            have t4 := A3.1 4
            have fr2 := A3.2.2.2 2
            have fr3' := A3.2.2.2 3
            have z3 := A3.2.2.1
            have K3 := Lib.hid A3.2.1
            simp only [List.getElem?_toArray, List.getElem?_cons_succ, List.getElem?_cons_zero] at t0 t1 t2 t3 t4
            clear A3 hW3
            obtain ⟨TB, hTB⟩ : ∃ TB, w2.heap.size = TB := ⟨_, rfl⟩
            rw [hTB] at t0 t1 t2 t3 t4 z3 fr2 fr3' ⊢
            have HTB := Lib.hid hTB
            clear hTB
            go_upto_region 18 with (fail)
            generalize hW4 : World.setCell _ ⟨TB, 3, none⟩ _ = w4
            obtain ⟨u0', u1', u2', u3', u4', CB⟩ := two_put t0 t1 t2 t3 t4 _ _ hW4
            have K4 : Hid (Kp w2 w4) := Lib.hid ⟨K3.out.below.trans (CB.mono (by have := HTB.out; omega))⟩
            have hown4 := own_kp HO2.out K4.out
            have z4 : TB < w4.heap.size := Nat.lt_of_lt_of_le z3 CB.size
            clear hW4 t0 t1 t2 t3 t4 CB z3 fr2 fr3'
            go_wp2_with (at_builtin; refine wpList_append_own _ rfl _ _ 22 rfl w1.heap.size 33 i0 (.agg #[.int .i64 0, .string ⟨#[]⟩, .int .i64 0, .int .i64 0, .int .u32 0]) 5 48 Tryd.underlying22 hi hz0 hz1 hz2 rfl (by decide) _ _ _ rfl (hown4.alloc _) ⟨w4.heap.size, 0, none⟩ 1 1 [.int .i64 k', .string (bytesOf tx), .int .i64 x, .int .i64 y, .int .u32 v'] rfl rfl ?c1 ?c2 ?c3 ?c4 ?c5 ?_)
            case c1 => exact World.news_of_block (heap_alloc_new _ _)
            case c2 => intro u hu; simp only [List.mem_cons, List.not_mem_nil, or_false] at hu; rcases hu with rfl | rfl | rfl | rfl | rfl <;> rfl
            case c3 => have := HUL.out; unfold maxLen; omega
            case c4 => have := HUL.out; omega
            case c5 => have := (K2.out.trans K4.out).size; simp; omega
            intro vn w6 hown' hgrow _
            rw [← HFM.out] at hown'
            have cT : w6.cell? ⟨TB, 1, none⟩ = some (.string (bytesOf tx)) := hgrow.cell ((((Kp.refl w4).alloc _ _).cells TB 1 z4).trans u1') (fun e => by
              have := (HO2.out.lt TB e.symm).2
              have := HTB.out
              omega)
            have HOW := Lib.hid hown'
            have K6 : Hid (Kp w1 w6) := Lib.hid (kp_grown ((K2.out.trans K4.out).alloc _ _) hgrow (fun q hq => (HO2.out.lt q hq).1))
            clear hown' hgrow hown4 u0' u1' u2' u3' u4' z4
            go_wp2_with fail
            go_quiet (fail)
            go_wp2
            go_roundw
            case rel => exact ⟨k + n, _, x, y + n, by omega, by go_num, rfl, by go_num, by rw [List.length_append]; exact HOW.out, K6.out.drewN _, HN⟩
            case measure => simp [intOf]; omega
    · obtain rfl : k = (bytesOf s).size := by omega
      have hres : Res = .ok us := by
        rw [hinv.out.lex, List.drop_of_length_le (by rw [HZ.out]; exact Nat.le_refl _)]
        show Except.ok (us ++ []) = _
        rw [List.append_nil]
      have HUS : Hid (us = ts ∧ fe = 0 ∧ fl = 0 ∧ fc = 0) := Lib.hid (by
        have := HF.out
        rw [hres] at this
        exact ⟨this.1, this.2.1.symm, this.2.2.1.symm, this.2.2.2.symm⟩)
      have b0 := (kr.cells RB 0 HB.out.2.2.2.1).trans HB.out.1
      have b1 := (kr.cells RB 1 HB.out.2.2.2.1).trans HB.out.2.1
      have b2 := (kr.cells RB 2 HB.out.2.2.2.1).trans HB.out.2.2.1
      have f0 := (kr.fros RB 0 HB.out.2.2.2.1).trans (HB.out.2.2.2.2 0)
      have f1 := (kr.fros RB 1 HB.out.2.2.2.1).trans (HB.out.2.2.2.2 1)
      have f2 := (kr.fros RB 2 HB.out.2.2.2.1).trans (HB.out.2.2.2.2 2)
      simp only [List.getElem?_toArray, List.getElem?_cons_succ, List.getElem?_cons_zero] at b0 b1 b2
      have HOWN := Lib.hid hown
      have KR := Lib.hid kr
      have hBL := Lib.hid HB.out.2.2.2.1
      clear hown kr hres
      go_wp2
      generalize hW : World.setCell _ ⟨RB, 2, none⟩ _ = W
      obtain ⟨C0, C1, C2, CB⟩ := three_put b0 b1 b2 _ _ _ hW
      have HOW := own_far3 HOWN.out (B := RB) hBL.out hW
      obtain ⟨e1, e2, e3, e4⟩ := HUS.out
      subst e1 e2 e3 e4
      exact bodyPost_ret (v := .tuple #[u4, .agg #[.int .i64 0, .int .i64 0, .int .i64 0]]) (by simp [results, Tryd.results13, go_sem, C0, C1, C2]) rfl ⟨_, rfl, own_le HOW (by have := HK1.out.size; omega), ⟨(HK1.out.trans KR.out).below.trans (CB.mono (by have := HRB.out; omega))⟩⟩
end Lx
end Go.Proofs.YtlgkcjhoaecekaaDoor
