/-
  WALKS: the kit's LightStmts: how much there is in statements. Own work.
-/
import Derived.Test.YtbedcplkcaanhaaAsLight
import Derived.Test.YtbedcplkcaanhaaAsOpenS
namespace Go.Proofs.Ytbedcplkcaanhaa
namespace As
open Go.RowKit Go Rg Go.Shelf
set_option linter.unusedVariables false

/-- What is left behind a statement's own names and expressions. -/
def midS (s : St) (left : Int) : Int := liF s.ex.l (liF s.ix.l (left - 1 - (s.nm.length : Int).tdiv 20 - (s.ns.l.length : Int)))
mutual
/-- What is left behind a statement. -/
def lsN : St → Int → Int
  | .mk k li t n nm ns ix ex ta tc th la lc el, left =>
    if 0 ≤ midS (.mk k li t n nm ns ix ex ta tc th la lc el) left then lsF el (lsF th (midS (.mk k li t n nm ns ix ex ta tc th la lc el) left)) else midS (.mk k li t n nm ns ix ex ta tc th la lc el) left
def lsF : List St → Int → Int
  | [], left => left
  | e :: l, left => if 0 ≤ left then lsF l (lsN e left) else left
end
theorem lsN_eq (s : St) (left : Int) : lsN s left = if 0 ≤ midS s left then lsF s.el (lsF s.th (midS s left)) else midS s left := by cases s; rw [lsN]; rfl
theorem lsF_neg (l : List St) {left : Int} (h : left < 0) : lsF l left = left := by
  cases l with
  | nil => rw [lsF]
  | cons e l => rw [lsF, if_neg (by omega)]
/-- What it tells of one statement. -/
structure StB (left : Int) (s : St) : Prop where
  nm : ((s.nm.length / 20 : Nat) : Int) ≤ left
  ns : (s.ns.l.length : Int) ≤ left
  xs : ∀ d, ∀ p ∈ flatF d s.xs, ((p.2.nm.length / 20 : Nat) : Int) ≤ left
  ht : (htF s.xs : Int) ≤ left
theorem StB.mono {a b : Int} (h : a ≤ b) {s : St} (k : StB a s) : StB b s := ⟨Int.le_trans k.nm h, Int.le_trans k.ns h, fun d p hp => Int.le_trans (k.xs d p hp) h, Int.le_trans k.ht h⟩
theorem htF_app (a b : List Nd) : htF (a ++ b) = max (htF a) (htF b) := by
  induction a with
  | nil => simp [htF]
  | cons x l ih => simp only [List.cons_append, htF, ih]; omega
theorem partsL_cons (p : Int × St) (xs : List (Int × St)) : partsL (p :: xs) = oneP p ++ partsL xs := by simp [partsL]
def LsP (l : List St) (left r : Int) : Prop := r ≤ left ∧ (0 ≤ r → (∀ d, r + (partsL (flatS d l)).length ≤ left) ∧ (∀ d, ∀ p ∈ flatS d l, StB left p.2) ∧ (htS l : Int) ≤ left)
theorem ls_facts : ∀ (h : Nat) (l : List St) (left : Int), htS l ≤ h → LsP l left (lsF l left) := by
  intro h
  induction h using Nat.strongRecOn with
  | _ h ih =>
    intro l
    induction l with
    | nil => intro left _; rw [lsF]; exact ⟨Int.le_refl _, fun h0 => ⟨fun d => by simp [flatS, partsL], fun d p hp => by simp [flatS] at hp, by simpa [htS] using h0⟩⟩
    | cons e l ihl =>
      intro left hh
      rw [htS] at hh
      by_cases h0 : 0 ≤ left
      · rw [lsF, if_pos h0]
        have he := htT_eq e
        unfold St.kids at he
        rw [htS_app] at he
        have hq := tdiv_nat e.nm.length
        have hx1 := li_facts (htF e.ix.l) e.ix.l (left - 1 - (e.nm.length : Int).tdiv 20 - (e.ns.l.length : Int)) (Nat.le_refl _)
        have hx2 := li_facts (htF e.ex.l) e.ex.l (liF e.ix.l (left - 1 - (e.nm.length : Int).tdiv 20 - (e.ns.l.length : Int))) (Nat.le_refl _)
        have hm : midS e left = liF e.ex.l (liF e.ix.l (left - 1 - (e.nm.length : Int).tdiv 20 - (e.ns.l.length : Int))) := rfl
        rw [← hm] at hx2
        generalize liF e.ix.l (left - 1 - (e.nm.length : Int).tdiv 20 - (e.ns.l.length : Int)) = b1 at hx1 hx2
        have h1 := ih (htS e.th) (by omega) e.th (midS e left) (Nat.le_refl _)
        have h2 := ih (htS e.el) (by omega) e.el (lsF e.th (midS e left)) (Nat.le_refl _)
        have h3 := ihl (lsN e left) (by omega)
        have hs := lsN_eq e left
        generalize hmm : midS e left = b2 at *
        clear hm
        have hle : lsN e left ≤ left := by
          have := hx1.1; have := hx2.1; have := h1.1; have := h2.1
          rw [hs]
          split <;> omega
        refine ⟨by have := h3.1; omega, fun hr => ?_⟩
        have h3' := h3.2 hr
        have hpos : 0 ≤ lsN e left := by have := h3.1; omega
        have hb2 : 0 ≤ b2 := by
          rcases Int.lt_or_le b2 0 with g | g
          · rw [if_neg (by omega)] at hs; omega
          · exact g
        rw [if_pos hb2] at hs
        have h2' := h2.2 (by omega)
        have h1' := h1.2 (by have := h2.1; omega)
        have hx2' := hx2.2 hb2
        have hx1' := hx1.2 (by have := hx2.1; omega)
        have q1 := hx1.1
        have q2 := hx2.1
        have q3 := h1.1
        have q4 := h2.1
        have own : StB left e := by
          refine ⟨by have := (hx1' 0).1; omega, by have := (hx1' 0).1; omega, fun d p hp => ?_, ?_⟩
          · unfold St.xs at hp
            rw [flatF_app] at hp
            rcases List.mem_append.1 hp with hp | hp
            · have := (hx1' d).2.1 p hp; omega
            · have := (hx2' d).2.1 p hp; omega
          · unfold St.xs
            rw [htF_app]
            have := (hx1' 0).2.2; have := (hx2' 0).2.2
            omega
        refine ⟨fun d => ?_, fun d p hp => ?_, ?_⟩
        · rw [flatS, flatT1_eq]
          unfold St.kids
          rw [flatS_app, partsL_app, partsL_cons, partsL_app]
          unfold oneP St.xs
          rw [flatF_app]
          have a1 := h1'.1 (d + 1)
          have a2 := h2'.1 (d + 1)
          have a3 := h3'.1 d
          have a4 := (hx1' (d + 1)).1
          have a5 := (hx2' (d + 1)).1
          simp only [List.length_append, List.length_cons, List.length_map]
          push_cast
          omega
        · rw [flatS, flatT1_eq] at hp
          rcases List.mem_append.1 hp with hp | hp
          · rcases List.mem_cons.1 hp with rfl | hp
            · exact own
            · unfold St.kids at hp
              rw [flatS_app] at hp
              rcases List.mem_append.1 hp with hp | hp
              · exact (h1'.2.1 _ p hp).mono (by omega)
              · exact (h2'.2.1 _ p hp).mono (by omega)
          · exact (h3'.2.1 _ p hp).mono (by omega)
        · rw [htS]
          have a1 := h1'.2.2
          have a2 := h2'.2.2
          have a3 := h3'.2.2
          have a4 := h1.1
          have a5 := (hx1' 0).1
          omega
      · rw [lsF, if_neg h0]
        exact ⟨Int.le_refl _, fun hr => absurd hr h0⟩
theorem lsF_drop {l : List St} {j : Nat} (hj : j < l.length) {x : Int} (h0 : 0 ≤ x) : lsF (l.drop j) x = lsF (l.drop (j + 1)) (lsN (l.getD j s0) x) := by
  rw [List.drop_eq_getElem_cons hj, lsF, if_pos h0, List.getD_eq_getElem?_getD, List.getElem?_eq_getElem hj]
  rfl
theorem NmAll.ok {l : List Nd} (h : NmAll l) : NmOk l := fun d p hp => Nat.le_trans (h d p hp) (by decide)
theorem sm_at {l : List St} (h : SmAll l) {s : St} (hm : s ∈ l) : TxAll s ∧ SmAll s.th ∧ SmAll s.el := by
  have sub : ∀ d, ∀ p ∈ flatS d [s], p ∈ flatS d l := fun d p hp => by
    obtain ⟨a, b, hab⟩ := List.append_of_mem hm
    rw [hab, flatS_app, show s :: b = [s] ++ b from rfl, flatS_app]
    simp [hp]
  have kid : ∀ d, ∀ p ∈ flatS d s.kids, TxAll p.2 := fun d p hp => h (d - 1) p (sub (d - 1) p (by rw [flatS_one, show d - 1 + 1 = d by omega]; exact List.mem_cons_of_mem _ hp))
  refine ⟨h 1 (1, s) (sub 1 _ (by rw [flatS_one]; simp)), fun d p hp => kid d p ?_, fun d p hp => kid d p ?_⟩
  · unfold St.kids; rw [flatS_app]; exact List.mem_append.2 (.inl hp)
  · unfold St.kids; rw [flatS_app]; exact List.mem_append.2 (.inr hp)
theorem mid_low {s : St} (h : TxAll s) {left : Int} (h0 : 0 ≤ left) : -461168601842738791 ≤ liF s.ix.l (left - 1 - (s.nm.length : Int).tdiv 20 - (s.ns.l.length : Int)) ∧ -461168601842738791 ≤ midS s left := by
  have hq := tdiv_nat s.nm.length
  have h1 := h.1
  have h2 := h.2.2.1
  have a := li_low (htF s.ix.l) s.ix.l (left - 1 - (s.nm.length : Int).tdiv 20 - (s.ns.l.length : Int)) (Nat.le_refl _) h.2.2.2.1.ok (by omega)
  exact ⟨a, li_low (htF s.ex.l) s.ex.l _ (Nat.le_refl _) h.2.2.2.2.ok a⟩
theorem ls_low : ∀ (h : Nat) (l : List St) (left : Int), htS l ≤ h → SmAll l → -461168601842738791 ≤ left → -461168601842738791 ≤ lsF l left := by
  intro h
  induction h using Nat.strongRecOn with
  | _ h ih =>
    intro l
    induction l with
    | nil => intro left _ _ h0; rw [lsF]; exact h0
    | cons e l ihl =>
      intro left hh hnm h0
      rw [htS] at hh
      by_cases hp : 0 ≤ left
      · rw [lsF, if_pos hp]
        have he := htT_eq e
        unfold St.kids at he
        rw [htS_app] at he
        obtain ⟨ho, ht, hl⟩ := sm_at hnm (List.mem_cons_self (a := e) (l := l))
        refine ihl _ (by omega) (fun d p hp => hnm d p (by rw [flatS]; exact List.mem_append.2 (.inr hp))) ?_
        have hm := (mid_low ho hp).2
        rw [lsN_eq]
        split
        · exact ih (htS e.el) (by omega) e.el _ (Nat.le_refl _) hl (ih (htS e.th) (by omega) e.th _ (Nat.le_refl _) ht hm)
        · exact hm
      · rw [lsF, if_neg hp]; exact h0
theorem below_dn (z : Nat) (w : World) (n : Nat) (h : z ≤ w.heap.size) : Below z w (w.drewN n) := ⟨rfl, rfl, rfl, Nat.le_refl _, fun _ _ => rfl⟩
theorem quietE {P : Program} {f : FuncId} {args : Array Value} {w : World} {k n : Nat} {v : Value}
    (h : Calls P f args (w.drewN (k + n)) fun e w' => e = .returned v ∧ Qt (w.drewN (k + n)) w') : Calls P f args (w.drewN (k + n)) fun e w'' => e = .returned v ∧ ∃ m, w'' = w.drewN (k + m) :=
  h.mono fun _ _ ⟨he, m, hm⟩ => ⟨he, n + m, by rw [hm, World.drewN_drewN, Nat.add_assoc]⟩
def LightSC (h : Nat) : Prop := ∀ (l : List St) (ao : Option Addr) (cap : Nat) (left : Int) (w : World) (N : Nat), htS l ≤ h → Sts w N ao l → l.length ≤ 9223372036854775807 → -9223372036854775808 ≤ left → left ≤ 9223372036854775807 → SmAll l →
  Calls Try.prog 42 #[.slice ao l.length cap, .int .i64 left] w fun e w' => e = .returned (.int .i64 (lsF l left)) ∧ Qt w w'
set_option maxHeartbeats 4000000 in
set_option maxRecDepth 100000 in
theorem lights_step {h : Nat} (IH : ∀ h', h' < h → LightSC h') : LightSC h := by
  intro l ao cap left w N hh hk hl hx0 hx1 hnm
  have HK := Lib.hid hk
  have HI := Lib.hid IH
  have HH := Lib.hid hh
  have HNM := Lib.hid hnm
  have HX : Hid (∃ n r, l.length = n ∧ lsF l left = r) := Lib.hid ⟨_, _, rfl, rfl⟩
  obtain ⟨n, r, hn, hr⟩ := HX.out
  rw [hn] at hl ⊢
  rw [hr]
  have HQ := Lib.hid hn
  have HR := Lib.hid hr
  clear hk IH hh hnm hn hr HX
  go_enter Try.func42, Try.ntmps42
  go_wp2
  go_loopw [1, 5] (fun v i wr => ∃ (j : Nat) (x : Int), j ≤ n ∧ i = .int .i64 j ∧ v = .int .i64 x ∧ Hid (lsF (l.drop j) x = r) ∧ Hid (-9223372036854775808 ≤ x ∧ x ≤ 9223372036854775807) ∧ Qt w wr) (fun _ i _ => n - (intOf i).toNat)
  case atStart => exact ⟨0, left, Nat.zero_le _, rfl, rfl, Lib.hid (by simpa using HR.out), Lib.hid ⟨hx0, hx1⟩, Qt.refl _⟩
  case round =>
    obtain ⟨j, x, hj, rfl, rfl, hrr, hxb, hq⟩ := hrel
    by_cases hjm : j < n
    · by_cases hpos : 0 ≤ x
      · have hjl : j < l.length := by rw [HQ.out]; exact hjm
        obtain ⟨b1, o1, ha1, _, zb1, cc1, in1, th1, el1⟩ := (HK.out.keep (V := fun _ => False) (Keep.of hq.below) (fun _ h => h.elim)).at hjl
        subst ha1
        have e4 := cc1 4 (by decide)
        have e5 := cc1 5 (by decide)
        have e6 := cc1 6 (by decide)
        have e7 := cc1 7 (by decide)
        have e8 := cc1 8 (by decide)
        have e9 := cc1 9 (by decide)
        have hmem : l.getD j s0 ∈ l := by rw [List.getD_eq_getElem?_getD, List.getElem?_eq_getElem hjl]; exact List.getElem_mem hjl
        have hnk := sm_at HNM.out hmem
        have hne := lsF_drop hjl hpos
        have hht := ht_memS hmem
        unfold St.kids at hht
        rw [htS_app] at hht
        have HNE := Lib.hid hne
        have HHT := Lib.hid hht
        have HNK := Lib.hid hnk
        have HIN := Lib.hid (And.intro in1 (And.intro th1 el1))
        have hk0 : (0 : Int) ≤ (j : Int) := Int.natCast_nonneg _
        have hk1 : (j : Int) < (n : Int) := by omega
        have hxle := hxb.out.2
        clear cc1 in1 th1 el1 hjl hnk hne hht hmem
        generalize l.getD j s0 = e at *
        simp only [St.cell] at e4 e5 e6 e7 e8 e9
        have hsz : (bytesOf e.nm).size = e.nm.length := by simp [bytesOf, ByteArray.size]
        obtain ⟨q, hq2⟩ : ∃ q, (e.nm.length : Int).tdiv 20 = q := ⟨_, rfl⟩
        obtain ⟨m, hm2⟩ : ∃ m, e.ns.l.length = m := ⟨_, rfl⟩
        have hq3 : 0 ≤ q ∧ q ≤ 7036874417561 := by
          rw [← hq2, tdiv_nat]
          have := HNK.out.1.1
          omega
        have hm3 : m ≤ 8796093022207 := by rw [← hm2]; exact HNK.out.1.2.2.1
        have hw1 : IntKind.i64.wrap (x - 1) = x - 1 := IntWalk.i64_in _ ⟨by omega, by omega⟩
        have hw2 : IntKind.i64.wrap (x - 1 - q) = x - 1 - q := IntWalk.i64_in _ ⟨by omega, by omega⟩
        have hw3 : IntKind.i64.wrap (x - 1 - q - (m : Int)) = x - 1 - q - (m : Int) := IntWalk.i64_in _ ⟨by omega, by omega⟩
        have hlow := mid_low HNK.out.1 hpos
        have hmd : midS e x = liF e.ex.l (liF e.ix.l (x - 1 - q - (m : Int))) := by unfold midS; rw [hq2, hm2]
        rw [hq2, hm2, hmd] at hlow
        have hu1 := (li_facts (htF e.ix.l) e.ix.l (x - 1 - q - (m : Int)) (Nat.le_refl _)).1
        have hu2 := (li_facts (htF e.ex.l) e.ex.l (liF e.ix.l (x - 1 - q - (m : Int))) (Nat.le_refl _)).1
        have HCI := Lib.hid (fun (w' : World) (k : Below wr.heap.size wr w') => light_all (htF e.ix.l) e.ix.l e.ix.ao e.ix.cap (x - 1 - q - (m : Int)) w' N (Nat.le_refl _) (HIN.out.1.ix.keep (V := fun _ => False) (Keep.of k) (fun _ h => h.elim)) (by have := HIN.out.1.cix; unfold Capd at this; omega) (by omega) (by omega) HNK.out.1.2.2.2.1.ok)
        have HCE := Lib.hid (fun (w' : World) (k : Below wr.heap.size wr w') => light_all (htF e.ex.l) e.ex.l e.ex.ao e.ex.cap (liF e.ix.l (x - 1 - q - (m : Int))) w' N (Nat.le_refl _) (HIN.out.1.ex.keep (V := fun _ => False) (Keep.of k) (fun _ h => h.elim)) (by have := HIN.out.1.cex; unfold Capd at this; omega) (by omega) (by omega) HNK.out.1.2.2.2.2.ok)
        have HMD := Lib.hid hmd
        clear hmd
        generalize liF e.ix.l (x - 1 - q - (m : Int)) = y1 at *
        obtain ⟨y2, hy2⟩ : ∃ y2, liF e.ex.l y1 = y2 := ⟨_, rfl⟩
        rw [hy2] at HCE HMD hlow hu2
        clear hy2
        have HT := Lib.hid (fun (w' : World) (k : Below wr.heap.size wr w') => HI.out (htS e.th) (by have := HH.out; have := HHT.out; omega) e.th e.ta e.tc y2 w' N (Nat.le_refl _) (HIN.out.2.1.keep (V := fun _ => False) (Keep.of k) (fun _ h => h.elim)) (by have := HIN.out.1.cth; unfold Capd at this; omega) (by omega) (by omega) HNK.out.2.1)
        have hlo3 := ls_low (htS e.th) e.th y2 (Nat.le_refl _) HNK.out.2.1 hlow.2
        have hu3 := (ls_facts (htS e.th) e.th y2 (Nat.le_refl _)).1
        have hlo4 := ls_low (htS e.el) e.el (lsF e.th y2) (Nat.le_refl _) HNK.out.2.2 hlo3
        have hu4 := (ls_facts (htS e.el) e.el (lsF e.th y2) (Nat.le_refl _)).1
        have HE := Lib.hid (fun (w' : World) (k : Below wr.heap.size wr w') => HI.out (htS e.el) (by have := HH.out; have := HHT.out; omega) e.el e.la e.lc (lsF e.th y2) w' N (Nat.le_refl _) (HIN.out.2.2.keep (V := fun _ => False) (Keep.of k) (fun _ h => h.elim)) (by have := HIN.out.1.cel; unfold Capd at this; omega) (by omega) (by omega) HNK.out.2.2)
        have HLS := Lib.hid (lsN_eq e x)
        rw [HMD.out] at HLS
        generalize lsF e.th y2 = y3 at *
        obtain ⟨y4, hy4⟩ : ∃ y4, lsF e.el y3 = y4 := ⟨_, rfl⟩
        rw [hy4] at HE HLS hlo4 hu4
        clear hy4
        rw [hm2] at e5
        clear hm2
        go_wp2
        go_quiet (fail)
        go_wp2
        go_quiet ((go_at_call 45; first | (refine quietE (v := .int .i64 y1) ?_; with_reducible exact HCI.out _ (below_dn _ _ _ (Nat.le_refl _))) | (refine quietE (v := .int .i64 y2) ?_; with_reducible exact HCE.out _ (below_dn _ _ _ (Nat.le_refl _)))))
        by_cases hy : 0 ≤ y2
        · go_wp2
          go_quiet ((go_at_call 42; first | (refine quietE (v := .int .i64 y3) ?_; with_reducible exact HT.out _ (below_dn _ _ _ (Nat.le_refl _))) | (refine quietE (v := .int .i64 y4) ?_; with_reducible exact HE.out _ (below_dn _ _ _ (Nat.le_refl _)))))
          go_wp2
          go_roundw
          case rel =>
            exact ⟨j + 1, y4, by omega, by go_num, rfl, Lib.hid (by rw [← hrr.out, HNE.out, HLS.out, if_pos hy]), Lib.hid ⟨by omega, by omega⟩, hq.drew _⟩
          case measure => simp [intOf]; omega
        · have HY := Lib.hid hy
          have hneg : y2 < 0 := by omega
          clear hy
          go_wp2
          go_roundw
          case rel =>
            exact ⟨j + 1, y2, by omega, by go_num, rfl, Lib.hid (by rw [← hrr.out, HNE.out, HLS.out, if_neg HY.out]), Lib.hid ⟨by omega, by omega⟩, hq.drew _⟩
          case measure => simp [intOf]; omega
      · have hr2 : Hid (x = r) := Lib.hid (by rw [← hrr.out, lsF_neg _ (by omega)])
        have hneg : x < 0 := by omega
        have hk1 : (j : Int) < (n : Int) := by omega
        have hk0 : (0 : Int) ≤ (j : Int) := Int.natCast_nonneg _
        clear hpos
        go_wp2
        go_ret
        exact ⟨by rw [← hr2.out]; rfl, hq⟩
    · obtain rfl : j = n := by omega
      have hr2 : Hid (x = r) := Lib.hid (by rw [← hrr.out, List.drop_of_length_le (by rw [HQ.out]; exact Nat.le_refl _), lsF])
      go_wp2
      go_ret
      exact ⟨by rw [← hr2.out]; rfl, hq⟩
theorem lights_all (h : Nat) : LightSC h := by
  induction h using Nat.strongRecOn with
  | _ h ih => exact lights_step ih
/-- LightStmts. -/
theorem LightStmts_any (l : List St) (ao : Option Addr) (cap : Nat) (w : World) {N : Nat} (hk : Sts w N ao l) (hc : l.length ≤ 9223372036854775807) (hnm : SmAll l) (x : Int) (hx : lsF l 300 = x) (n : Nat) (hn : l.length = n) :
    Calls Try.prog 25 #[.slice ao n cap, .int .i64 300] w fun r w' => r = .returned (.bool (decide (0 ≤ x))) ∧ Below w.heap.size w w' := by
  have HL := Lib.hid (fun (w' : World) (k : Below w.heap.size w w') => lights_all (htS l) l ao cap 300 w' N (Nat.le_refl _) (hk.keep (V := fun _ => False) (Keep.of k) (fun _ h => h.elim)) hc (by decide) (by decide) hnm)
  rw [hx, hn] at HL
  clear hk hc hnm hx hn
  go_enter Try.func25, Try.ntmps25
  go_wp2_with (refine (HL.out _ (Below.refl _ _)).mono ?_)
  rintro r w2 ⟨rfl, q⟩
  have HB2 := Lib.hid q.below
  clear q
  go_wp2
  go_ret
  exact ⟨rfl, HB2.out⟩
end As
end Go.Proofs.Ytbedcplkcaanhaa
