/-
  WALKS: the kit's LightExpr: how much there is in expressions. Own work.
-/
import Derived.Test.YtbedcplkcaanhaaAsOpen
import Derived.Test.YtbedcplkcaanhaaAsTexts
import Derived.Test.YtbedcplkcaanhaaAsExpr
import Derived.Test.YtbedcplkcaanhaaAsLives
import Derived.BigQuiet
namespace Go.Proofs.Ytbedcplkcaanhaa
namespace As
open Go.RowKit Go Rg Go.Shelf
set_option linter.unusedVariables false

mutual
/-- What is left behind an expression. -/
def liN : Nd → Int → Int
  | .mk _ _ _ _ nm _ _ kids, left => liF kids (left - 1 - (nm.length : Int).tdiv 20)
def liF : List Nd → Int → Int
  | [], left => left
  | e :: l, left => if 0 ≤ left then liF l (liN e left) else left
end
theorem liN_eq (e : Nd) (left : Int) : liN e left = liF e.kids (left - 1 - (e.nm.length : Int).tdiv 20) := by cases e; rw [liN]; rfl
theorem liF_neg (l : List Nd) {left : Int} (h : left < 0) : liF l left = left := by
  cases l with
  | nil => rw [liF]
  | cons e l => rw [liF, if_neg (by omega)]
theorem tdiv_nat (n : Nat) : (n : Int).tdiv 20 = ((n / 20 : Nat) : Int) := by
  rw [Int.tdiv_eq_ediv_of_nonneg (Int.natCast_nonneg _)]; rfl
/-- What it tells of the parts. -/
def LiP (l : List Nd) (left r : Int) : Prop := r ≤ left ∧ (0 ≤ r → ∀ d, r + (flatF d l).length ≤ left ∧ (∀ p ∈ flatF d l, ((p.2.nm.length / 20 : Nat) : Int) ≤ left) ∧ (htF l : Int) ≤ left)
theorem li_facts : ∀ (h : Nat) (l : List Nd) (left : Int), htF l ≤ h → LiP l left (liF l left) := by
  intro h
  induction h using Nat.strongRecOn with
  | _ h ih =>
    intro l
    induction l with
    | nil => intro left _; rw [liF]; exact ⟨Int.le_refl _, fun h0 d => ⟨by simp [flatF], by simp [flatF], by simpa [htF] using h0⟩⟩
    | cons e l ihl =>
      intro left hh
      rw [htF] at hh
      by_cases h0 : 0 ≤ left
      · rw [liF, if_pos h0]
        have he := htN_eq e
        have h1 := ih (htF e.kids) (by omega) e.kids (left - 1 - (e.nm.length : Int).tdiv 20) (Nat.le_refl _)
        rw [← liN_eq] at h1
        have h2 := ihl (liN e left) (by omega)
        have hq := tdiv_nat e.nm.length
        refine ⟨by have := h1.1; have := h2.1; omega, fun hr d => ?_⟩
        have h2' := h2.2 hr
        have hpos : 0 ≤ liN e left := by have := h2.1; omega
        have h1' := h1.2 hpos
        refine ⟨?_, fun p hp => ?_, ?_⟩
        · rw [flatF, flatN_eq]
          have a1 := (h1' (d + 1)).1
          have a2 := (h2' d).1
          simp only [List.length_append, List.length_cons]
          push_cast
          omega
        · rw [flatF, flatN_eq] at hp
          rcases List.mem_append.1 hp with hp | hp
          · rcases List.mem_cons.1 hp with rfl | hp
            · have a1 := (h1' (d + 1)).1
              show ((e.nm.length / 20 : Nat) : Int) ≤ left
              omega
            · have a1 := (h1' (d + 1)).2.1 p hp
              omega
          · have a2 := (h2' d).2.1 p hp
            have := h1.1
            omega
        · rw [htF]
          have a1 := (h1' 0).2.2
          have a2 := (h2' 0).2.2
          have := h1.1
          omega
      · rw [liF, if_neg h0]
        exact ⟨Int.le_refl _, fun hr => absurd hr h0⟩
theorem liF_drop {l : List Nd} {j : Nat} (hj : j < l.length) {x : Int} (h0 : 0 ≤ x) : liF (l.drop j) x = liF (l.drop (j + 1)) (liN (l.getD j d0) x) := by
  rw [List.drop_eq_getElem_cons hj, liF, if_pos h0, List.getD_eq_getElem?_getD, List.getElem?_eq_getElem hj]
  rfl
theorem quietD {P : Program} {f : FuncId} {args : Array Value} {w : World} {n : Nat} {v : Value}
    (h : Calls P f args (w.drewN n) fun e w' => e = .returned v ∧ Qt (w.drewN n) w') : Calls P f args (w.drewN n) fun e w'' => e = .returned v ∧ ∃ m, w'' = w.drewN m :=
  h.mono fun _ _ ⟨he, m, hm⟩ => ⟨he, n + m, by rw [hm, World.drewN_drewN]⟩
def NmOk (l : List Nd) : Prop := ∀ d, ∀ p ∈ flatF d l, p.2.nm.length ≤ 9223372036854775807
theorem li_low : ∀ (h : Nat) (l : List Nd) (left : Int), htF l ≤ h → NmOk l → -461168601842738791 ≤ left → -461168601842738791 ≤ liF l left := by
  intro h
  induction h using Nat.strongRecOn with
  | _ h ih =>
    intro l
    induction l with
    | nil => intro left _ _ h0; rw [liF]; exact h0
    | cons e l ihl =>
      intro left hh hnm h0
      rw [htF] at hh
      by_cases hp : 0 ≤ left
      · rw [liF, if_pos hp]
        have he := htN_eq e
        have hq := tdiv_nat e.nm.length
        have hne := hnm 1 (1, e) (by rw [flatF, flatN_eq]; simp)
        refine ihl _ (by omega) (fun d p hp => hnm d p (by rw [flatF]; exact List.mem_append.2 (.inr hp))) ?_
        rw [liN_eq]
        refine ih (htF e.kids) (by omega) e.kids _ (Nat.le_refl _) (fun d p hp => hnm (d - 1) p ?_) (by dsimp only at hne; omega)
        rw [flatF, flatN_eq, show d - 1 + 1 = d by omega]
        exact List.mem_append.2 (.inl (List.mem_cons_of_mem _ hp))
      · rw [liF, if_neg hp]; exact h0
def LightC (h : Nat) : Prop := ∀ (l : List Nd) (ao : Option Addr) (cap : Nat) (left : Int) (w : World) (N : Nat), htF l ≤ h → Nds w N ao l → l.length ≤ 9223372036854775807 → -9223372036854775808 ≤ left → left ≤ 9223372036854775807 → NmOk l →
  Calls Try.prog 45 #[.slice ao l.length cap, .int .i64 left] w fun e w' => e = .returned (.int .i64 (liF l left)) ∧ Qt w w'
theorem nm_kids {l : List Nd} (h : NmOk l) {j : Nat} (hj : j < l.length) : (l.getD j d0).nm.length ≤ 9223372036854775807 ∧ NmOk (l.getD j d0).kids := by
  have hm : l.getD j d0 ∈ l := by rw [List.getD_eq_getElem?_getD, List.getElem?_eq_getElem hj]; exact List.getElem_mem hj
  have sub : ∀ d, ∀ p ∈ flatF d [l.getD j d0], p ∈ flatF d l := fun d p hp => by
    obtain ⟨a, b, hab⟩ := List.append_of_mem hm
    generalize l.getD j d0 = e at *
    rw [hab, flatF_app, show e :: b = [e] ++ b from rfl, flatF_app]
    simp [hp]
  exact ⟨h 1 (1, l.getD j d0) (sub 1 _ (by rw [flatF_one]; simp)), fun d p hp => h (d - 1) p (sub (d - 1) p (by rw [flatF_one]; rw [show d - 1 + 1 = d by omega]; exact List.mem_cons_of_mem _ hp))⟩
set_option maxHeartbeats 4000000 in
set_option maxRecDepth 100000 in
theorem light_step {h : Nat} (IH : ∀ h', h' < h → LightC h') : LightC h := by
  intro l ao cap left w N hh hk hl hx0 hx1 hnm
  have HK := Lib.hid hk
  have HI := Lib.hid IH
  have HH := Lib.hid hh
  have HNM := Lib.hid hnm
  have HX : Hid (∃ n r, l.length = n ∧ liF l left = r) := Lib.hid ⟨_, _, rfl, rfl⟩
  obtain ⟨n, r, hn, hr⟩ := HX.out
  rw [hn] at hl ⊢
  rw [hr]
  have HQ := Lib.hid hn
  have HR := Lib.hid hr
  clear hk IH hh hnm hn hr HX
  go_enter Try.func45, Try.ntmps45
  go_wp2
  go_loopw [1, 5] (fun v i wr => ∃ (j : Nat) (x : Int), j ≤ n ∧ i = .int .i64 j ∧ v = .int .i64 x ∧ Hid (liF (l.drop j) x = r) ∧ Hid (-9223372036854775808 ≤ x ∧ x ≤ 9223372036854775807) ∧ Qt w wr) (fun _ i _ => n - (intOf i).toNat)
  case atStart => exact ⟨0, left, Nat.zero_le _, rfl, rfl, Lib.hid (by simpa using HR.out), Lib.hid ⟨hx0, hx1⟩, Qt.refl _⟩
  case round =>
    obtain ⟨j, x, hj, rfl, rfl, hrr, hxb, hq⟩ := hrel
    by_cases hjm : j < n
    · by_cases hpos : 0 ≤ x
      · have hjl : j < l.length := by rw [HQ.out]; exact hjm
        obtain ⟨b1, o1, ha1, _, zb1, cc1, cap1, kid1⟩ := (HK.out.keep (V := fun _ => False) (Keep.of hq.below) (fun _ h => h.elim)).at hjl
        subst ha1
        have e4 := cc1 4 (by decide)
        have e5 := cc1 5 (by decide)
        have hnk := nm_kids HNM.out hjl
        have hne := liF_drop hjl hpos
        have hht : htF (l.getD j d0).kids < htF l := by
          have := ht_mem (e := l.getD j d0) (l := l) (by rw [List.getD_eq_getElem?_getD, List.getElem?_eq_getElem hjl]; exact List.getElem_mem hjl)
          omega
        have HNE := Lib.hid hne
        have HHT := Lib.hid hht
        have HNK := Lib.hid hnk
        have HKID := Lib.hid (And.intro kid1 cap1)
        have hk0 : (0 : Int) ≤ (j : Int) := Int.natCast_nonneg _
        have hk1 : (j : Int) < (n : Int) := by omega
        have hxle := hxb.out.2
        clear cc1 kid1 cap1 hjl hnk hne hht
        generalize l.getD j d0 = e at *
        simp only [Nd.cell] at e4 e5
        have hsz : (bytesOf e.nm).size = e.nm.length := by simp [bytesOf, ByteArray.size]
        obtain ⟨q, hq2⟩ : ∃ q, (e.nm.length : Int).tdiv 20 = q := ⟨_, rfl⟩
        have hq3 : 0 ≤ q ∧ q ≤ 461168601842738790 := by
          rw [← hq2, tdiv_nat]
          have := HNK.out.1
          omega
        have hw1 : IntKind.i64.wrap (x - 1) = x - 1 := IntWalk.i64_in _ ⟨by omega, by omega⟩
        have hw2 : IntKind.i64.wrap (x - 1 - q) = x - 1 - q := IntWalk.i64_in _ ⟨by omega, by omega⟩
        have hli : liN e x = liF e.kids (x - 1 - q) := by rw [liN_eq, hq2]
        have HLI := Lib.hid hli
        have HC := Lib.hid (fun (w' : World) (k : Below wr.heap.size wr w') => HI.out (htF e.kids) (by have := HH.out; have := HHT.out; omega) e.kids e.ao e.cap (x - 1 - q) w' N (Nat.le_refl _) (HKID.out.1.keep (V := fun _ => False) (Keep.of k) (fun _ h => h.elim)) (by have := HKID.out.2; omega) (by omega) (by omega) HNK.out.2)
        clear hli
        go_wp2
        go_quiet ((go_at_call 45; exact quietD (HC.out _ ⟨rfl, rfl, rfl, Nat.le_refl _, fun _ _ => rfl⟩)))
        go_wp2
        go_roundw
        case rel =>
          have hlo := li_low (htF e.kids) e.kids (x - 1 - q) (Nat.le_refl _) HNK.out.2 (by omega)
          have hup := (li_facts (htF e.kids) e.kids (x - 1 - q) (Nat.le_refl _)).1
          exact ⟨j + 1, liF e.kids (x - 1 - q), by omega, by go_num, rfl, Lib.hid (by rw [← HLI.out, ← HNE.out]; exact hrr.out), Lib.hid ⟨by omega, by omega⟩, hq.drew _⟩
        case measure => simp [intOf]; omega
      · have hr2 : Hid (x = r) := Lib.hid (by rw [← hrr.out, liF_neg _ (by omega)])
        have hneg : x < 0 := by omega
        have hk1 : (j : Int) < (n : Int) := by omega
        have hk0 : (0 : Int) ≤ (j : Int) := Int.natCast_nonneg _
        clear hpos
        go_wp2
        go_ret
        exact ⟨by rw [← hr2.out]; rfl, hq⟩
    · obtain rfl : j = n := by omega
      have hr2 : Hid (x = r) := Lib.hid (by rw [← hrr.out, List.drop_of_length_le (by rw [HQ.out]; exact Nat.le_refl _), liF])
      go_wp2
      go_ret
      exact ⟨by rw [← hr2.out]; rfl, hq⟩
theorem light_all (h : Nat) : LightC h := by
  induction h using Nat.strongRecOn with
  | _ h ih => exact light_step ih
/-- LightExpr, with 300. -/
theorem LightExpr_any (e : Nd) (w : World) {N : Nat} (hN : N ≤ w.heap.size) (hk : Nds w N e.ao e.kids) (hc : e.kids.length ≤ e.cap ∧ e.cap ≤ 9223372036854775807) (hnm : NmOk [e]) (x : Int) (hx : liF [e] 300 = x) :
    Calls Try.prog 20 #[e.val, .int .i64 300] w fun r w' => r = .returned (.bool (decide (0 ≤ x))) ∧ Below w.heap.size w w' := by
  have HK := Lib.hid hk
  have HC := Lib.hid hc
  have HL := Lib.hid (fun (w' : World) (R : Nat) (hr : Nds w' (R + 1) (some ⟨R, 0, none⟩) [e]) => light_all (htF [e]) [e] (some ⟨R, 0, none⟩) 1 300 w' (R + 1) (Nat.le_refl _) hr (by simp) (by decide) (by decide) hnm)
  rw [hx] at HL
  clear hk hc hnm hx
  unfold Nd.val at *
  go_enter Try.func20, Try.ntmps20
  have h1 := at2_1 w (.cells #[.int .i64 e.k, .int .i64 e.o, .int .i64 e.t, .int .u32 e.n, .string (bytesOf e.nm), .slice e.ao e.kids.length e.cap] 25) (.cells #[.int .i64 e.k, .int .i64 e.o, .int .i64 e.t, .int .u32 e.n, .string (bytesOf e.nm), .slice e.ao e.kids.length e.cap] 25)
  have bw : Below w.heap.size w ((w.alloc (.cells #[.int .i64 e.k, .int .i64 e.o, .int .i64 e.t, .int .u32 e.n, .string (bytesOf e.nm), .slice e.ao e.kids.length e.cap] 25)).alloc (.cells #[.int .i64 e.k, .int .i64 e.o, .int .i64 e.t, .int .u32 e.n, .string (bytesOf e.nm), .slice e.ao e.kids.length e.cap] 25)) := ((Below.refl _ w).alloc (Nat.le_refl _) _).alloc (by simp) _
  have hr := row_1 (N := N) (N' := w.heap.size + 1 + 1) (e := e) (HK.out.keep (V := fun _ => False) (Keep.of bw) (fun _ h => h.elim)) HC.out (by omega) (by omega) h1
  have HCL := Lib.hid (HL.out _ (w.heap.size + 1) hr)
  have HBW := Lib.hid bw
  clear h1 bw hr HL
  go_wp2_with (refine (show Calls _ _ #[.slice (some ⟨w.heap.size + 1, 0, none⟩) 1 1, .int .i64 300] _ _ from HCL.out).mono ?_)
  rintro r w2 ⟨rfl, q⟩
  have HB2 := Lib.hid (HBW.out.trans (q.below.mono HBW.out.size))
  clear q
  go_wp2
  go_ret
  exact ⟨rfl, HB2.out⟩
end As
end Go.Proofs.Ytbedcplkcaanhaa
