/-
  WALKS: package ast: expressions that are the same. Own work.
-/
import Derived.Test.YtenlikjfpniilaaAsExpr
import Derived.Test.YtenlikjfpniilaaAsKidsZ
import Derived.BigQuiet
import Derived.Deep.RegionHeld3
namespace Go.Proofs.Ytenlikjfpniilaa
namespace As
open Go.RowKit Go Rg Go.Shelf
set_option linter.unusedVariables false

/-- What an expression is, wherever it lies. -/
inductive Sh where
  | mk (k o t n : Int) (nm : List UInt8) (kids : List Sh)
mutual
def shN : Nd → Sh
  | .mk k o t n nm _ _ kids => .mk k o t n nm (shF kids)
def shF : List Nd → List Sh
  | [] => []
  | e :: l => shN e :: shF l
end
theorem shF_map (l : List Nd) : shF l = l.map shN := by
  induction l with
  | nil => rfl
  | cons x l ih => simp [shF, ih]
theorem shN_eq (e : Nd) : shN e = .mk e.k e.o e.t e.n e.nm (e.kids.map shN) := by cases e; rw [shN, shF_map]; rfl
structure SameN (a b : Nd) : Prop where
  k : a.k = b.k
  o : a.o = b.o
  t : a.t = b.t
  n : a.n = b.n
  nm : a.nm = b.nm
  kids : a.kids.map shN = b.kids.map shN
theorem SameN.of {a b : Nd} (h : shN a = shN b) : SameN a b := by
  rw [shN_eq, shN_eq] at h
  injection h with h1 h2 h3 h4 h5 h6
  exact ⟨h1, h2, h3, h4, h5, h6⟩
theorem same_at {l m : List Nd} (h : l.map shN = m.map shN) : l.length = m.length ∧ ∀ i, i < l.length → shN (l.getD i d0) = shN (m.getD i d0) := by
  have hl : l.length = m.length := by simpa using congrArg List.length h
  refine ⟨hl, fun i hi => ?_⟩
  have := congrArg (fun x => x[i]?) h
  simp only [List.getElem?_map, List.getElem?_eq_getElem hi, List.getElem?_eq_getElem (hl ▸ hi : i < m.length), Option.map_some, Option.some.injEq] at this
  rw [List.getD_eq_getElem?_getD, List.getElem?_eq_getElem hi, List.getD_eq_getElem?_getD, List.getElem?_eq_getElem (hl ▸ hi : i < m.length)]
  exact this
/-- One expression is the same as another, with the calls for its parts given. -/
def SameC (h : Nat) : Prop := ∀ (a b : Nd) (w : World) (N : Nat), htN a ≤ h → shN a = shN b → N ≤ w.heap.size → Nds w N a.ao a.kids → Nds w N b.ao b.kids → (a.kids.length ≤ a.cap ∧ a.cap ≤ 9223372036854775807) → (b.kids.length ≤ b.cap ∧ b.cap ≤ 9223372036854775807) →
  Calls Try.prog 22 #[a.val, b.val] w fun r w' => r = .returned (.bool true) ∧ Below w.heap.size w w'
set_option maxHeartbeats 4000000 in
set_option maxRecDepth 100000 in
theorem eqf_any {h : Nat} (IH : SameC h) {w : World} {N : Nat} {ao bo : Option Addr} {ca cb : Nat} {l m : List Nd} (hs : l.map shN = m.map shN) (hh : ∀ x ∈ l, htN x ≤ h) (hN : N ≤ w.heap.size) (hl : Nds w N ao l) (hm : Nds w N bo m) (hz : l.length ≤ 9223372036854775807) :
    Calls Try.prog 48 #[.slice ao l.length ca, .slice bo m.length cb, .func (.func 22) #[] #[]] w fun r w' => r = .returned (.bool true) ∧ Below w.heap.size w w' := by
  have hsa := same_at hs
  have HA := Lib.hid hsa.2
  have HL := Lib.hid hl
  have HM := Lib.hid hm
  have HH := Lib.hid hh
  have HI := Lib.hid IH
  rw [← hsa.1]
  have HLM := Lib.hid hsa.1
  have HX : Hid (∃ n, l.length = n) := Lib.hid ⟨_, rfl⟩
  obtain ⟨n, hn⟩ := HX.out
  rw [hn] at hz ⊢
  have HQ := Lib.hid hn
  clear hsa hl hm hh IH hs hn HX
  have hent : ∀ (args : Array Value) (W' : World), Sem.run Try.prog (callFunc 22 args) W' = .ok (.enter 22 args) W' := fun _ _ => by kernel_rfl
  go_enter Try.func48, Try.ntmps48
  go_wp2
  go_loopw [7, 8, 9, 17] (fun _ _ _ i wr => ∃ j : Nat, j ≤ n ∧ i = .int .i64 j ∧ Below w.heap.size w wr) (fun _ _ _ i _ => n - (intOf i).toNat)
  case atStart => exact ⟨0, Nat.zero_le _, rfl, Below.refl _ _⟩
  case round =>
    obtain ⟨j, hj, rfl, kr⟩ := hrel
    by_cases hjm : j < n
    · have hjl : j < l.length := by rw [HQ.out]; exact hjm
      have hjl2 : j < m.length := by rw [← HLM.out]; exact hjl
      have kk := Keep.of (V := fun _ => False) kr
      obtain ⟨b1, o1, ha1, _, zb1, cc1, cap1, kid1⟩ := (HL.out.keep kk (fun _ h => h.elim)).at hjl
      obtain ⟨b2, o2, ha2, _, zb2, cc2, cap2, kid2⟩ := (HM.out.keep kk (fun _ h => h.elim)).at hjl2
      subst ha1
      subst ha2
      have HSM := Lib.hid (HA.out j hjl)
      have HHJ : Hid (htN (l.getD j d0) ≤ h) := Lib.hid (HH.out _ (by rw [List.getD_eq_getElem?_getD, List.getElem?_eq_getElem hjl]; exact List.getElem_mem hjl))
      have e0 := cc1 0 (by decide)
      have e1 := cc1 1 (by decide)
      have e2 := cc1 2 (by decide)
      have e3 := cc1 3 (by decide)
      have e4 := cc1 4 (by decide)
      have e5 := cc1 5 (by decide)
      have f0 := cc2 0 (by decide)
      have f1 := cc2 1 (by decide)
      have f2 := cc2 2 (by decide)
      have f3 := cc2 3 (by decide)
      have f4 := cc2 4 (by decide)
      have f5 := cc2 5 (by decide)
      have HK1 := Lib.hid kid1
      have HK2 := Lib.hid kid2
      have HP1 := Lib.hid cap1
      have HP2 := Lib.hid cap2
      have HKR := Lib.hid kr
      have hk0 : (0 : Int) ≤ (j : Int) := Int.natCast_nonneg _
      have hk1 : (j : Int) < (n : Int) := by omega
      have hwr := kr.size
      clear cc1 cc2 kid1 kid2 cap1 cap2 kk kr hjl hjl2
      generalize l.getD j d0 = a at *
      generalize m.getD j d0 = b at *
      simp only [Nd.cell, Nat.add_zero] at e0 e1 e2 e3 e4 e5 f0 f1 f2 f3 f4 f5
      have hbx : ∀ (cs1 cs2 : Array Value) (t : TypeId), Below wr.heap.size wr ((wr.alloc (.cells cs1 t)).alloc (.cells cs2 t)) := fun _ _ _ => ((Below.refl _ wr).alloc (Nat.le_refl _) _).alloc (by simp) _
      have HC : ∀ w', Below wr.heap.size wr w' → Calls Try.prog 22 #[a.val, b.val] w' fun r w'' => r = .returned (.bool true) ∧ Below w'.heap.size w' w'' := fun w' k =>
        HI.out a b w' N HHJ.out HSM.out (by have := k.size; omega) (HK1.out.keep (V := fun _ => False) (Keep.of k) (fun _ h => h.elim)) (HK2.out.keep (V := fun _ => False) (Keep.of k) (fun _ h => h.elim)) HP1.out HP2.out
      have HCC := Lib.hid HC
      have HBX := Lib.hid hbx
      clear HC hbx
      go_wp2_with (refine (HCC.out _ (HBX.out _ _ _)).mono ?_)
      rintro r w3 ⟨rfl, b3⟩
      have HB3 := Lib.hid (HKR.out.trans (((HBX.out _ _ _).trans (b3.mono (by simp; omega))).mono hwr))
      clear b3
      go_wp2
      go_roundw
      case rel => exact ⟨j + 1, by omega, by go_num, HB3.out⟩
      case measure => simp [intOf]; omega
    · obtain rfl : j = n := by omega
      have HKR := Lib.hid kr
      clear kr
      go_wp2
      go_ret
      exact ⟨rfl, HKR.out⟩
theorem ht_in {x : Nd} {l : List Nd} (h : x ∈ l) : htN x ≤ htF l := by
  have := ht_mem h
  rw [htN_eq]
  exact this
set_option maxHeartbeats 4000000 in
set_option maxRecDepth 100000 in
theorem same_step {h : Nat} (IH : ∀ h', h' < h → SameC h') : SameC h := by
  intro a b w N hh hs hN ha hb hca hcb
  have hsn := SameN.of hs
  obtain ⟨k1, k2, k3, k4, k5, k6⟩ := hsn
  have HK := Lib.hid k6
  have hlen := (same_at k6).1
  have HQ : Hid (∀ w', Below w.heap.size w w' → Calls Try.prog 48 #[.slice a.ao a.kids.length a.cap, .slice b.ao b.kids.length b.cap, .func (.func 22) #[] #[]] w' fun r w'' => r = .returned (.bool true) ∧ Below w'.heap.size w' w'') := Lib.hid (fun w' k => by
    have hk := htN_eq a
    exact eqf_any (h := htF a.kids) (IH _ (by omega)) k6 (fun x hx => ht_in hx) (by have := k.size; omega) (ha.keep (V := fun _ => False) (Keep.of k) (fun _ h => h.elim)) (hb.keep (V := fun _ => False) (Keep.of k) (fun _ h => h.elim)) (Nat.le_trans hca.1 hca.2))
  unfold Nd.val
  rw [← hlen] at HQ ⊢
  rw [← k1, ← k2, ← k3, ← k4, ← k5]
  have hq := ef_eq a.k a.o a.t a.n a.kids.length a.k a.o a.t a.n a.kids.length (bytesOf a.nm) (bytesOf a.nm) true (by simp)
  clear IH hh hs ha hb hca hcb k1 k2 k3 k4 k5 k6 hlen HK hN
  generalize a.k = ak at *
  generalize a.o = ao at *
  generalize a.t = at' at *
  generalize a.n = an at *
  generalize a.nm = anm at *
  generalize a.kids.length = m at *
  generalize a.ao = aad at *
  generalize a.cap = acap at *
  generalize b.ao = bad at *
  generalize b.cap = bcap at *
  go_enter Try.func22, Try.ntmps22
  go_wp2_with fail
  have h0 := at2_0 w (.cells #[.int .i64 ak, .int .i64 ao, .int .i64 at', .int .u32 an, .string (bytesOf anm), .slice aad m acap] 25) (.cells #[.int .i64 ak, .int .i64 ao, .int .i64 at', .int .u32 an, .string (bytesOf anm), .slice bad m bcap] 25)
  have h1 := at2_1 w (.cells #[.int .i64 ak, .int .i64 ao, .int .i64 at', .int .u32 an, .string (bytesOf anm), .slice aad m acap] 25) (.cells #[.int .i64 ak, .int .i64 ao, .int .i64 at', .int .u32 an, .string (bytesOf anm), .slice bad m bcap] 25)
  have bw : Below w.heap.size w ((w.alloc (.cells #[.int .i64 ak, .int .i64 ao, .int .i64 at', .int .u32 an, .string (bytesOf anm), .slice aad m acap] 25)).alloc (.cells #[.int .i64 ak, .int .i64 ao, .int .i64 at', .int .u32 an, .string (bytesOf anm), .slice bad m bcap] 25)) := ((Below.refl _ w).alloc (Nat.le_refl _) _).alloc (by simp) _
  generalize (w.alloc (.cells #[.int .i64 ak, .int .i64 ao, .int .i64 at', .int .u32 an, .string (bytesOf anm), .slice aad m acap] 25)).alloc (.cells #[.int .i64 ak, .int .i64 ao, .int .i64 at', .int .u32 an, .string (bytesOf anm), .slice bad m bcap] 25) = w0 at *
  have C : ∀ w' (k : Below w0.heap.size w0 w'), w'.heap[w.heap.size]? = _ := fun w' k => (k.block _ (Array.getElem?_eq_some_iff.1 h0).1).trans h0
  have D : ∀ w' (k : Below w0.heap.size w0 w'), w'.heap[w.heap.size + 1]? = _ := fun w' k => (k.block _ (Array.getElem?_eq_some_iff.1 h1).1).trans h1
  have C0 : ∀ w', Below w0.heap.size w0 w' → w'.cell? ⟨w.heap.size, 0, none⟩ = some (.int .i64 ak) := fun w' k => by simp [World.cell?, C w' k]
  have C1 : ∀ w', Below w0.heap.size w0 w' → w'.cell? ⟨w.heap.size, 1, none⟩ = some (.int .i64 ao) := fun w' k => by simp [World.cell?, C w' k]
  have C2 : ∀ w', Below w0.heap.size w0 w' → w'.cell? ⟨w.heap.size, 2, none⟩ = some (.int .i64 at') := fun w' k => by simp [World.cell?, C w' k]
  have C3 : ∀ w', Below w0.heap.size w0 w' → w'.cell? ⟨w.heap.size, 3, none⟩ = some (.int .u32 an) := fun w' k => by simp [World.cell?, C w' k]
  have C4 : ∀ w', Below w0.heap.size w0 w' → w'.cell? ⟨w.heap.size, 4, none⟩ = some (.string (bytesOf anm)) := fun w' k => by simp [World.cell?, C w' k]
  have C5 : ∀ w', Below w0.heap.size w0 w' → w'.cell? ⟨w.heap.size, 5, none⟩ = some (.slice aad m acap) := fun w' k => by simp [World.cell?, C w' k]
  have D0 : ∀ w', Below w0.heap.size w0 w' → w'.cell? ⟨w.heap.size + 1, 0, none⟩ = some (.int .i64 ak) := fun w' k => by simp [World.cell?, D w' k]
  have D1 : ∀ w', Below w0.heap.size w0 w' → w'.cell? ⟨w.heap.size + 1, 1, none⟩ = some (.int .i64 ao) := fun w' k => by simp [World.cell?, D w' k]
  have D2 : ∀ w', Below w0.heap.size w0 w' → w'.cell? ⟨w.heap.size + 1, 2, none⟩ = some (.int .i64 at') := fun w' k => by simp [World.cell?, D w' k]
  have D3 : ∀ w', Below w0.heap.size w0 w' → w'.cell? ⟨w.heap.size + 1, 3, none⟩ = some (.int .u32 an) := fun w' k => by simp [World.cell?, D w' k]
  have D4 : ∀ w', Below w0.heap.size w0 w' → w'.cell? ⟨w.heap.size + 1, 4, none⟩ = some (.string (bytesOf anm)) := fun w' k => by simp [World.cell?, D w' k]
  have D5 : ∀ w', Below w0.heap.size w0 w' → w'.cell? ⟨w.heap.size + 1, 5, none⟩ = some (.slice bad m bcap) := fun w' k => by simp [World.cell?, D w' k]
  have HFA : Hid (∀ w', Below w0.heap.size w0 w' → Calls Try.prog 47 #[.agg #[.int .i64 ak, .int .i64 ao, .int .i64 at', .int .u32 an, .string (bytesOf anm), .slice aad m acap]] w' fun e w'' => e = .returned (.agg #[.int .i64 ak, .int .i64 ao, .int .i64 at', .int .u32 an, .string (bytesOf anm), .int .i64 m]) ∧ Below w0.heap.size w0 w'') :=
    Lib.hid (fun w' k => (fields_v _ _ _ _ _ _ _ _ w').mono (fun e w'' ⟨he, hb⟩ => ⟨he, k.trans (hb.mono k.size)⟩))
  have HFB : Hid (∀ w', Below w0.heap.size w0 w' → Calls Try.prog 47 #[.agg #[.int .i64 ak, .int .i64 ao, .int .i64 at', .int .u32 an, .string (bytesOf anm), .slice bad m bcap]] w' fun e w'' => e = .returned (.agg #[.int .i64 ak, .int .i64 ao, .int .i64 at', .int .u32 an, .string (bytesOf anm), .int .i64 m]) ∧ Below w0.heap.size w0 w'') :=
    Lib.hid (fun w' k => (fields_v _ _ _ _ _ _ _ _ w').mono (fun e w'' ⟨he, hb⟩ => ⟨he, k.trans (hb.mono k.size)⟩))
  have HFE : Hid (∀ w', Below w0.heap.size w0 w' → Calls Try.prog 48 #[.slice aad m acap, .slice bad m bcap, .func (.func 22) #[] #[]] w' fun e w'' => e = .returned (.bool true) ∧ Below w0.heap.size w0 w'') :=
    Lib.hid (fun w' k => (HQ.out w' (bw.trans (k.mono bw.size))).mono (fun e w'' ⟨he, hb⟩ => ⟨he, k.trans (hb.mono k.size)⟩))
  have HBW := Lib.hid bw
  have hk0 : Below w0.heap.size w0 w0 := Below.refl _ _
  have hkd : Below w0.heap.size w0 w0.drew := (Below.refl _ w0).drew
  clear HQ C D h0 h1 bw
  go_region_held3 (fun w' => Below w0.heap.size w0 w') (first | assumption | exact Below.drew (by assumption))
    (first
      | (go_at_call 47; (with_reducible refine (HFA.out _ (by assumption)).mono ?_); rintro r w9 ⟨rfl, hS9⟩)
      | (go_at_call 47; (with_reducible refine (HFB.out _ (by assumption)).mono ?_); rintro r w9 ⟨rfl, hS9⟩)
      | (go_at_call 48; (with_reducible refine (HFE.out _ (by assumption)).mono ?_); rintro r w9 ⟨rfl, hS9⟩))
  all_goals
    go_wp2
    go_ret
    exact ⟨rfl, HBW.out.trans (hS9.mono HBW.out.size)⟩
theorem same_all (h : Nat) : SameC h := by
  induction h using Nat.strongRecOn with
  | _ h ih => exact same_step ih
end As
end Go.Proofs.Ytenlikjfpniilaa
