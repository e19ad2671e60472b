/-
  WALKS: package ast: statements that are the same. Own work.
-/
import Derived.Test.YtenlikjfpniilaaAsSame
import Derived.Test.YtenlikjfpniilaaAsTexts
import Derived.Test.YtenlikjfpniilaaAsFits
import Derived.Test.YtenlikjfpniilaaAsWalkS
namespace Go.Proofs.Ytenlikjfpniilaa
namespace As
open Go.RowKit Go Rg Go.Shelf
set_option linter.unusedVariables false

/-- What a statement is, its Line aside, wherever it lies. -/
inductive ShT where
  | mk (k t n : Int) (nm : List UInt8) (ns : List (List UInt8)) (ix ex : List Sh) (th el : List ShT)
mutual
def shT : St → ShT
  | .mk k _ t n nm ns ix ex _ _ th _ _ el => .mk k t n nm ns.l (ix.l.map shN) (ex.l.map shN) (shTF th) (shTF el)
def shTF : List St → List ShT
  | [] => []
  | e :: l => shT e :: shTF l
end
theorem shTF_map (l : List St) : shTF l = l.map shT := by
  induction l with
  | nil => rfl
  | cons x l ih => simp [shTF, ih]
theorem shT_eq (e : St) : shT e = .mk e.k e.t e.n e.nm e.ns.l (e.ix.l.map shN) (e.ex.l.map shN) (e.th.map shT) (e.el.map shT) := by cases e; rw [shT, shTF_map, shTF_map]; rfl
structure SameT (a b : St) : Prop where
  k : a.k = b.k
  t : a.t = b.t
  n : a.n = b.n
  nm : a.nm = b.nm
  ns : a.ns.l = b.ns.l
  ix : a.ix.l.map shN = b.ix.l.map shN
  ex : a.ex.l.map shN = b.ex.l.map shN
  th : a.th.map shT = b.th.map shT
  el : a.el.map shT = b.el.map shT
theorem SameT.of {a b : St} (h : shT a = shT b) : SameT a b := by
  rw [shT_eq, shT_eq] at h
  injection h with h1 h2 h3 h4 h5 h6 h7 h8 h9
  exact ⟨h1, h2, h3, h4, h5, h6, h7, h8, h9⟩
theorem same_atS {l m : List St} (h : l.map shT = m.map shT) : l.length = m.length ∧ ∀ i, i < l.length → shT (l.getD i s0) = shT (m.getD i s0) := by
  have hl : l.length = m.length := by simpa using congrArg List.length h
  refine ⟨hl, fun i hi => ?_⟩
  have := congrArg (fun x => x[i]?) h
  simp only [List.getElem?_map, List.getElem?_eq_getElem hi, List.getElem?_eq_getElem (hl ▸ hi : i < m.length), Option.map_some, Option.some.injEq] at this
  rw [List.getD_eq_getElem?_getD, List.getElem?_eq_getElem hi, List.getD_eq_getElem?_getD, List.getElem?_eq_getElem (hl ▸ hi : i < m.length)]
  exact this
/-- A statement lies there, whole. -/
def StAll (w : World) (N : Nat) (a : St) : Prop := StIn w N a ∧ Sts w N a.ta a.th ∧ Sts w N a.la a.el
theorem st_keep {w w' : World} {N : Nat} {a : St} (h : StAll w N a) (k : Below w.heap.size w w') : StAll w' N a :=
  ⟨h.1.keep (V := fun _ => False) (Keep.of k) (fun _ h => h.elim), h.2.1.keep (V := fun _ => False) (Keep.of k) (fun _ h => h.elim), h.2.2.keep (V := fun _ => False) (Keep.of k) (fun _ h => h.elim)⟩
/-- One statement is the same as another. -/
def SameCS (h : Nat) : Prop := ∀ (a b : St) (w : World) (N : Nat), htT a ≤ h → shT a = shT b → N ≤ w.heap.size → StAll w N a → StAll w N b →
  Calls Try.prog 43 #[a.val, b.val] w fun r w' => r = .returned (.bool true) ∧ Below w.heap.size w w'
theorem Txs.sin {w : World} {N : Nat} {x : Tx} (h : Txs w N x) : SIn w x.ao x.l := by
  rcases h with h | ⟨b, off, ha, _, hz, hc⟩
  · exact .inl (by rw [h]; rfl)
  · exact .inr ⟨b, off, ha, hz, hc⟩
set_option maxHeartbeats 1000000 in
set_option maxRecDepth 100000 in
theorem eqt_any (ao bo : Option Addr) (ca cb n : Nat) (xs : List (List UInt8)) (w : World) (hv : SIn w ao xs) (hv2 : SIn w bo xs) (lx : xs.length = n) (hn : n ≤ 9223372036854775807) :
    Calls Try.prog 70 #[.slice ao n ca, .slice bo n cb] w fun e w' => e = .returned (.bool true) ∧ Qt w w' := by
  have HV := Lib.hid hv
  have HV2 := Lib.hid hv2
  have LX := Lib.hid lx
  clear hv hv2 lx
  go_enter Try.func70, Try.ntmps70
  go_wp2
  go_loopw [5, 13] (fun _ i wr => ∃ (k : Nat), k ≤ n ∧ i = .int .i64 k ∧ Qt w wr) (fun _ i _ => n - (intOf i).toNat)
  case atStart => exact ⟨0, Nat.zero_le _, rfl, Qt.refl _⟩
  case round =>
    obtain ⟨k, hk, rfl, hkp⟩ := hrel
    by_cases hlt : k < n
    · obtain ⟨b, off, hao, hbs, cl⟩ := SIn.at (HV.out.kp hkp.below) (i := k) (by rw [LX.out]; exact hlt)
      subst hao
      obtain ⟨b2, off2, hbo, hbs2, cl2⟩ := SIn.at (HV2.out.kp hkp.below) (i := k) (by rw [LX.out]; exact hlt)
      subst hbo
      have hk0 : (0 : Int) ≤ (k : Int) := Int.natCast_nonneg _
      have hk1 : (k : Int) < (n : Int) := by omega
      generalize xs.getD k [] = x at *
      have hx : ((bytesOf x).toList == (bytesOf x).toList) = true := by simp
      go_wp2
      go_quiet (fail)
      go_wp2
      go_roundw
      case rel => exact ⟨k + 1, by omega, by go_num, hkp.drew _⟩
      case measure => simp [intOf]; omega
    · obtain rfl : k = n := by omega
      go_wp2
      go_ret
      exact ⟨rfl, hkp⟩
theorem ht_inS {x : St} {l : List St} (h : x ∈ l) : htT x ≤ htS l := by
  have := ht_memS h
  rw [htT_eq]
  exact this
set_option maxHeartbeats 4000000 in
set_option maxRecDepth 100000 in
theorem eqs_any {h : Nat} (IH : SameCS h) {w : World} {N : Nat} {ao bo : Option Addr} {ca cb : Nat} {l m : List St} (hs : l.map shT = m.map shT) (hh : ∀ x ∈ l, htT x ≤ h) (hN : N ≤ w.heap.size) (hl : Sts w N ao l) (hm : Sts w N bo m) (hz : l.length ≤ 9223372036854775807) :
    Calls Try.prog 66 #[.slice ao l.length ca, .slice bo m.length cb, .func (.func 43) #[] #[]] w fun r w' => r = .returned (.bool true) ∧ Below w.heap.size w w' := by
  have hsa := same_atS hs
  have HA := Lib.hid hsa.2
  have HL := Lib.hid hl
  have HM := Lib.hid hm
  have HH := Lib.hid hh
  have HI := Lib.hid IH
  rw [← hsa.1]
  have HLM := Lib.hid hsa.1
  have HX : Hid (∃ n, l.length = n) := Lib.hid ⟨_, rfl⟩
  obtain ⟨n, hn⟩ := HX.out
  rw [hn] at hz ⊢
  have HQ := Lib.hid hn
  clear hsa hl hm hh IH hs hn HX
  have hent : ∀ (args : Array Value) (W' : World), Sem.run Try.prog (callFunc 43 args) W' = .ok (.enter 43 args) W' := fun _ _ => by kernel_rfl
  go_enter Try.func66, Try.ntmps66
  go_wp2
  go_loopw [7, 8, 9, 17] (fun _ _ _ i wr => ∃ j : Nat, j ≤ n ∧ i = .int .i64 j ∧ Below w.heap.size w wr) (fun _ _ _ i _ => n - (intOf i).toNat)
  case atStart => exact ⟨0, Nat.zero_le _, rfl, Below.refl _ _⟩
  case round =>
    obtain ⟨j, hj, rfl, kr⟩ := hrel
    by_cases hjm : j < n
    · have hjl : j < l.length := by rw [HQ.out]; exact hjm
      have hjl2 : j < m.length := by rw [← HLM.out]; exact hjl
      have kk := Keep.of (V := fun _ => False) kr
      obtain ⟨b1, o1, ha1, _, zb1, cc1, in1, th1, el1⟩ := (HL.out.keep kk (fun _ h => h.elim)).at hjl
      obtain ⟨b2, o2, ha2, _, zb2, cc2, in2, th2, el2⟩ := (HM.out.keep kk (fun _ h => h.elim)).at hjl2
      subst ha1
      subst ha2
      have HSM := Lib.hid (HA.out j hjl)
      have HHJ : Hid (htT (l.getD j s0) ≤ h) := Lib.hid (HH.out _ (by rw [List.getD_eq_getElem?_getD, List.getElem?_eq_getElem hjl]; exact List.getElem_mem hjl))
      have e0 := cc1 0 (by decide)
      have e1 := cc1 1 (by decide)
      have e2 := cc1 2 (by decide)
      have e3 := cc1 3 (by decide)
      have e4 := cc1 4 (by decide)
      have e5 := cc1 5 (by decide)
      have e6 := cc1 6 (by decide)
      have e7 := cc1 7 (by decide)
      have e8 := cc1 8 (by decide)
      have e9 := cc1 9 (by decide)
      have f0 := cc2 0 (by decide)
      have f1 := cc2 1 (by decide)
      have f2 := cc2 2 (by decide)
      have f3 := cc2 3 (by decide)
      have f4 := cc2 4 (by decide)
      have f5 := cc2 5 (by decide)
      have f6 := cc2 6 (by decide)
      have f7 := cc2 7 (by decide)
      have f8 := cc2 8 (by decide)
      have f9 := cc2 9 (by decide)
      have HK1 := Lib.hid (And.intro in1 (And.intro th1 el1))
      have HK2 := Lib.hid (And.intro in2 (And.intro th2 el2))
      have HKR := Lib.hid kr
      have hk0 : (0 : Int) ≤ (j : Int) := Int.natCast_nonneg _
      have hk1 : (j : Int) < (n : Int) := by omega
      have hwr := kr.size
      clear cc1 cc2 in1 th1 el1 in2 th2 el2 kk kr hjl hjl2
      generalize l.getD j s0 = a at *
      generalize m.getD j s0 = b at *
      simp only [St.cell, Nat.add_zero] at e0 e1 e2 e3 e4 e5 e6 e7 e8 e9 f0 f1 f2 f3 f4 f5 f6 f7 f8 f9
      have hbx : ∀ (cs1 cs2 : Array Value) (t : TypeId), Below wr.heap.size wr ((wr.alloc (.cells cs1 t)).alloc (.cells cs2 t)) := fun _ _ _ => ((Below.refl _ wr).alloc (Nat.le_refl _) _).alloc (by simp) _
      have HC : ∀ w', Below wr.heap.size wr w' → Calls Try.prog 43 #[a.val, b.val] w' fun r w'' => r = .returned (.bool true) ∧ Below w'.heap.size w' w'' := fun w' k =>
        HI.out a b w' N HHJ.out HSM.out (by have := k.size; omega) (st_keep HK1.out k) (st_keep HK2.out k)
      have HCC := Lib.hid HC
      have HBX := Lib.hid hbx
      clear HC hbx
      go_wp2_with (refine (HCC.out _ (HBX.out _ _ _)).mono ?_)
      rintro r w3 ⟨rfl, b3⟩
      have HB3 := Lib.hid (HKR.out.trans (((HBX.out _ _ _).trans (b3.mono (by simp; omega))).mono hwr))
      clear b3
      go_wp2
      go_roundw
      case rel => exact ⟨j + 1, by omega, by go_num, HB3.out⟩
      case measure => simp [intOf]; omega
    · obtain rfl : j = n := by omega
      have HKR := Lib.hid kr
      clear kr
      go_wp2
      go_ret
      exact ⟨rfl, HKR.out⟩
set_option maxHeartbeats 8000000 in
set_option maxRecDepth 100000 in
theorem same_stepS {h : Nat} (IH : ∀ h', h' < h → SameCS h') : SameCS h := by
  intro a b w N hh hs hN ha hb
  obtain ⟨k1, k2, k3, k4, k5, k6, k7, k8, k9⟩ := SameT.of hs
  have e5 : a.ns.l.length = b.ns.l.length := by rw [k5]
  have e6 := (same_at k6).1
  have e7 := (same_at k7).1
  have e8 := (same_atS k8).1
  have e9 := (same_atS k9).1
  have htk := htT_eq a
  have hth : htS a.th ≤ htS a.kids ∧ htS a.el ≤ htS a.kids := by unfold St.kids; rw [htS_app]; omega
  have KA : ∀ w', Below w.heap.size w w' → StAll w' N a := fun w' k => st_keep ha k
  have KB : ∀ w', Below w.heap.size w w' → StAll w' N b := fun w' k => st_keep hb k
  have QN : Hid (∀ w', Below w.heap.size w w' → Calls Try.prog 70 #[.slice a.ns.ao a.ns.l.length a.ns.cap, .slice b.ns.ao b.ns.l.length b.ns.cap] w' fun r w'' => r = .returned (.bool true) ∧ Below w'.heap.size w' w'') := Lib.hid (fun w' k => by
    have hb' := (KB w' k).1.ns.sin
    rw [← k5] at hb'
    rw [← e5]
    exact (eqt_any _ _ _ _ _ a.ns.l w' (KA w' k).1.ns.sin hb' rfl (Nat.le_trans ha.1.cns.1 ha.1.cns.2)).mono (fun r w'' ⟨h1, h2⟩ => ⟨h1, h2.below⟩))
  have QI : Hid (∀ w', Below w.heap.size w w' → Calls Try.prog 48 #[.slice a.ix.ao a.ix.l.length a.ix.cap, .slice b.ix.ao b.ix.l.length b.ix.cap, .func (.func 22) #[] #[]] w' fun r w'' => r = .returned (.bool true) ∧ Below w'.heap.size w' w'') := Lib.hid (fun w' k => eqf_any (same_all (htF a.ix.l)) k6 (fun x hx => ht_in hx) (by have := k.size; omega) (KA w' k).1.ix (KB w' k).1.ix (Nat.le_trans ha.1.cix.1 ha.1.cix.2))
  have QE : Hid (∀ w', Below w.heap.size w w' → Calls Try.prog 48 #[.slice a.ex.ao a.ex.l.length a.ex.cap, .slice b.ex.ao b.ex.l.length b.ex.cap, .func (.func 22) #[] #[]] w' fun r w'' => r = .returned (.bool true) ∧ Below w'.heap.size w' w'') := Lib.hid (fun w' k => eqf_any (same_all (htF a.ex.l)) k7 (fun x hx => ht_in hx) (by have := k.size; omega) (KA w' k).1.ex (KB w' k).1.ex (Nat.le_trans ha.1.cex.1 ha.1.cex.2))
  have QT : Hid (∀ w', Below w.heap.size w w' → Calls Try.prog 66 #[.slice a.ta a.th.length a.tc, .slice b.ta b.th.length b.tc, .func (.func 43) #[] #[]] w' fun r w'' => r = .returned (.bool true) ∧ Below w'.heap.size w' w'') := Lib.hid (fun w' k => eqs_any (h := htS a.th) (IH _ (by omega)) k8 (fun x hx => ht_inS hx) (by have := k.size; omega) (KA w' k).2.1 (KB w' k).2.1 (Nat.le_trans ha.1.cth.1 ha.1.cth.2))
  have QL : Hid (∀ w', Below w.heap.size w w' → Calls Try.prog 66 #[.slice a.la a.el.length a.lc, .slice b.la b.el.length b.lc, .func (.func 43) #[] #[]] w' fun r w'' => r = .returned (.bool true) ∧ Below w'.heap.size w' w'') := Lib.hid (fun w' k => eqs_any (h := htS a.el) (IH _ (by omega)) k9 (fun x hx => ht_inS hx) (by have := k.size; omega) (KA w' k).2.2 (KB w' k).2.2 (Nat.le_trans ha.1.cel.1 ha.1.cel.2))
  unfold St.val
  rw [← e5] at QN ⊢
  rw [← e6] at QI ⊢
  rw [← e7] at QE ⊢
  rw [← e8] at QT ⊢
  rw [← e9] at QL ⊢
  rw [← k1, ← k2, ← k3, ← k4]
  have hq := sf_eq a.k a.t a.n (bytesOf a.nm) a.ns.l.length a.ix.l.length a.ex.l.length a.th.length a.el.length a.k a.t a.n (bytesOf a.nm) a.ns.l.length a.ix.l.length a.ex.l.length a.th.length a.el.length true (by simp)
  clear IH hh hs ha hb k1 k2 k3 k4 k5 k6 k7 k8 k9 e5 e6 e7 e8 e9 htk hth KA KB hN
  generalize a.k = ak at *
  generalize a.li = ali at *
  generalize b.li = bli at *
  generalize a.t = at' at *
  generalize a.n = an at *
  generalize a.nm = anm at *
  generalize a.ns.l.length = nn at *
  generalize a.ix.l.length = ni at *
  generalize a.ex.l.length = ne at *
  generalize a.th.length = nh at *
  generalize a.el.length = nl at *
  generalize a.ns.ao = ana at *
  generalize a.ns.cap = anc at *
  generalize a.ix.ao = aia at *
  generalize a.ix.cap = aic at *
  generalize a.ex.ao = aea at *
  generalize a.ex.cap = aec at *
  generalize a.ta = ata at *
  generalize a.tc = atc at *
  generalize a.la = ala at *
  generalize a.lc = alc at *
  generalize b.ns.ao = bna at *
  generalize b.ns.cap = bnc at *
  generalize b.ix.ao = bia at *
  generalize b.ix.cap = bic at *
  generalize b.ex.ao = bea at *
  generalize b.ex.cap = bec at *
  generalize b.ta = bta at *
  generalize b.tc = btc at *
  generalize b.la = bla at *
  generalize b.lc = blc at *
  go_enter Try.func43, Try.ntmps43
  go_wp2_with fail
  have h0 := at2_0 w (.cells #[.int .i64 ak, .int .i64 ali, .int .i64 at', .int .i64 an, .string (bytesOf anm), .slice ana nn anc, .slice aia ni aic, .slice aea ne aec, .slice ata nh atc, .slice ala nl alc] 30) (.cells #[.int .i64 ak, .int .i64 bli, .int .i64 at', .int .i64 an, .string (bytesOf anm), .slice bna nn bnc, .slice bia ni bic, .slice bea ne bec, .slice bta nh btc, .slice bla nl blc] 30)
  have h1 := at2_1 w (.cells #[.int .i64 ak, .int .i64 ali, .int .i64 at', .int .i64 an, .string (bytesOf anm), .slice ana nn anc, .slice aia ni aic, .slice aea ne aec, .slice ata nh atc, .slice ala nl alc] 30) (.cells #[.int .i64 ak, .int .i64 bli, .int .i64 at', .int .i64 an, .string (bytesOf anm), .slice bna nn bnc, .slice bia ni bic, .slice bea ne bec, .slice bta nh btc, .slice bla nl blc] 30)
  have bw : Below w.heap.size w ((w.alloc (.cells #[.int .i64 ak, .int .i64 ali, .int .i64 at', .int .i64 an, .string (bytesOf anm), .slice ana nn anc, .slice aia ni aic, .slice aea ne aec, .slice ata nh atc, .slice ala nl alc] 30)).alloc (.cells #[.int .i64 ak, .int .i64 bli, .int .i64 at', .int .i64 an, .string (bytesOf anm), .slice bna nn bnc, .slice bia ni bic, .slice bea ne bec, .slice bta nh btc, .slice bla nl blc] 30)) := ((Below.refl _ w).alloc (Nat.le_refl _) _).alloc (by simp) _
  generalize (w.alloc (.cells #[.int .i64 ak, .int .i64 ali, .int .i64 at', .int .i64 an, .string (bytesOf anm), .slice ana nn anc, .slice aia ni aic, .slice aea ne aec, .slice ata nh atc, .slice ala nl alc] 30)).alloc (.cells #[.int .i64 ak, .int .i64 bli, .int .i64 at', .int .i64 an, .string (bytesOf anm), .slice bna nn bnc, .slice bia ni bic, .slice bea ne bec, .slice bta nh btc, .slice bla nl blc] 30) = w0 at *
  have C : ∀ w' (k : Below w0.heap.size w0 w'), w'.heap[w.heap.size]? = _ := fun w' k => (k.block _ (Array.getElem?_eq_some_iff.1 h0).1).trans h0
  have D : ∀ w' (k : Below w0.heap.size w0 w'), w'.heap[w.heap.size + 1]? = _ := fun w' k => (k.block _ (Array.getElem?_eq_some_iff.1 h1).1).trans h1
  have C0 : ∀ w', Below w0.heap.size w0 w' → w'.cell? ⟨w.heap.size, 0, none⟩ = some (.int .i64 ak) := fun w' k => by simp [World.cell?, C w' k]
  have C1 : ∀ w', Below w0.heap.size w0 w' → w'.cell? ⟨w.heap.size, 1, none⟩ = some (.int .i64 ali) := fun w' k => by simp [World.cell?, C w' k]
  have C2 : ∀ w', Below w0.heap.size w0 w' → w'.cell? ⟨w.heap.size, 2, none⟩ = some (.int .i64 at') := fun w' k => by simp [World.cell?, C w' k]
  have C3 : ∀ w', Below w0.heap.size w0 w' → w'.cell? ⟨w.heap.size, 3, none⟩ = some (.int .i64 an) := fun w' k => by simp [World.cell?, C w' k]
  have C4 : ∀ w', Below w0.heap.size w0 w' → w'.cell? ⟨w.heap.size, 4, none⟩ = some (.string (bytesOf anm)) := fun w' k => by simp [World.cell?, C w' k]
  have C5 : ∀ w', Below w0.heap.size w0 w' → w'.cell? ⟨w.heap.size, 5, none⟩ = some (.slice ana nn anc) := fun w' k => by simp [World.cell?, C w' k]
  have C6 : ∀ w', Below w0.heap.size w0 w' → w'.cell? ⟨w.heap.size, 6, none⟩ = some (.slice aia ni aic) := fun w' k => by simp [World.cell?, C w' k]
  have C7 : ∀ w', Below w0.heap.size w0 w' → w'.cell? ⟨w.heap.size, 7, none⟩ = some (.slice aea ne aec) := fun w' k => by simp [World.cell?, C w' k]
  have C8 : ∀ w', Below w0.heap.size w0 w' → w'.cell? ⟨w.heap.size, 8, none⟩ = some (.slice ata nh atc) := fun w' k => by simp [World.cell?, C w' k]
  have C9 : ∀ w', Below w0.heap.size w0 w' → w'.cell? ⟨w.heap.size, 9, none⟩ = some (.slice ala nl alc) := fun w' k => by simp [World.cell?, C w' k]
  have D0 : ∀ w', Below w0.heap.size w0 w' → w'.cell? ⟨w.heap.size + 1, 0, none⟩ = some (.int .i64 ak) := fun w' k => by simp [World.cell?, D w' k]
  have D1 : ∀ w', Below w0.heap.size w0 w' → w'.cell? ⟨w.heap.size + 1, 1, none⟩ = some (.int .i64 bli) := fun w' k => by simp [World.cell?, D w' k]
  have D2 : ∀ w', Below w0.heap.size w0 w' → w'.cell? ⟨w.heap.size + 1, 2, none⟩ = some (.int .i64 at') := fun w' k => by simp [World.cell?, D w' k]
  have D3 : ∀ w', Below w0.heap.size w0 w' → w'.cell? ⟨w.heap.size + 1, 3, none⟩ = some (.int .i64 an) := fun w' k => by simp [World.cell?, D w' k]
  have D4 : ∀ w', Below w0.heap.size w0 w' → w'.cell? ⟨w.heap.size + 1, 4, none⟩ = some (.string (bytesOf anm)) := fun w' k => by simp [World.cell?, D w' k]
  have D5 : ∀ w', Below w0.heap.size w0 w' → w'.cell? ⟨w.heap.size + 1, 5, none⟩ = some (.slice bna nn bnc) := fun w' k => by simp [World.cell?, D w' k]
  have D6 : ∀ w', Below w0.heap.size w0 w' → w'.cell? ⟨w.heap.size + 1, 6, none⟩ = some (.slice bia ni bic) := fun w' k => by simp [World.cell?, D w' k]
  have D7 : ∀ w', Below w0.heap.size w0 w' → w'.cell? ⟨w.heap.size + 1, 7, none⟩ = some (.slice bea ne bec) := fun w' k => by simp [World.cell?, D w' k]
  have D8 : ∀ w', Below w0.heap.size w0 w' → w'.cell? ⟨w.heap.size + 1, 8, none⟩ = some (.slice bta nh btc) := fun w' k => by simp [World.cell?, D w' k]
  have D9 : ∀ w', Below w0.heap.size w0 w' → w'.cell? ⟨w.heap.size + 1, 9, none⟩ = some (.slice bla nl blc) := fun w' k => by simp [World.cell?, D w' k]
  have HFA : Hid (∀ w', Below w0.heap.size w0 w' → Calls Try.prog 69 #[.agg #[.int .i64 ak, .int .i64 ali, .int .i64 at', .int .i64 an, .string (bytesOf anm), .slice ana nn anc, .slice aia ni aic, .slice aea ne aec, .slice ata nh atc, .slice ala nl alc]] w' fun e w'' => e = .returned (.agg #[.int .i64 ak, .int .i64 at', .int .i64 an, .string (bytesOf anm), .int .i64 nn, .int .i64 ni, .int .i64 ne, .int .i64 nh, .int .i64 nl]) ∧ Below w0.heap.size w0 w'') :=
    Lib.hid (fun w' k => (fields_s _ _ _ _ _ _ _ _ _ _ _ _ _ _ _ _ _ _ _ _ w').mono (fun e w'' ⟨he, hb⟩ => ⟨he, k.trans (hb.mono k.size)⟩))
  have HFB : Hid (∀ w', Below w0.heap.size w0 w' → Calls Try.prog 69 #[.agg #[.int .i64 ak, .int .i64 bli, .int .i64 at', .int .i64 an, .string (bytesOf anm), .slice bna nn bnc, .slice bia ni bic, .slice bea ne bec, .slice bta nh btc, .slice bla nl blc]] w' fun e w'' => e = .returned (.agg #[.int .i64 ak, .int .i64 at', .int .i64 an, .string (bytesOf anm), .int .i64 nn, .int .i64 ni, .int .i64 ne, .int .i64 nh, .int .i64 nl]) ∧ Below w0.heap.size w0 w'') :=
    Lib.hid (fun w' k => (fields_s _ _ _ _ _ _ _ _ _ _ _ _ _ _ _ _ _ _ _ _ w').mono (fun e w'' ⟨he, hb⟩ => ⟨he, k.trans (hb.mono k.size)⟩))
  have HQN : Hid (∀ w', Below w0.heap.size w0 w' → Calls Try.prog 70 #[.slice ana nn anc, .slice bna nn bnc] w' fun e w'' => e = .returned (.bool true) ∧ Below w0.heap.size w0 w'') :=
    Lib.hid (fun w' k => (QN.out w' (bw.trans (k.mono bw.size))).mono (fun e w'' ⟨he, hb⟩ => ⟨he, k.trans (hb.mono k.size)⟩))
  have HQI : Hid (∀ w', Below w0.heap.size w0 w' → Calls Try.prog 48 #[.slice aia ni aic, .slice bia ni bic, .func (.func 22) #[] #[]] w' fun e w'' => e = .returned (.bool true) ∧ Below w0.heap.size w0 w'') :=
    Lib.hid (fun w' k => (QI.out w' (bw.trans (k.mono bw.size))).mono (fun e w'' ⟨he, hb⟩ => ⟨he, k.trans (hb.mono k.size)⟩))
  have HQE : Hid (∀ w', Below w0.heap.size w0 w' → Calls Try.prog 48 #[.slice aea ne aec, .slice bea ne bec, .func (.func 22) #[] #[]] w' fun e w'' => e = .returned (.bool true) ∧ Below w0.heap.size w0 w'') :=
    Lib.hid (fun w' k => (QE.out w' (bw.trans (k.mono bw.size))).mono (fun e w'' ⟨he, hb⟩ => ⟨he, k.trans (hb.mono k.size)⟩))
  have HQT : Hid (∀ w', Below w0.heap.size w0 w' → Calls Try.prog 66 #[.slice ata nh atc, .slice bta nh btc, .func (.func 43) #[] #[]] w' fun e w'' => e = .returned (.bool true) ∧ Below w0.heap.size w0 w'') :=
    Lib.hid (fun w' k => (QT.out w' (bw.trans (k.mono bw.size))).mono (fun e w'' ⟨he, hb⟩ => ⟨he, k.trans (hb.mono k.size)⟩))
  have HQL : Hid (∀ w', Below w0.heap.size w0 w' → Calls Try.prog 66 #[.slice ala nl alc, .slice bla nl blc, .func (.func 43) #[] #[]] w' fun e w'' => e = .returned (.bool true) ∧ Below w0.heap.size w0 w'') :=
    Lib.hid (fun w' k => (QL.out w' (bw.trans (k.mono bw.size))).mono (fun e w'' ⟨he, hb⟩ => ⟨he, k.trans (hb.mono k.size)⟩))
  have HBW := Lib.hid bw
  have hk0 : Below w0.heap.size w0 w0 := Below.refl _ _
  have hkd : Below w0.heap.size w0 w0.drew := (Below.refl _ w0).drew
  clear QN QI QE QT QL C D h0 h1 bw
  go_region_held3 (fun w' => Below w0.heap.size w0 w') (first | assumption | exact Below.drew (by assumption))
    (first
      | (go_at_call 69; (with_reducible refine (HFA.out _ (by assumption)).mono ?_); rintro r w9 ⟨rfl, hS9⟩)
      | (go_at_call 69; (with_reducible refine (HFB.out _ (by assumption)).mono ?_); rintro r w9 ⟨rfl, hS9⟩)
      | (go_at_call 70; (with_reducible refine (HQN.out _ (by assumption)).mono ?_); rintro r w9 ⟨rfl, hS9⟩)
      | (go_at_call 48; (with_reducible refine (HQI.out _ (by assumption)).mono ?_); rintro r w9 ⟨rfl, hS9⟩)
      | (go_at_call 48; (with_reducible refine (HQE.out _ (by assumption)).mono ?_); rintro r w9 ⟨rfl, hS9⟩)
      | (go_at_call 66; (with_reducible refine (HQT.out _ (by assumption)).mono ?_); rintro r w9 ⟨rfl, hS9⟩)
      | (go_at_call 66; (with_reducible refine (HQL.out _ (by assumption)).mono ?_); rintro r w9 ⟨rfl, hS9⟩))
  all_goals
    go_wp2
    go_ret
    exact ⟨rfl, HBW.out.trans (hS9.mono HBW.out.size)⟩
theorem same_allS (h : Nat) : SameCS h := by
  induction h using Nat.strongRecOn with
  | _ h ih => exact same_stepS ih
end As
end Go.Proofs.Ytenlikjfpniilaa
