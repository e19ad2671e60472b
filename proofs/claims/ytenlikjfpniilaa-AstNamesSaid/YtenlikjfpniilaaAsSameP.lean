/-
  WALKS: package ast: functions and programs that are the same (functions without parameters; no globals, no gates). Own work.
-/
import Derived.Test.YtenlikjfpniilaaAsSameS
import Derived.Test.YtenlikjfpniilaaAsProg
namespace Go.Proofs.Ytenlikjfpniilaa
namespace As
open Go.RowKit Go Rg Go.Shelf
set_option linter.unusedVariables false

/-- Two functions are the same, their Lines aside, and have no parameters. -/
structure SameD (a b : Dc) : Prop where
  k : a.k = b.k
  nm : a.nm = b.nm
  on : a.on = b.on
  pr : a.pr = b.pr
  pa : a.ps.length = 0
  pb : b.ps.length = 0
  bd : a.bd.l.map shT = b.bd.l.map shT
theorem df_st : Try.prog.underlying 116 = some (.struct (Try.prog.fieldsOf 116)) := by kernel_rfl
theorem df_hd : Try.prog.stoodInHeld 116 = false := by kernel_rfl
theorem df_eq (k o p : Int) (s : ByteArray) (m k' o' p' : Int) (s' : ByteArray) (m' : Int) (b : Bool) (hh : (k = k' ∧ o = o' ∧ p = p' ∧ s.toList = s'.toList ∧ m = m') ↔ b = true) (w : World) :
    (binOp .eql 116 (.agg #[.int .i64 k, .int .i64 o, .int .i64 p, .string s, .int .i64 m]) (.agg #[.int .i64 k', .int .i64 o', .int .i64 p', .string s', .int .i64 m'])).run Try.prog w = .ok (.bool b) w := by
  have hu := Try.underlying116
  have hint := Try.underlying3
  have hstr := Try.underlying9
  rw [run_eql_struct, run_equalIn_agg w 9999 _ _ _ df_st df_hd]
  generalize hx : s.toList = x at *
  generalize hy : s'.toList = y at *
  cases b with
  | true =>
    obtain ⟨rfl, rfl, rfl, rfl, rfl⟩ := hh.2 rfl
    simp [Op.eqFields, Program.fieldsOf, hu, hint, hstr, go_sem, hx, hy]
  | false =>
    have q := mt hh.1 (by decide)
    simp [Op.eqFields, Program.fieldsOf, hu, hint, hstr, go_sem, hx, hy]
    intro a0 a1 a2 a3 a4
    exact q ⟨a0, a1, a2, a3, a4⟩
theorem fields_d (k on pr li : Int) (s : ByteArray) (pa ba : Option Addr) (m pc l bc : Nat) (w : World) :
    Calls Try.prog 64 #[.agg #[.int .i64 k, .string s, .slice pa m pc, .int .i64 on, .int .i64 pr, .slice ba l bc, .int .i64 li]] w fun r w' => r = .returned (.agg #[.int .i64 k, .int .i64 on, .int .i64 pr, .string s, .int .i64 m]) ∧ Below w.heap.size w w' := by
  go_enter Try.func64, Try.ntmps64
  go_wp2
  refine bodyPost_ret (v := .agg #[.int .i64 k, .int .i64 on, .int .i64 pr, .string s, .int .i64 m]) (by simp [results, Try.results64, go_sem]) rfl ⟨rfl, ?_⟩
  exact ((Below.refl _ w).alloc (Nat.le_refl _) _).alloc (by simp) _
theorem eqp_nil (ao bo : Option Addr) (ca cb : Nat) (w : World) : Calls Try.prog 65 #[.slice ao 0 ca, .slice bo 0 cb] w fun e w' => e = .returned (.bool true) ∧ w' = w := by
  go_enter Try.func65, Try.ntmps65
  go_wp2
  go_loopw [5, 13] (fun _ i wr => i = .int .i64 0 ∧ wr = w) (fun _ _ _ => 0)
  case atStart => exact ⟨rfl, rfl⟩
  case round =>
    obtain ⟨rfl, rfl⟩ := hrel
    go_wp2
    go_ret
    exact ⟨rfl, rfl⟩
theorem eqg_nil (ao bo : Option Addr) (ca cb : Nat) (w : World) : Calls Try.prog 35 #[.slice ao 0 ca, .slice bo 0 cb, .func (.func 36) #[] #[]] w fun e w' => e = .returned (.bool true) ∧ w' = w := by
  go_enter Try.func35, Try.ntmps35
  go_wp2
  go_loopw [7, 8, 9, 17] (fun _ _ _ i wr => i = .int .i64 0 ∧ wr = w) (fun _ _ _ _ _ => 0)
  case atStart => exact ⟨rfl, rfl⟩
  case round =>
    obtain ⟨rfl, rfl⟩ := hrel
    go_wp2
    go_ret
    exact ⟨rfl, rfl⟩
theorem eqh_nil (ao bo : Option Addr) (ca cb : Nat) (w : World) : Calls Try.prog 37 #[.slice ao 0 ca, .slice bo 0 cb, .func (.func 38) #[] #[]] w fun e w' => e = .returned (.bool true) ∧ w' = w := by
  go_enter Try.func37, Try.ntmps37
  go_wp2
  go_loopw [7, 8, 9, 17] (fun _ _ _ i wr => i = .int .i64 0 ∧ wr = w) (fun _ _ _ _ _ => 0)
  case atStart => exact ⟨rfl, rfl⟩
  case round =>
    obtain ⟨rfl, rfl⟩ := hrel
    go_wp2
    go_ret
    exact ⟨rfl, rfl⟩
theorem dcs_at {w : World} {N : Nat} {ao : Option Addr} {l : List Dc} (h : DcsIn w N ao l) {i : Nat} (hi : i < l.length) :
    ∃ b off, ao = some ⟨b, off, none⟩ ∧ b < N ∧ b < w.heap.size ∧ (∀ j, j < 7 → w.cell? ⟨b, off + i * 7 + j, none⟩ = some ((l.getD i c0).cell j)) ∧ DcIn w N (l.getD i c0) := by
  rcases h with h | ⟨b, off, ha, hb, hz, hc, hall⟩
  · subst h; simp at hi
  · refine ⟨b, off, ha, hb, hz, fun j hj => hc i j hi hj, hall _ ?_⟩
    rw [List.getD_eq_getElem?_getD, List.getElem?_eq_getElem hi]
    exact List.getElem_mem hi
set_option maxHeartbeats 8000000 in
set_option maxRecDepth 100000 in
theorem sameD_any {a b : Dc} {w : World} {N : Nat} (hs : SameD a b) (hN : N ≤ w.heap.size) (ha : DcIn w N a) (hb : DcIn w N b) :
    Calls Try.prog 40 #[a.val, b.val] w fun r w' => r = .returned (.bool true) ∧ Below w.heap.size w w' := by
  obtain ⟨k1, k2, k3, k4, k5, k6, k7⟩ := hs
  have e7 := (same_atS k7).1
  have QT : Hid (∀ w', Below w.heap.size w w' → Calls Try.prog 66 #[.slice a.bd.ao a.bd.l.length a.bd.cap, .slice b.bd.ao b.bd.l.length b.bd.cap, .func (.func 43) #[] #[]] w' fun r w'' => r = .returned (.bool true) ∧ Below w'.heap.size w' w'') := Lib.hid (fun w' k =>
    eqs_any (same_allS (htS a.bd.l)) k7 (fun x hx => ht_inS hx) (by have := k.size; omega) (ha.bd.keep (V := fun _ => False) (Keep.of k) (fun _ h => h.elim)) (hb.bd.keep (V := fun _ => False) (Keep.of k) (fun _ h => h.elim)) (Nat.le_trans ha.cbd.1 ha.cbd.2))
  unfold Dc.val
  rw [← e7] at QT ⊢
  rw [k5, k6, ← k1, ← k2, ← k3, ← k4]
  have hq := df_eq a.k a.on a.pr (bytesOf a.nm) 0 a.k a.on a.pr (bytesOf a.nm) 0 true (by simp)
  clear ha hb k1 k2 k3 k4 k5 k6 k7 e7 hN
  generalize a.k = k at *
  generalize a.nm = nm at *
  generalize a.on = on at *
  generalize a.pr = pr at *
  generalize a.li = ali at *
  generalize b.li = bli at *
  generalize a.pa = apa at *
  generalize a.pc = apc at *
  generalize b.pa = bpa at *
  generalize b.pc = bpc at *
  generalize a.bd.l.length = nb at *
  generalize a.bd.ao = aba at *
  generalize a.bd.cap = abc at *
  generalize b.bd.ao = bba at *
  generalize b.bd.cap = bbc at *
  go_enter Try.func40, Try.ntmps40
  go_wp2_with fail
  have h0 := at2_0 w (.cells #[.int .i64 k, .string (bytesOf nm), .slice apa 0 apc, .int .i64 on, .int .i64 pr, .slice aba nb abc, .int .i64 ali] 33) (.cells #[.int .i64 k, .string (bytesOf nm), .slice bpa 0 bpc, .int .i64 on, .int .i64 pr, .slice bba nb bbc, .int .i64 bli] 33)
  have h1 := at2_1 w (.cells #[.int .i64 k, .string (bytesOf nm), .slice apa 0 apc, .int .i64 on, .int .i64 pr, .slice aba nb abc, .int .i64 ali] 33) (.cells #[.int .i64 k, .string (bytesOf nm), .slice bpa 0 bpc, .int .i64 on, .int .i64 pr, .slice bba nb bbc, .int .i64 bli] 33)
  have bw : Below w.heap.size w ((w.alloc (.cells #[.int .i64 k, .string (bytesOf nm), .slice apa 0 apc, .int .i64 on, .int .i64 pr, .slice aba nb abc, .int .i64 ali] 33)).alloc (.cells #[.int .i64 k, .string (bytesOf nm), .slice bpa 0 bpc, .int .i64 on, .int .i64 pr, .slice bba nb bbc, .int .i64 bli] 33)) := ((Below.refl _ w).alloc (Nat.le_refl _) _).alloc (by simp) _
  generalize (w.alloc (.cells #[.int .i64 k, .string (bytesOf nm), .slice apa 0 apc, .int .i64 on, .int .i64 pr, .slice aba nb abc, .int .i64 ali] 33)).alloc (.cells #[.int .i64 k, .string (bytesOf nm), .slice bpa 0 bpc, .int .i64 on, .int .i64 pr, .slice bba nb bbc, .int .i64 bli] 33) = w0 at *
  have C : ∀ w' (k : Below w0.heap.size w0 w'), w'.heap[w.heap.size]? = _ := fun w' k => (k.block _ (Array.getElem?_eq_some_iff.1 h0).1).trans h0
  have D : ∀ w' (k : Below w0.heap.size w0 w'), w'.heap[w.heap.size + 1]? = _ := fun w' k => (k.block _ (Array.getElem?_eq_some_iff.1 h1).1).trans h1
  have C0 : ∀ w', Below w0.heap.size w0 w' → w'.cell? ⟨w.heap.size, 0, none⟩ = some (.int .i64 k) := fun w' k => by simp [World.cell?, C w' k]
  have C1 : ∀ w', Below w0.heap.size w0 w' → w'.cell? ⟨w.heap.size, 1, none⟩ = some (.string (bytesOf nm)) := fun w' k => by simp [World.cell?, C w' k]
  have C2 : ∀ w', Below w0.heap.size w0 w' → w'.cell? ⟨w.heap.size, 2, none⟩ = some (.slice apa 0 apc) := fun w' k => by simp [World.cell?, C w' k]
  have C3 : ∀ w', Below w0.heap.size w0 w' → w'.cell? ⟨w.heap.size, 3, none⟩ = some (.int .i64 on) := fun w' k => by simp [World.cell?, C w' k]
  have C4 : ∀ w', Below w0.heap.size w0 w' → w'.cell? ⟨w.heap.size, 4, none⟩ = some (.int .i64 pr) := fun w' k => by simp [World.cell?, C w' k]
  have C5 : ∀ w', Below w0.heap.size w0 w' → w'.cell? ⟨w.heap.size, 5, none⟩ = some (.slice aba nb abc) := fun w' k => by simp [World.cell?, C w' k]
  have C6 : ∀ w', Below w0.heap.size w0 w' → w'.cell? ⟨w.heap.size, 6, none⟩ = some (.int .i64 ali) := fun w' k => by simp [World.cell?, C w' k]
  have D0 : ∀ w', Below w0.heap.size w0 w' → w'.cell? ⟨w.heap.size + 1, 0, none⟩ = some (.int .i64 k) := fun w' k => by simp [World.cell?, D w' k]
  have D1 : ∀ w', Below w0.heap.size w0 w' → w'.cell? ⟨w.heap.size + 1, 1, none⟩ = some (.string (bytesOf nm)) := fun w' k => by simp [World.cell?, D w' k]
  have D2 : ∀ w', Below w0.heap.size w0 w' → w'.cell? ⟨w.heap.size + 1, 2, none⟩ = some (.slice bpa 0 bpc) := fun w' k => by simp [World.cell?, D w' k]
  have D3 : ∀ w', Below w0.heap.size w0 w' → w'.cell? ⟨w.heap.size + 1, 3, none⟩ = some (.int .i64 on) := fun w' k => by simp [World.cell?, D w' k]
  have D4 : ∀ w', Below w0.heap.size w0 w' → w'.cell? ⟨w.heap.size + 1, 4, none⟩ = some (.int .i64 pr) := fun w' k => by simp [World.cell?, D w' k]
  have D5 : ∀ w', Below w0.heap.size w0 w' → w'.cell? ⟨w.heap.size + 1, 5, none⟩ = some (.slice bba nb bbc) := fun w' k => by simp [World.cell?, D w' k]
  have D6 : ∀ w', Below w0.heap.size w0 w' → w'.cell? ⟨w.heap.size + 1, 6, none⟩ = some (.int .i64 bli) := fun w' k => by simp [World.cell?, D w' k]
  have HFA : Hid (∀ w', Below w0.heap.size w0 w' → Calls Try.prog 64 #[.agg #[.int .i64 k, .string (bytesOf nm), .slice apa 0 apc, .int .i64 on, .int .i64 pr, .slice aba nb abc, .int .i64 ali]] w' fun e w'' => e = .returned (.agg #[.int .i64 k, .int .i64 on, .int .i64 pr, .string (bytesOf nm), .int .i64 0]) ∧ Below w0.heap.size w0 w'') :=
    Lib.hid (fun w' k => (fields_d _ _ _ _ _ _ _ 0 _ _ _ w').mono (fun e w'' ⟨he, hb⟩ => ⟨he, k.trans (hb.mono k.size)⟩))
  have HFB : Hid (∀ w', Below w0.heap.size w0 w' → Calls Try.prog 64 #[.agg #[.int .i64 k, .string (bytesOf nm), .slice bpa 0 bpc, .int .i64 on, .int .i64 pr, .slice bba nb bbc, .int .i64 bli]] w' fun e w'' => e = .returned (.agg #[.int .i64 k, .int .i64 on, .int .i64 pr, .string (bytesOf nm), .int .i64 0]) ∧ Below w0.heap.size w0 w'') :=
    Lib.hid (fun w' k => (fields_d _ _ _ _ _ _ _ 0 _ _ _ w').mono (fun e w'' ⟨he, hb⟩ => ⟨he, k.trans (hb.mono k.size)⟩))
  have HQT : Hid (∀ w', Below w0.heap.size w0 w' → Calls Try.prog 66 #[.slice aba nb abc, .slice bba nb bbc, .func (.func 43) #[] #[]] w' fun e w'' => e = .returned (.bool true) ∧ Below w0.heap.size w0 w'') :=
    Lib.hid (fun w' k => (QT.out w' (bw.trans (k.mono bw.size))).mono (fun e w'' ⟨he, hb⟩ => ⟨he, k.trans (hb.mono k.size)⟩))
  have HQP : Hid (∀ w', Below w0.heap.size w0 w' → Calls Try.prog 65 #[.slice apa 0 apc, .slice bpa 0 bpc] w' fun e w'' => e = .returned (.bool true) ∧ Below w0.heap.size w0 w'') :=
    Lib.hid (fun w' k => (eqp_nil _ _ _ _ w').mono (fun e w'' ⟨he, hb⟩ => ⟨he, by rw [hb]; exact k⟩))
  have HBW := Lib.hid bw
  have hk0 : Below w0.heap.size w0 w0 := Below.refl _ _
  have hkd : Below w0.heap.size w0 w0.drew := (Below.refl _ w0).drew
  clear QT C D h0 h1 bw
  go_region_held3 (fun w' => Below w0.heap.size w0 w') (first | assumption | exact Below.drew (by assumption))
    (first
      | (go_at_call 64; (with_reducible refine (HFA.out _ (by assumption)).mono ?_); rintro r w9 ⟨rfl, hS9⟩)
      | (go_at_call 64; (with_reducible refine (HFB.out _ (by assumption)).mono ?_); rintro r w9 ⟨rfl, hS9⟩)
      | (go_at_call 65; (with_reducible refine (HQP.out _ (by assumption)).mono ?_); rintro r w9 ⟨rfl, hS9⟩)
      | (go_at_call 66; (with_reducible refine (HQT.out _ (by assumption)).mono ?_); rintro r w9 ⟨rfl, hS9⟩))
  all_goals
    go_wp2
    go_ret
    exact ⟨rfl, HBW.out.trans (hS9.mono HBW.out.size)⟩
set_option maxHeartbeats 4000000 in
set_option maxRecDepth 100000 in
theorem eqd_any {w : World} {N : Nat} {ao bo : Option Addr} {ca cb : Nat} {l m : List Dc} (hsa : l.length = m.length ∧ ∀ i, i < l.length → SameD (l.getD i c0) (m.getD i c0)) (hN : N ≤ w.heap.size) (hl : DcsIn w N ao l) (hm : DcsIn w N bo m) (hz : l.length ≤ 9223372036854775807) :
    Calls Try.prog 39 #[.slice ao l.length ca, .slice bo m.length cb, .func (.func 40) #[] #[]] w fun r w' => r = .returned (.bool true) ∧ Below w.heap.size w w' := by
  have HA := Lib.hid hsa.2
  have HL := Lib.hid hl
  have HM := Lib.hid hm
  rw [← hsa.1]
  have HLM := Lib.hid hsa.1
  have HX : Hid (∃ n, l.length = n) := Lib.hid ⟨_, rfl⟩
  obtain ⟨n, hn⟩ := HX.out
  rw [hn] at hz ⊢
  have HQ := Lib.hid hn
  clear hsa hl hm hn HX
  have hent : ∀ (args : Array Value) (W' : World), Sem.run Try.prog (callFunc 40 args) W' = .ok (.enter 40 args) W' := fun _ _ => by kernel_rfl
  go_enter Try.func39, Try.ntmps39
  go_wp2
  go_loopw [7, 8, 9, 17] (fun _ _ _ i wr => ∃ j : Nat, j ≤ n ∧ i = .int .i64 j ∧ Below w.heap.size w wr) (fun _ _ _ i _ => n - (intOf i).toNat)
  case atStart => exact ⟨0, Nat.zero_le _, rfl, Below.refl _ _⟩
  case round =>
    obtain ⟨j, hj, rfl, kr⟩ := hrel
    by_cases hjm : j < n
    · have hjl : j < l.length := by rw [HQ.out]; exact hjm
      have hjl2 : j < m.length := by rw [← HLM.out]; exact hjl
      have kk := Keep.of (V := fun _ => False) kr
      obtain ⟨b1, o1, ha1, _, zb1, cc1, in1⟩ := dcs_at (HL.out.keep kk (fun _ h => h.elim)) hjl
      obtain ⟨b2, o2, ha2, _, zb2, cc2, in2⟩ := dcs_at (HM.out.keep kk (fun _ h => h.elim)) hjl2
      subst ha1
      subst ha2
      have HSM := Lib.hid (HA.out j hjl)
      have e0 := cc1 0 (by decide)
      have e1 := cc1 1 (by decide)
      have e2 := cc1 2 (by decide)
      have e3 := cc1 3 (by decide)
      have e4 := cc1 4 (by decide)
      have e5 := cc1 5 (by decide)
      have e6 := cc1 6 (by decide)
      have f0 := cc2 0 (by decide)
      have f1 := cc2 1 (by decide)
      have f2 := cc2 2 (by decide)
      have f3 := cc2 3 (by decide)
      have f4 := cc2 4 (by decide)
      have f5 := cc2 5 (by decide)
      have f6 := cc2 6 (by decide)
      have HK1 := Lib.hid in1
      have HK2 := Lib.hid in2
      have HKR := Lib.hid kr
      have hk0 : (0 : Int) ≤ (j : Int) := Int.natCast_nonneg _
      have hk1 : (j : Int) < (n : Int) := by omega
      have hwr := kr.size
      clear cc1 cc2 in1 in2 kk kr hjl hjl2
      generalize l.getD j c0 = a at *
      generalize m.getD j c0 = b at *
      simp only [Dc.cell, Nat.add_zero] at e0 e1 e2 e3 e4 e5 e6 f0 f1 f2 f3 f4 f5 f6
      have hbx : ∀ (cs1 cs2 : Array Value) (t : TypeId), Below wr.heap.size wr ((wr.alloc (.cells cs1 t)).alloc (.cells cs2 t)) := fun _ _ _ => ((Below.refl _ wr).alloc (Nat.le_refl _) _).alloc (by simp) _
      have HC : ∀ w', Below wr.heap.size wr w' → Calls Try.prog 40 #[a.val, b.val] w' fun r w'' => r = .returned (.bool true) ∧ Below w'.heap.size w' w'' := fun w' k =>
        sameD_any HSM.out (by have := k.size; omega) (HK1.out.keep (V := fun _ => False) (Keep.of k) (fun _ h => h.elim)) (HK2.out.keep (V := fun _ => False) (Keep.of k) (fun _ h => h.elim))
      have HCC := Lib.hid HC
      have HBX := Lib.hid hbx
      clear HC hbx
      go_wp2_with (refine (HCC.out _ (HBX.out _ _ _)).mono ?_)
      rintro r w3 ⟨rfl, b3⟩
      have HB3 := Lib.hid (HKR.out.trans (((HBX.out _ _ _).trans (b3.mono (by simp; omega))).mono hwr))
      clear b3
      go_wp2
      go_roundw
      case rel => exact ⟨j + 1, by omega, by go_num, HB3.out⟩
      case measure => simp [intOf]; omega
    · obtain rfl : j = n := by omega
      have HKR := Lib.hid kr
      clear kr
      go_wp2
      go_ret
      exact ⟨rfl, HKR.out⟩
set_option maxHeartbeats 4000000 in
set_option maxRecDepth 100000 in
theorem Same_bare (p q : Pg) (w : World) {N : Nat} (hN : N ≤ w.heap.size) (hst : p.st = q.st) (hg : p.gn = 0 ∧ q.gn = 0 ∧ p.tn = 0 ∧ q.tn = 0) (hp : DcsIn w N p.fa p.fs) (hq : DcsIn w N q.fa q.fs) (hl : p.fs.length ≤ 9223372036854775807)
    (hs : p.fs.length = q.fs.length ∧ ∀ i, i < p.fs.length → SameD (p.fs.getD i c0) (q.fs.getD i c0)) :
    Calls Try.prog 13 #[p.val, q.val] w fun r w' => r = .returned (.bool true) ∧ Below w.heap.size w w' := by
  have QT : Hid (∀ w', Below w.heap.size w w' → Calls Try.prog 39 #[.slice p.fa p.fs.length p.fc, .slice q.fa q.fs.length q.fc, .func (.func 40) #[] #[]] w' fun r w'' => r = .returned (.bool true) ∧ Below w'.heap.size w' w'') := Lib.hid (fun w' k =>
    eqd_any hs (by have := k.size; omega) (hp.keep (V := fun _ => False) (Keep.of k) (fun _ h => h.elim)) (hq.keep (V := fun _ => False) (Keep.of k) (fun _ h => h.elim)) hl)
  obtain ⟨g1, g2, g3, g4⟩ := hg
  obtain ⟨pst, pga, pgn, pgc, pta, ptn, ptc, pfa, pfc, pfs⟩ := p
  obtain ⟨qst, qga, qgn, qgc, qta, qtn, qtc, qfa, qfc, qfs⟩ := q
  dsimp only at hst g1 g2 g3 g4 QT hs
  unfold Pg.val
  dsimp only
  subst hst g1 g2 g3 g4
  rw [← hs.1] at QT ⊢
  clear hp hq hl hs hN
  generalize pfs.length = n at *
  go_enter Try.func13, Try.ntmps13
  go_wp2_with (refine (eqg_nil _ _ _ _ _).mono ?_)
  rintro r w1 ⟨rfl, rfl⟩
  go_wp2_with (refine (eqh_nil _ _ _ _ _).mono ?_)
  rintro r w1 ⟨rfl, rfl⟩
  go_wp2_with (refine (QT.out _ (((Below.refl _ w).alloc (Nat.le_refl _) _).alloc (by simp) _)).mono ?_)
  rintro r w2 ⟨rfl, b2⟩
  have B2 := Lib.hid ((((Below.refl w.heap.size w).alloc (Nat.le_refl _) _).alloc (by simp) _).trans (b2.mono (by simp; omega)))
  clear b2
  go_wp2
  go_ret
  exact ⟨rfl, B2.out⟩
end As
end Go.Proofs.Ytenlikjfpniilaa
