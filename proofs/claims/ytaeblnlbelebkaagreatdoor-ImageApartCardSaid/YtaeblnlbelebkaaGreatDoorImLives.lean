/-
  WALKS: the chapter's examples: lives. Own work.
-/
import Derived.Test.YtaeblnlbelebkaaGreatDoorImFirst
import Derived.Test.YtaeblnlbelebkaaGreatDoorImSame
import Derived.Laws.BytesArg
import Derived.Lib.SlBytesConst
import Derived.Deep.RegionWith
namespace Go.Proofs.YtaeblnlbelebkaaGreatDoor
namespace Im
open Go.RowKit Go
open Co (Kp ret_int ret_bool ret2_int In in0 IIn Ics Wf)
open Ln (VIn Vcs)
set_option linter.unusedVariables false

theorem str_nums (l : List UInt8) : strOfNums (l.map fun b => (b.toNat : Int)) = Co.bytesOf l := by
  unfold strOfNums Co.bytesOf
  congr 2
  rw [List.map_map]
  conv => rhs; rw [← List.map_id l]
  apply List.map_congr_left
  intro b _
  simp
/-- What a row of bytes is as a string. -/
theorem conv_row {w w' : World} {B : Nat} {v : Value} {l : List UInt8} (h : Ow w B v l) (k : Kp w w') : (convert 30 9 v).run Tryz.prog w' = .ok (.string (Co.bytesOf l)) w' := by
  obtain ⟨ao, cap, rfl, hn, hm, ha⟩ := own_form h
  have hf := h
  unfold Ow byc at hf
  cases ao with
  | none =>
    have h0 : l.length = 0 := by
      rcases h.2 with ⟨_, h0⟩ | ⟨g, _, _, e, _⟩
      · exact h0
      · simp at e
    have := List.eq_nil_of_length_eq_zero h0
    subst this
    exact run_convert_bytes_nil w' 30 5 Tryz.underlying30 Tryz.underlying5 _ _ _ Tryz.underlying9
  | some a =>
    obtain ⟨g, rfl, _, hg⟩ := ha a rfl
    rw [← str_nums]
    refine run_convert_bytes_arg w' 30 5 Tryz.underlying30 Tryz.underlying5 g 0 l.length cap _ (by simp) (fun i hi => ?_) _ Tryz.underlying9
    rw [k.cells _ _ hg]
    have := hf.cells (g := g) rfl i _ (by rw [List.getElem?_map, List.getElem?_eq_getElem hi]; rfl)
    rw [show (⟨g, 0, none⟩ : Addr).add i = ⟨g, 0 + i, none⟩ by simp [Addr.add]; exact fun e => e.symm] at this
    rw [this]
    congr 2
    rw [List.getD_eq_getElem?_getD, List.getElem?_map, List.getElem?_eq_getElem hi]
    rfl
theorem Kp.mark {a w : World} (h : Kp a w) (o : Obj) : Kp a (w.alloc o) := ⟨h.below.alloc h.below.size _⟩
theorem lit_in (w : World) (l : List UInt8) (T : TypeId) (fr : Nat × Nat) : BIn (w.alloc (.cells (byc l).toArray T fr)) (w.alloc (.cells (byc l).toArray T fr)).heap.size (some ⟨w.heap.size, 0, none⟩) l := by
  refine .inr ⟨w.heap.size, 0, rfl, by simp, by simp, fun i hi => ?_⟩
  rw [Nat.zero_add, World.cell?_alloc_mark]
  unfold byc
  rw [List.getElem?_toArray, List.getElem?_map, List.getElem?_eq_getElem hi, List.getD_eq_getElem?_getD, List.getElem?_eq_getElem hi]
  rfl
set_option maxHeartbeats 8000000 in
set_option maxRecDepth 100000 in
theorem lives_gen {w : World} (hE : Co.Env w) {F : Im} (hF : ∀ w, Calls Tryz.prog 31 #[] w (FstP F w)) (hok : chkI F = 0) (hb : byA F = firstB) (hW : ImWf F) (hr : rdM firstB = F ∧ rdE firstB = 0) :
    Calls Tryz.prog 5 #[] w fun e w' => e = .returned (.bool true) ∧ Kp w w' := by
  have kc := fun (w : World) (C : Array Value) (n c : Nat) => Lib.run_convert_bytes_const (P := Tryz.prog) w 30 5 C n c Tryz.underlying30 Tryz.underlying5
  have HF := Lib.hid hF
  have HOK := Lib.hid hok
  have HB := Lib.hid hb
  have HR := Lib.hid hr
  have HW := Lib.hid hW
  have HE := Lib.hid hE
  clear hF hok hb hr hW hE
  go_enter Tryz.func5, Tryz.ntmps5
  go_wp2_with fail
  refine (HF.out _).mono ?_
  rintro e w1 ⟨B1, hB1, rfl, i1, f1, k1⟩
  unfold Hd.val
  go_wp2_with fail
  refine (Bytes_any (HE.out.kept k1) i1 HW.out firstB HB.out 0 HOK.out).mono ?_
  rintro e w2 ⟨v2, rfl, ⟨B2, hB2, o2⟩, k2⟩
  have C2 : Hid (∀ W, Kp w2 W → (convert 30 9 v2).run Tryz.prog W = .ok (.string (Co.bytesOf firstB)) W) := Lib.hid (fun W k => conv_row o2 k)
  have K2 := Lib.hid (k1.trans k2)
  clear i1 f1 k1 o2 k2
  go_wp2_with fail
  have KM := Lib.hid (Kp.mark (Kp.refl w2) (.cells (byc firstB).toArray 5 (19, 20)))
  have HLI := Lib.hid (lit_in w2 firstB 5 (19, 20))
  have hcs : (byc firstB).toArray = #[.int .u8 1, .int .u8 0, .int .u8 0, .int .u8 0, .int .u8 0, .int .u8 0, .int .u8 0, .int .u8 0, .int .u8 10, .int .u8 0, .int .u8 2, .int .u8 22, .int .u8 0, .int .u8 0, .int .u8 0, .int .u8 1, .int .u8 0, .int .u8 0, .int .u8 0] := rfl
  rw [hcs] at KM HLI
  clear hcs kc
  revert KM HLI
  generalize w2.alloc _ = w3
  intro KM HLI
  refine (Read_any (HE.out.kept (K2.out.trans KM.out)) firstB HLI.out (by decide) (by decide) F HR.out.1 0 HR.out.2).mono ?_
  rintro e w4 ⟨hd, rfl, i4', k4⟩
  have i4 := i4' w4 (Up.refl _ _)
  clear i4'
  have P5 := Ptr.new i4
  have K5 := KM.out.trans (k4.alloc #[.slice hd.aC F.code.length hd.cC, .slice hd.aF F.funcs.length hd.cF, .slice hd.aV F.vecs.length hd.cV, .int .i64 F.main, .slice hd.aI F.init.length hd.cI, .slice hd.aP F.ports.length hd.cP, .int .i64 F.stack, .slice hd.aA F.atoms.length hd.cA] 29)
  clear i4 k4 KM HLI
  unfold Hd.val
  go_upto_region 3 with (fail)
  revert P5 K5
  generalize w4.alloc _ = w5
  generalize w4.heap.size = p at *
  intro P5 K5
  have bt := Co.bytesOf_toList firstB
  have c0 := P5.c0
  have c1 := P5.c1
  have c2 := P5.c2
  have c3 := P5.c3
  have c4 := P5.c4
  have c5 := P5.c5
  have c6 := P5.c6
  have c7 := P5.c7
  have zp := P5.size
  have HP5 := Lib.hid P5
  have HK5 := Lib.hid K5
  have cv : (convert 30 9 v2).run Tryz.prog w5.drew = .ok (.string (Co.bytesOf firstB)) w5.drew := C2.out _ K5.drew
  clear P5 K5
  have hq : (Co.bytesOf firstB == { data := #[1, 0, 0, 0, 0, 0, 0, 0, 10, 0, 2, 22, 0, 0, 0, 1, 0, 0, 0] }) = true := by decide +kernel
  go_wp2_with fail
  go_region_with (first
    | (go_at_call 31; refine (HF.out _).mono ?_; rintro e w6 ⟨B6, hB6, rfl, i6, f6, k6⟩; unfold Hd.val; have KD : Kp w5 w6 := ((Kp.refl w5).drew).trans k6; have P6 := HP5.out.kp KD; have d0 := P6.c0; have d1 := P6.c1; have d2 := P6.c2; have d3 := P6.c3; have d4 := P6.c4; have d5 := P6.c5; have d6 := P6.c6; have d7 := P6.c7; have z6 := P6.size; have cv6 := C2.out w6 (HK5.out.trans KD); have I6 := Lib.hid i6; have J6 := Lib.hid P6.in'; clear i6 P6 f6 k6)
    | (go_at_call 12; refine (Image_any (h := hd) (g := hdF _) (m := F) (o := F) ?_ ?_ HW.out true ?_).mono ?_; exact J6.out; exact I6.out; exact ⟨fun _ => rfl, fun _ => rfl⟩; rintro e w7 ⟨rfl, k7⟩))
  all_goals
    go_wp2
    go_ret
    exact ⟨rfl, K2.out.trans (HK5.out.trans (KD.trans k7))⟩
theorem lives_any {w : World} (hE : Co.Env w) : Calls Tryz.prog 5 #[] w fun e w' => e = .returned (.bool true) ∧ Kp w w' :=
  lives_gen hE first_any first_ok first_byA first_wf first_read
end Im
end Go.Proofs.YtaeblnlbelebkaaGreatDoor
