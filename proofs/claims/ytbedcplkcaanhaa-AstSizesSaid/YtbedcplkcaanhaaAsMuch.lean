/-
  WALKS: package ast: are there too many parts, or do they nest too deep. Own work.
-/
import Derived.Test.YtbedcplkcaanhaaAsSeq
namespace Go.Proofs.Ytbedcplkcaanhaa
namespace As
open Go.RowKit Go Rg Go.Shelf
set_option linter.unusedVariables false
attribute [local go_sem] Oper.semAt_some

/-- Too many, or too deep. -/
def tooM {α : Type} (xs : List (Int × α)) : Bool := decide (4000 < xs.length) || xs.any (fun p => decide (60 < p.1))
def Shal {α : Type} (ys : List (Int × α)) : Prop := ys.length ≤ 4000 ∧ ∀ p ∈ ys, p.1 ≤ 60
def Much {α : Type} (ys : List (Int × α)) : Prop := 4000 < ys.length ∨ ∃ p ∈ ys, 60 < p.1
theorem tooM_false {α : Type} {xs : List (Int × α)} (h1 : xs.length ≤ 4000) (h2 : ∀ p ∈ xs, p.1 ≤ 60) : tooM xs = false := by
  unfold tooM
  rw [Bool.or_eq_false_iff]
  refine ⟨by simp; omega, ?_⟩
  rw [List.any_eq_false]
  intro p hp
  have := h2 p hp
  simp; omega
theorem tooM_true {α : Type} {xs ys : List (Int × α)} (h : ys <+: xs) (h1 : 4000 < ys.length ∨ ∃ p ∈ ys, 60 < p.1) : tooM xs = true := by
  unfold tooM
  rw [Bool.or_eq_true]
  rcases h1 with h1 | ⟨p, hp, hd⟩
  · have := h.length_le
    exact .inl (by simp; omega)
  · exact .inr (List.any_eq_true.2 ⟨p, h.subset hp, by simpa using hd⟩)
theorem much_below {w w1 W : World} (b1 : Below w.heap.size w w1) (z1 : w1.heap.size = w.heap.size + 2) (k : Keep (fun b => b = w.heap.size ∨ b = w.heap.size + 1) w1 W) : Below w.heap.size w W :=
  b1.trans (k.below (by omega) (fun i h => by omega))
set_option maxHeartbeats 4000000 in
set_option maxRecDepth 100000 in
theorem much_any {w : World} {bs : List Nat} {r : Value} {N : Nat} {xs : List (Int × Nd)} (hs : SeqB encD w bs r N xs) (hN : N ≤ w.heap.size) (hdep : ∀ p ∈ xs, 0 ≤ p.1 ∧ p.1 ≤ 9223372036854775807) :
    Calls Try.prog 76 #[r] w fun e w' => e = .returned (.bool (tooM xs)) ∧ Below w.heap.size w w' := by
  have HS := Lib.hid hs
  have HD := Lib.hid hdep
  obtain ⟨gf, lb, rfl, eg, hbs, hsq⟩ := hs
  have EG := Lib.hid eg
  have HBS := Lib.hid hbs
  have HSQ := Lib.hid hsq
  clear eg hbs hsq hdep
  refine (callsIn_wide (n := 0)).1 ?_
  refine callsIn_of_wp_marks Try.func76 rfl trivial ?_ rfl
  simp only [Try.ntmps76, List.size_toArray, List.length_cons, List.length_nil, Nat.reduceAdd, Nat.reduceSub, Array.replicate_succ, Array.replicate_zero, List.push_toArray, List.append_toArray, List.nil_append, List.cons_append]
  gi_wp2
  have q2 : ((w.alloc (.cells #[.bool false] 4)).alloc (.cells #[.int .i64 0] 3)).cell? ⟨w.heap.size, 0, none⟩ = some (.bool false) := by go_simp
  have f2 : ((w.alloc (.cells #[.bool false] 4)).alloc (.cells #[.int .i64 0] 3)).frozen? ⟨w.heap.size, 0, none⟩ = false := by go_simp
  have q3 : ((w.alloc (.cells #[.bool false] 4)).alloc (.cells #[.int .i64 0] 3)).cell? ⟨w.heap.size + 1, 0, none⟩ = some (.int .i64 0) := by go_simp
  have f3 : ((w.alloc (.cells #[.bool false] 4)).alloc (.cells #[.int .i64 0] 3)).frozen? ⟨w.heap.size + 1, 0, none⟩ = false := by go_simp
  have z1 : ((w.alloc (.cells #[.bool false] 4)).alloc (.cells #[.int .i64 0] 3)).heap.size = w.heap.size + 2 := by simp
  have b1 : Below w.heap.size w ((w.alloc (.cells #[.bool false] 4)).alloc (.cells #[.int .i64 0] 3)) := ((Below.refl _ w).alloc (Nat.le_refl _) _).alloc (by simp) _
  generalize (w.alloc (.cells #[.bool false] 4)).alloc (.cells #[.int .i64 0] 3) = w1 at *
  refine range_out (fun _ => trivial) rfl rfl (gf := gf) (lb := lb) rfl (fun args W => EG.out args W) (encs := encD) (N := N) (bs := bs) (xs := xs) (fun W bW => HSQ.out W (b1.trans (bW.mono (by omega)))) (fun _ => rfl)
    (fun b => b = w.heap.size ∨ b = w.heap.size + 1) ?_ ?_
    (fun ys W => Keep (fun b => b = w.heap.size ∨ b = w.heap.size + 1) w1 W ∧ (W.cell? ⟨w.heap.size + 1, 0, none⟩ = some (.int .i64 ys.length) ∧ W.frozen? ⟨w.heap.size + 1, 0, none⟩ = false) ∧ (W.cell? ⟨w.heap.size, 0, none⟩ = some (.bool false) ∧ W.frozen? ⟨w.heap.size, 0, none⟩ = false) ∧ Shal ys)
    (fun c ys W => c = .ret ∧ Keep (fun b => b = w.heap.size ∨ b = w.heap.size + 1) w1 W ∧ W.cell? ⟨w.heap.size, 0, none⟩ = some (.bool true) ∧ Much ys) ?_ ?_ ?_
    (fun x a' W => a' = { tmps := #[.func (.func gf) #[] lb, undef, .pointer (some ⟨w.heap.size, 0, none⟩), .pointer (some ⟨w.heap.size + 1, 0, none⟩), .int .i64 x.1, .func (.func gf) #[] lb, .int .i64 x.1, x.2.val, undef, undef, undef, undef, undef, undef, undef, undef], defers := [] }) ?_ ?assign ?body ?done ?stop
  · rintro b (rfl | rfl)
    · exact ⟨fun e => by rcases e with e | e; omega; have := HBS.out _ e; omega, by omega⟩
    · exact ⟨fun e => by rcases e with e | e; omega; have := HBS.out _ e; omega, by omega⟩
  · rintro b (e | e)
    · omega
    · have := HBS.out b e; omega
  · rintro ys A B k ⟨kk, ⟨c1, f1⟩, ⟨c2, f2⟩, h⟩
    have o1 := k.block (w.heap.size + 1) (by omega)
    have o2 := k.block w.heap.size (by omega)
    exact ⟨keep_more kk k, ⟨(World.cell?_of_block (w := A) o1).trans c1, (World.frozen?_of_block (w := A) o1).trans f1⟩, ⟨(World.cell?_of_block (w := A) o2).trans c2, (World.frozen?_of_block (w := A) o2).trans f2⟩, h⟩
  · rintro c ys A B k ⟨rfl, kk, c2, h⟩
    exact ⟨rfl, keep_more kk k, (World.cell?_of_block (w := A) (k.block w.heap.size (by omega))).trans c2, h⟩
  · exact ⟨Keep.refl _ _, ⟨q3, f3⟩, ⟨q2, f2⟩, by simp, by simp⟩
  · rintro L x a' W r o hL rfl
    rfl
  case assign =>
    intro L m pre x W K hL hi hr hK
    unfold encD
    gi_wp2
    exact hK _ _ (Keep.refl _ W) hi rfl
  case body =>
    rintro L m pre x a' W hL hpx ⟨kk, ⟨c1, f1⟩, ⟨c2, f2⟩, hsh⟩ rfl ⟨rr, hrr⟩
    have hd := HD.out x (hpx.subset (by simp))
    have hlen := hsh.1
    have hn0 : (0 : Int) ≤ (pre.length : Int) := Int.natCast_nonneg _
    have hn1 : (pre.length : Int) ≤ 4000 := by omega
    have hw : IntKind.i64.wrap ((pre.length : Int) + 1) = (pre.length : Int) + 1 := IntWalk.i64_in _ ⟨by omega, by omega⟩
    have HPX := Lib.hid hpx
    have HSH := Lib.hid hsh
    have HKK := Lib.hid kk
    clear hpx hsh kk
    obtain ⟨dx, ex⟩ := x
    dsimp only at hd
    have HEN : Hid (((pre ++ [(dx, ex)]).length : Int) = (pre.length : Int) + 1) := Lib.hid (by simp)
    obtain ⟨n, hn⟩ : ∃ n, pre.length = n := ⟨_, rfl⟩
    have HN := Lib.hid hn
    rw [hn] at hlen hn0 hn1 hw c1 HEN
    clear hn
    obtain ⟨hda, hdb⟩ := hd
    by_cases h1 : (4000 : Int) < (n : Int) + 1
    · gi_wp2
      exact ⟨((Keep.refl _ W).setCell (.inl (.inr rfl)) _).setCell (.inl (.inl rfl)) _, rfl, (HKK.out.setCell (.inl (.inr rfl)) _).setCell (.inl (.inl rfl)) _, by go_simp, .inl (by have := HEN.out; omega)⟩
    · by_cases h2 : (60 : Int) < dx
      · gi_wp2
        exact ⟨((Keep.refl _ W).setCell (.inl (.inr rfl)) _).setCell (.inl (.inl rfl)) _, rfl, (HKK.out.setCell (.inl (.inr rfl)) _).setCell (.inl (.inl rfl)) _, by go_simp, .inr ⟨(dx, ex), by simp, h2⟩⟩
      · gi_wp2
        refine ⟨(Keep.refl _ W).setCell (.inl (.inr rfl)) _, HKK.out.setCell (.inl (.inr rfl)) _, ⟨by rw [HEN.out]; go_simp, by go_simp⟩, ⟨by go_simp, by go_simp⟩, by have := HEN.out; omega, ?_⟩
        intro p hp
        rcases List.mem_append.1 hp with hp | hp
        · exact HSH.out.2 p hp
        · obtain rfl : p = (dx, ex) := by simpa using hp
          show dx ≤ 60
          omega
  case done =>
    rintro W ⟨kk, ⟨c1, f1⟩, ⟨c2, f2⟩, hsh⟩ hD
    have HSH := Lib.hid hsh
    have HKK := Lib.hid kk
    clear hsh kk
    gi_wp2
    have hDD : (W.setCell ⟨w.heap.size, 0, none⟩ (.bool false)).heap[w1.heap.size]? = some (.deferred (some [])) := (Below.heap_setCell W ⟨w.heap.size, 0, none⟩ _ _ (by intro e; dsimp only at e; omega)).trans hD
    have hcc : ((W.setCell ⟨w.heap.size, 0, none⟩ (.bool false)).putObj w1.heap.size (.deferred none)).cell? ⟨w.heap.size, 0, none⟩ = some (.bool false) :=
      (World.cell?_of_block (World.putObj_heap_other (by intro e; dsimp only at e; omega))).trans (World.cell?_setCell_same' _ _ _ (by rw [c2]; rfl))
    refine ⟨by simp, .inl ⟨_, _, rfl, run_takeDeferred hDD, ?_⟩⟩
    refine ⟨.bool false, by simp [results, Try.results76, go_sem, hcc], by rw [tooM_false HSH.out.1 HSH.out.2], ?_⟩
    exact much_below b1 z1 ((HKK.out.setCell (p := ⟨w.heap.size, 0, none⟩) (.inl (.inl rfl)) _).putObj (.inr (Nat.le_refl _)) _)
  case stop =>
    rintro c pre W hp ⟨rfl, kk, c2, hm⟩ hD
    have HKK := Lib.hid kk
    have HM := Lib.hid hm
    clear kk hm
    gi_wp2
    have hcc : (W.putObj w1.heap.size (.deferred none)).cell? ⟨w.heap.size, 0, none⟩ = some (.bool true) :=
      (World.cell?_of_block (World.putObj_heap_other (by intro e; dsimp only at e; omega))).trans c2
    refine ⟨by simp, .inl ⟨_, _, rfl, run_takeDeferred hD, ?_⟩⟩
    refine ⟨.bool true, by simp [results, Try.results76, go_sem, hcc], by rw [tooM_true hp HM.out], ?_⟩
    exact much_below b1 z1 (HKK.out.putObj (.inr (Nat.le_refl _)) _)
end As
end Go.Proofs.Ytbedcplkcaanhaa
