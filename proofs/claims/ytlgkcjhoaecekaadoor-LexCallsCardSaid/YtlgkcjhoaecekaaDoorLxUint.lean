/-
  WALKS: strconv.ParseUint of digits, at bases 10 and 16 and 32 bits. Own work.
-/
import Derived.Test.YtlgkcjhoaecekaaDoorLxSign
import Derived.Test.YtlgkcjhoaecekaaDoorLxNum
import Derived.Lib.ConvBytes
import Derived.Lib.AtoiAllMem
import Derived.Lib.AtoiErrMem
import Derived.Laws.Strings3
namespace Go.Proofs.YtlgkcjhoaecekaaDoor
namespace Lx
open Go.RowKit Go
set_option linter.unusedVariables false

theorem val_take {q : Nat} (hq : 1 ≤ q) (ds : List UInt8) (k : Nat) : val q (ds.take k) ≤ val q ds := by
  conv => rhs; rw [← List.take_append_drop k ds, val_app]
  have : 1 ≤ q ^ (ds.drop k).length := Nat.one_le_pow _ _ hq
  have := Nat.mul_le_mul_left (val q (ds.take k)) this
  omega
theorem val_snoc {q : Nat} {ds : List UInt8} {k : Nat} (hk : k < ds.length) : val q (ds.take (k + 1)) = val q (ds.take k) * q + dig ds[k] := by
  have : ds.take (k + 1) = ds.take k ++ [ds[k]] := by rw [List.take_add_one, List.getElem?_eq_getElem hk]; rfl
  rw [this, val_app]
  simp [val]
theorem lower_hx (c : Int) (h0 : 97 ≤ c) (h1 : c ≤ 102) (w : World) : Calls Tryd.prog 81 #[.int .u8 c] w fun e w' => e = .returned (.int .u8 c) ∧ w' = w := by
  have : c = 97 ∨ c = 98 ∨ c = 99 ∨ c = 100 ∨ c = 101 ∨ c = 102 := by omega
  rcases this with rfl | rfl | rfl | rfl | rfl | rfl
  all_goals
    go_enter Tryd.func81, Tryd.ntmps81
    go_wp2
    go_ret
    exact ⟨rfl, rfl⟩
/-- What the inner function answers of digits. -/
def uiV (v : Nat) : Value := if v ≤ 4294967295 then .tuple #[.int .u64 v, .nilIface] else .tuple #[.int .u64 4294967295, .iface 94 (.int .i64 1)]
theorem uiV_yes {v : Nat} (h : v ≤ 4294967295) : uiV v = .tuple #[.int .u64 v, .nilIface] := by unfold uiV; rw [if_pos h]
theorem uiV_no {v : Nat} (h : 4294967295 < v) : uiV v = .tuple #[.int .u64 4294967295, .iface 94 (.int .i64 1)] := by unfold uiV; rw [if_neg (by omega)]
theorem bytes_kp (w : World) (t : ByteArray) : Kp w (Lib.bytesWorld w 5 t) := by
  exact ⟨Lib.bytesWorld_below w _ t⟩
set_option maxHeartbeats 32000000 in
set_option maxRecDepth 100000 in
theorem uint10_inner (ds : List UInt8) (hp : ∀ b ∈ ds, isDg b = true) (hne : ds ≠ []) (hl : ds.length ≤ 65536) (w : World) :
    Calls Tryd.prog 77 #[.string (bytesOf ds), .int .i64 10, .int .i64 32] w fun e w' => e = .returned (uiV (val 10 ds)) ∧ Kp w w' := by
  have hsz := bytesOf_size ds
  have hemp : (bytesOf ds).toList.isEmpty = false := by
    rw [bytesOf_toList]
    cases ds with
    | nil => exact absurd rfl hne
    | cons b q => rfl
  have hcv := Lib.run_convert_string_bytes (P := Tryd.prog) w 9 65 5 (bytesOf ds) (u := .string) Tryd.underlying9 Tryd.underlying65 Tryd.underlying5
  have hB : ∀ j, j < (bytesOf ds).size → (Lib.bytesWorld w 5 (bytesOf ds)).cell? ⟨w.heap.size, j, none⟩ = some (.int .u8 ((bytesOf ds).data.toList.getD j 0).toNat) := fun j hj => Lib.bytesWorld_cell w 5 (bytesOf ds) j hj
  have hK := bytes_kp w (bytesOf ds)
  obtain ⟨W1, hW1⟩ : ∃ W1, W1 = Lib.bytesWorld w 5 (bytesOf ds) := ⟨_, rfl⟩
  rw [← hW1] at hcv hB hK
  clear hW1
  have HB : Hid (∀ j (hj : j < ds.length), W1.cell? ⟨w.heap.size, j, none⟩ = some (.int .u8 ds[j].toNat)) := Lib.hid (fun j hj => by
    have := hB j (by rw [hsz]; exact hj)
    rw [bytesOf_list, List.getD_eq_getElem?_getD, List.getElem?_eq_getElem hj] at this
    exact this)
  have HP : Hid (∀ j (hj : j < ds.length), isDg ds[j] = true) := Lib.hid (fun j hj => hp _ (List.getElem_mem hj))
  have HK := Lib.hid hK
  have hmv : IntKind.u64.wrap (IntKind.u64.wrap 4294967296 - 1) = 4294967295 := by
    rw [IntKind.wrap_u64, IntKind.wrap_u64]
    decide
  have HSZ := Lib.hid hsz
  have hm : ((bytesOf ds).size : Int) ≤ 65536 := by rw [hsz]; omega
  clear hB hK hp hne hl hsz
  obtain ⟨N, hN⟩ : ∃ N, (bytesOf ds).size = N := ⟨_, rfl⟩
  have HN : Hid (N = ds.length) := Lib.hid (by rw [← hN]; exact HSZ.out)
  rw [hN] at hm
  go_enter Tryd.func77, Tryd.ntmps77
  go_wp2
  go_loop [12, 13, 101] (fun vu vn vi => ∃ (k : Nat) (a : Int), vu = .bool false ∧ vn = .int .u64 a ∧ vi = .int .i64 k ∧ k ≤ N ∧ Hid (a = (val 10 (ds.take k) : Nat) ∧ val 10 (ds.take k) ≤ 4294967295)) (fun _ _ vi => N - (intOf vi).toNat)
  case atStart => exact ⟨0, 0, rfl, rfl, rfl, by omega, Lib.hid ⟨rfl, by simp [val]⟩⟩
  case round =>
    obtain ⟨k, a, rfl, rfl, rfl, hk, hh⟩ := hrel
    obtain ⟨ha, hacc⟩ := hh.out
    have a0 : 0 ≤ a := by omega
    have a1 : a ≤ 4294967295 := by omega
    clear ha hacc
    by_cases hkn : k < N
    · have hkl : k < ds.length := by rw [← HN.out]; exact hkn
      have hc := HB.out k hkl
      have hpk := HP.out k hkl
      have HS := Lib.hid (val_snoc (q := 10) hkl)
      generalize ds[k]'hkl = c at *
      have hk0 : (0 : Int) ≤ (k : Int) := by omega
      have hk1 : (k : Int) < (N : Int) := by omega
      · have hi := isDg_i c
        rw [hpk] at hi
        have hi2 : 48 ≤ (c.toNat : Int) ∧ (c.toNat : Int) ≤ 57 := by simpa using hi.symm
        clear hi
        have hd : (dig c : Int) = (c.toNat : Int) - 48 := by unfold dig; rw [if_pos hpk]; omega
        have c0 : (48 : Int) ≤ (c.toNat : Int) := by omega
        have c1 : (c.toNat : Int) ≤ 57 := by omega
        by_cases hov : 4294967295 < a * 10 + ((c.toNat : Int) - 48)
        · have HF : Hid (uiV (val 10 ds) = .tuple #[.int .u64 4294967295, .iface 94 (.int .i64 1)]) := Lib.hid (by
            refine uiV_no ?_
            have h1 := val_take (q := 10) (by decide) ds (k + 1)
            have h2 := HS.out
            have h3 := hh.out
            omega)
          clear hd
          go_wp2
          go_ret2
          exact ⟨by rw [HF.out]; rfl, HK.out⟩
        · have HX : Hid (a * 10 + ((c.toNat : Int) - 48) = (val 10 (ds.take (k + 1)) : Nat) ∧ val 10 (ds.take (k + 1)) ≤ 4294967295) := Lib.hid (by
            have h2 := HS.out
            have h3 := hh.out
            omega)
          clear hd
          go_wp2
          refine ⟨⟨k + 1, a * 10 + ((c.toNat : Int) - 48), rfl, (by first | rfl | (congr 1; omega)), (by first | rfl | (congr 1; omega)), by omega, HX⟩, by simp [intOf]; omega⟩
    · have HF : Hid (uiV (val 10 ds) = .tuple #[.int .u64 a, .nilIface]) := Lib.hid (by
        have e : ds.take k = ds := List.take_of_length_le (by rw [← HN.out]; omega)
        have := hh.out
        rw [e] at this
        rw [uiV_yes this.2, this.1])
      obtain rfl : k = N := by omega
      go_wp2
      go_ret2
      exact ⟨by rw [HF.out]; rfl, HK.out⟩
set_option maxHeartbeats 32000000 in
set_option maxRecDepth 100000 in
theorem uint16_inner (ds : List UInt8) (hp : ∀ b ∈ ds, isHx b = true) (hne : ds ≠ []) (hl : ds.length ≤ 65536) (w : World) :
    Calls Tryd.prog 77 #[.string (bytesOf ds), .int .i64 16, .int .i64 32] w fun e w' => e = .returned (uiV (val 16 ds)) ∧ Kp w w' := by
  have hsz := bytesOf_size ds
  have hemp : (bytesOf ds).toList.isEmpty = false := by
    rw [bytesOf_toList]
    cases ds with
    | nil => exact absurd rfl hne
    | cons b q => rfl
  have hcv := Lib.run_convert_string_bytes (P := Tryd.prog) w 9 65 5 (bytesOf ds) (u := .string) Tryd.underlying9 Tryd.underlying65 Tryd.underlying5
  have hB : ∀ j, j < (bytesOf ds).size → (Lib.bytesWorld w 5 (bytesOf ds)).cell? ⟨w.heap.size, j, none⟩ = some (.int .u8 ((bytesOf ds).data.toList.getD j 0).toNat) := fun j hj => Lib.bytesWorld_cell w 5 (bytesOf ds) j hj
  have hK := bytes_kp w (bytesOf ds)
  obtain ⟨W1, hW1⟩ : ∃ W1, W1 = Lib.bytesWorld w 5 (bytesOf ds) := ⟨_, rfl⟩
  rw [← hW1] at hcv hB hK
  clear hW1
  have HB : Hid (∀ j (hj : j < ds.length), W1.cell? ⟨w.heap.size, j, none⟩ = some (.int .u8 ds[j].toNat)) := Lib.hid (fun j hj => by
    have := hB j (by rw [hsz]; exact hj)
    rw [bytesOf_list, List.getD_eq_getElem?_getD, List.getElem?_eq_getElem hj] at this
    exact this)
  have HP : Hid (∀ j (hj : j < ds.length), isHx ds[j] = true) := Lib.hid (fun j hj => hp _ (List.getElem_mem hj))
  have HK := Lib.hid hK
  have hmv : IntKind.u64.wrap (IntKind.u64.wrap 4294967296 - 1) = 4294967295 := by
    rw [IntKind.wrap_u64, IntKind.wrap_u64]
    decide
  have HSZ := Lib.hid hsz
  have hm : ((bytesOf ds).size : Int) ≤ 65536 := by rw [hsz]; omega
  clear hB hK hp hne hl hsz
  obtain ⟨N, hN⟩ : ∃ N, (bytesOf ds).size = N := ⟨_, rfl⟩
  have HN : Hid (N = ds.length) := Lib.hid (by rw [← hN]; exact HSZ.out)
  rw [hN] at hm
  go_enter Tryd.func77, Tryd.ntmps77
  go_wp2
  go_loop [12, 13, 101] (fun vu vn vi => ∃ (k : Nat) (a : Int), vu = .bool false ∧ vn = .int .u64 a ∧ vi = .int .i64 k ∧ k ≤ N ∧ Hid (a = (val 16 (ds.take k) : Nat) ∧ val 16 (ds.take k) ≤ 4294967295)) (fun _ _ vi => N - (intOf vi).toNat)
  case atStart => exact ⟨0, 0, rfl, rfl, rfl, by omega, Lib.hid ⟨rfl, by simp [val]⟩⟩
  case round =>
    obtain ⟨k, a, rfl, rfl, rfl, hk, hh⟩ := hrel
    obtain ⟨ha, hacc⟩ := hh.out
    have a0 : 0 ≤ a := by omega
    have a1 : a ≤ 4294967295 := by omega
    clear ha hacc
    by_cases hkn : k < N
    · have hkl : k < ds.length := by rw [← HN.out]; exact hkn
      have hc := HB.out k hkl
      have hpk := HP.out k hkl
      have HS := Lib.hid (val_snoc (q := 16) hkl)
      generalize ds[k]'hkl = c at *
      have hk0 : (0 : Int) ≤ (k : Int) := by omega
      have hk1 : (k : Int) < (N : Int) := by omega
      cases hdg : isDg c
      · have hi := hxl_i c
        rw [hpk, hdg] at hi
        have hi2 : 97 ≤ (c.toNat : Int) ∧ (c.toNat : Int) ≤ 102 := by simpa using hi.symm
        clear hi
        have hd : (dig c : Int) = (c.toNat : Int) - 87 := by unfold dig; rw [if_neg (by rw [hdg]; decide)]; omega
        have c0 : (97 : Int) ≤ (c.toNat : Int) := by omega
        have c1 : (c.toNat : Int) ≤ 102 := by omega
        by_cases hov : 4294967295 < a * 16 + ((c.toNat : Int) - 87)
        · have HF : Hid (uiV (val 16 ds) = .tuple #[.int .u64 4294967295, .iface 94 (.int .i64 1)]) := Lib.hid (by
            refine uiV_no ?_
            have h1 := val_take (q := 16) (by decide) ds (k + 1)
            have h2 := HS.out
            have h3 := hh.out
            omega)
          clear hd
          go_wp2_with (go_at_call 81; refine (lower_hx _ c0 c1 _).mono ?_; rintro e w2 ⟨rfl, rfl⟩)
          go_ret2
          exact ⟨by rw [HF.out]; rfl, HK.out⟩
        · have HX : Hid (a * 16 + ((c.toNat : Int) - 87) = (val 16 (ds.take (k + 1)) : Nat) ∧ val 16 (ds.take (k + 1)) ≤ 4294967295) := Lib.hid (by
            have h2 := HS.out
            have h3 := hh.out
            omega)
          clear hd
          go_wp2_with (go_at_call 81; refine (lower_hx _ c0 c1 _).mono ?_; rintro e w2 ⟨rfl, rfl⟩)
          refine ⟨⟨k + 1, a * 16 + ((c.toNat : Int) - 87), rfl, (by first | rfl | (congr 1; omega)), (by first | rfl | (congr 1; omega)), by omega, HX⟩, by simp [intOf]; omega⟩
      · have hi := isDg_i c
        rw [hdg] at hi
        have hi2 : 48 ≤ (c.toNat : Int) ∧ (c.toNat : Int) ≤ 57 := by simpa using hi.symm
        clear hi
        have hd : (dig c : Int) = (c.toNat : Int) - 48 := by unfold dig; rw [if_pos hdg]; omega
        have c0 : (48 : Int) ≤ (c.toNat : Int) := by omega
        have c1 : (c.toNat : Int) ≤ 57 := by omega
        by_cases hov : 4294967295 < a * 16 + ((c.toNat : Int) - 48)
        · have HF : Hid (uiV (val 16 ds) = .tuple #[.int .u64 4294967295, .iface 94 (.int .i64 1)]) := Lib.hid (by
            refine uiV_no ?_
            have h1 := val_take (q := 16) (by decide) ds (k + 1)
            have h2 := HS.out
            have h3 := hh.out
            omega)
          clear hd
          go_wp2
          go_ret2
          exact ⟨by rw [HF.out]; rfl, HK.out⟩
        · have HX : Hid (a * 16 + ((c.toNat : Int) - 48) = (val 16 (ds.take (k + 1)) : Nat) ∧ val 16 (ds.take (k + 1)) ≤ 4294967295) := Lib.hid (by
            have h2 := HS.out
            have h3 := hh.out
            omega)
          clear hd
          go_wp2
          refine ⟨⟨k + 1, a * 16 + ((c.toNat : Int) - 48), rfl, (by first | rfl | (congr 1; omega)), (by first | rfl | (congr 1; omega)), by omega, HX⟩, by simp [intOf]; omega⟩
    · have HF : Hid (uiV (val 16 ds) = .tuple #[.int .u64 a, .nilIface]) := Lib.hid (by
        have e : ds.take k = ds := List.take_of_length_le (by rw [← HN.out]; omega)
        have := hh.out
        rw [e] at this
        rw [uiV_yes this.2, this.1])
      obtain rfl : k = N := by omega
      go_wp2
      go_ret2
      exact ⟨by rw [HF.out]; rfl, HK.out⟩
end Lx
end Go.Proofs.YtlgkcjhoaecekaaDoor
