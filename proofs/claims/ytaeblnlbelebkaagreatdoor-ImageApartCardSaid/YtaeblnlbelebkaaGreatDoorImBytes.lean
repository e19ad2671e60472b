/-
  PLAIN FACTS: numbers as bytes, images as numbers, and what reads them; no program. Own work.
-/
import Derived.Test.YtaeblnlbelebkaaGreatDoorImGraph
namespace Go.Proofs.YtaeblnlbelebkaaGreatDoor
namespace Im
open Co (In in0)
open Ln (Vc)
set_option linter.unusedVariables false

/-- A number as bytes: seven bits a byte, the lowest first. -/
def vint (n : Nat) : List UInt8 := if h : n < 128 then [UInt8.ofNat n] else UInt8.ofNat (n % 128 + 128) :: vint (n / 128)
termination_by n
theorem vint_small {n : Nat} (h : n < 128) : vint n = [UInt8.ofNat n] := by rw [vint, dif_pos h]
theorem vint_big {n : Nat} (h : 128 ≤ n) : vint n = UInt8.ofNat (n % 128 + 128) :: vint (n / 128) := by rw [vint, dif_neg (by omega)]
theorem vint_len : ∀ (k n : Nat), n < 128 ^ (k + 1) → (vint n).length ≤ k + 1
  | 0, n, h => by rw [vint_small (by simpa using h)]; simp
  | k + 1, n, h => by
    by_cases hn : n < 128
    · rw [vint_small hn]; simp
    · rw [vint_big (by omega), List.length_cons]
      have : n / 128 < 128 ^ (k + 1) := by rw [Nat.div_lt_iff_lt_mul (by omega)]; rw [Nat.pow_succ] at h; exact h
      have := vint_len k (n / 128) this
      omega
theorem vint_len5 {n : Nat} (h : n ≤ 4294967295) : (vint n).length ≤ 5 := vint_len 4 n (by omega)
theorem vint_len10 {n : Nat} (h : n ≤ 9223372036854775807) : (vint n).length ≤ 10 := vint_len 9 n (by omega)
theorem vint_pos (n : Nat) : 1 ≤ (vint n).length := by
  by_cases h : n < 128
  · rw [vint_small h]; simp
  · rw [vint_big (by omega)]; simp
def vints (l : List Int) : List UInt8 := l.flatMap fun x => vint x.toNat
theorem vints_nil : vints [] = [] := rfl
theorem vints_append (a b : List Int) : vints (a ++ b) = vints a ++ vints b := by unfold vints; rw [List.flatMap_append]
theorem vints_one (x : Int) : vints [x] = vint x.toNat := by unfold vints; simp
theorem vints_cons (x : Int) (l : List Int) : vints (x :: l) = vint x.toNat ++ vints l := by unfold vints; simp

/-! ### what is told of an image, in order -/
def acc (p : Pt) : Int := (if p.r then 1 else 0) + (if p.w then 2 else 0)
def fnN (f : Fn) : List Int := [f.e, f.p, f.l]
def vcN (v : Vc) : List Int := [v.l, v.p, v.f]
def inN (i : In) : List Int := [i.op, i.a, i.b, i.c]
def atN (l : List Int) : List Int := (l.length : Int) :: l
def nums (m : Im) : List Int :=
  (m.funcs.length : Int) :: m.funcs.flatMap fnN ++ ((m.vecs.length : Int) :: m.vecs.flatMap vcN) ++ (m.main :: (m.init.length : Int) :: m.init) ++
  ((m.ports.length : Int) :: m.ports.map acc) ++ (m.stack :: (m.atoms.length : Int) :: m.atoms.flatMap atN) ++ ((m.code.length : Int) :: m.code.flatMap inN)
def byts (m : Im) : List UInt8 := vints (nums m)

/-! ### reading one number -/
/-- The number in the bytes behind i bytes that gave n. -/
def numAt : Nat → Nat → List UInt8 → Option (Nat × List UInt8)
  | _, _, [] => none
  | i, n, b :: r =>
    if 5 ≤ i then none
    else if 128 ≤ b.toNat then numAt (i + 1) (n + b.toNat % 128 * 128 ^ i) r
    else if 4294967295 < n + b.toNat * 128 ^ i ∨ (0 < i ∧ b = 0) then none
    else some (n + b.toNat * 128 ^ i, r)
def num (bs : List UInt8) : Option (Nat × List UInt8) := numAt 0 0 bs
theorem toNat_ofNat {n : Nat} (h : n < 256) : (UInt8.ofNat n).toNat = n := by simp; omega
theorem numAt_vint : ∀ (k i n x : Nat) (r : List UInt8), x < 128 ^ (k + 1) → i + k + 1 ≤ 5 → n + x * 128 ^ i ≤ 4294967295 → (0 < i → 0 < x) → numAt i n (vint x ++ r) = some (n + x * 128 ^ i, r)
  | k, i, n, x, r, hx, hi, hb, h0 => by
    by_cases hs : x < 128
    · rw [vint_small hs, List.singleton_append, numAt, if_neg (by omega), toNat_ofNat (by omega), if_neg (by omega), if_neg]
      rintro (h | ⟨h1, h2⟩)
      · omega
      · have := h0 h1
        have := congrArg UInt8.toNat h2
        rw [toNat_ofNat (by omega)] at this
        simp at this
        omega
    · obtain ⟨k, rfl⟩ : ∃ k', k = k' + 1 := ⟨k - 1, by
        rcases k with _ | k
        · simp at hx; omega
        · omega⟩
      have hd : x / 128 < 128 ^ (k + 1) := by rw [Nat.div_lt_iff_lt_mul (by omega)]; rw [Nat.pow_succ] at hx; exact hx
      have e : x % 128 * 128 ^ i + x / 128 * 128 ^ (i + 1) = x * 128 ^ i := by
        have h1 : x / 128 * 128 ^ (i + 1) = (128 * (x / 128)) * 128 ^ i := by rw [Nat.pow_succ, Nat.mul_comm (128 ^ i) 128, ← Nat.mul_assoc, Nat.mul_comm (x / 128) 128]
        rw [h1, ← Nat.add_mul, Nat.mod_add_div]
      rw [vint_big (by omega), List.cons_append, numAt, if_neg (by omega), toNat_ofNat (by omega), if_pos (by omega)]
      have em : (x % 128 + 128) % 128 = x % 128 := by omega
      rw [em, numAt_vint k (i + 1) _ (x / 128) r hd (by omega) (by rw [Nat.add_assoc, e]; exact hb) (fun _ => by omega), Nat.add_assoc, e]
theorem num_vint {x : Nat} (r : List UInt8) (h : x ≤ 4294967295) : num (vint x ++ r) = some (x, r) := by
  have := numAt_vint 4 0 0 x r (by omega) (by omega) (by simpa using h) (by omega)
  simpa [num] using this
theorem numAt_sound : ∀ (bs : List UInt8) (i n v : Nat) (r : List UInt8), numAt i n bs = some (v, r) → ∃ x, v = n + x * 128 ^ i ∧ bs = vint x ++ r ∧ v ≤ 4294967295 ∧ (0 < i → 0 < x)
  | [], i, n, v, r, h => by simp [numAt] at h
  | b :: bs, i, n, v, r, h => by
    rw [numAt] at h
    split at h
    · cases h
    · split at h
      · rename_i h5 hb
        obtain ⟨x, e1, e2, e3, e4⟩ := numAt_sound bs (i + 1) _ v r h
        have hx := e4 (by omega)
        have hlt : b.toNat < 256 := b.toNat_lt
        refine ⟨b.toNat % 128 + 128 * x, ?_, ?_, e3, fun _ => by omega⟩
        · rw [e1, Nat.pow_succ, Nat.add_mul, Nat.add_assoc]
          congr 2
          simp [Nat.mul_comm, Nat.mul_assoc]
        · rw [vint_big (by omega), e2, List.cons_append]
          congr 1
          · apply UInt8.toNat_inj.1
            rw [toNat_ofNat (by omega)]
            omega
          · congr 2
            omega
      · split at h
        · cases h
        · rename_i h5 hb hc
          simp only [Option.some.injEq, Prod.mk.injEq] at h
          obtain ⟨rfl, rfl⟩ := h
          refine ⟨b.toNat, rfl, ?_, by omega, fun hi => ?_⟩
          · rw [vint_small (by omega), List.singleton_append]
            congr 1
            apply UInt8.toNat_inj.1
            rw [toNat_ofNat (by omega)]
          · apply Nat.pos_of_ne_zero
            intro e
            exact hc (.inr ⟨hi, UInt8.toNat_inj.1 (by rw [e]; rfl)⟩)
theorem num_sound {bs r : List UInt8} {v : Nat} (h : num bs = some (v, r)) : bs = vint v ++ r ∧ v ≤ 4294967295 := by
  obtain ⟨x, e1, e2, e3, _⟩ := numAt_sound bs 0 0 v r h
  simp at e1
  subst e1
  exact ⟨e2, e3⟩
theorem num_len {bs r : List UInt8} {v : Nat} (h : num bs = some (v, r)) : r.length < bs.length := by
  have := (num_sound h).1
  have := congrArg List.length this
  rw [List.length_append] at this
  have := vint_pos v
  omega

/-! ### a reader: what is left of the bytes; none: something was wrong -/
abbrev Rd := Option (List UInt8)
def nmP : Option (Nat × List UInt8) → Nat
  | none => 0
  | some x => x.1
def nmQ : Option (Nat × List UInt8) → Rd
  | none => none
  | some x => some x.2
def nmV (s : Rd) : Nat := nmP (s.bind num)
def nmR (s : Rd) : Rd := nmQ (s.bind num)
theorem nmV_eq (bs : List UInt8) : nmV (some bs) = nmP (num bs) := rfl
theorem nmR_eq (bs : List UInt8) : nmR (some bs) = nmQ (num bs) := rfl
def upV (most : Nat) (s : Rd) : Nat := if most < nmV s then 0 else nmV s
def upR (most : Nat) (s : Rd) : Rd := if most < nmV s then none else nmR s
theorem nmV_bd (s : Rd) : nmV s ≤ 4294967295 := by
  cases s with
  | none => simp [nmV, nmP]
  | some bs =>
    rw [nmV_eq]
    cases h : num bs with
    | none => simp [nmP]
    | some x => obtain ⟨v, r⟩ := x; exact (num_sound h).2
theorem nmR_some {s : Rd} {r : List UInt8} (h : nmR s = some r) : ∃ bs, s = some bs ∧ bs = vint (nmV s) ++ r := by
  cases s with
  | none => cases h
  | some bs =>
    rw [nmR_eq] at h
    cases e : num bs with
    | none => rw [e] at h; cases h
    | some x =>
      obtain ⟨v, q⟩ := x
      rw [e] at h
      obtain rfl : q = r := Option.some.inj h
      refine ⟨bs, rfl, ?_⟩
      rw [nmV_eq, e]
      exact (num_sound e).1
theorem nm_vint {x : Nat} (h : x ≤ 4294967295) (r : List UInt8) : nmV (some (vint x ++ r)) = x ∧ nmR (some (vint x ++ r)) = some r := by
  rw [nmV_eq, nmR_eq, num_vint r h]
  exact ⟨rfl, rfl⟩
theorem upV_bd (most : Nat) (s : Rd) : upV most s ≤ most := by unfold upV; split <;> omega
theorem upR_some {most : Nat} {s : Rd} {r : List UInt8} (h : upR most s = some r) : upV most s = nmV s ∧ nmR s = some r ∧ nmV s ≤ most := by
  unfold upR at h
  unfold upV
  split at h
  · cases h
  · rename_i hn
    rw [if_neg hn]
    exact ⟨rfl, h, by omega⟩
theorem up_vint {most x : Nat} (h : x ≤ 4294967295) (hm : x ≤ most) (r : List UInt8) : upV most (some (vint x ++ r)) = x ∧ upR most (some (vint x ++ r)) = some r := by
  obtain ⟨a, b⟩ := nm_vint h r
  unfold upV upR
  rw [a, b, if_neg (by omega), if_neg (by omega)]
  exact ⟨rfl, rfl⟩

/-! ### elements, lists -/
/-- How a reader takes something: what it is, and what is left. -/
structure El (α : Type) where
  v : Rd → α
  r : Rd → Rd
def lsV {α : Type} (e : El α) : Nat → Rd → List α
  | 0, _ => []
  | k + 1, s => e.v s :: lsV e k (e.r s)
def lsR {α : Type} (e : El α) : Nat → Rd → Rd
  | 0, s => s
  | k + 1, s => lsR e k (e.r s)
theorem lsV_len {α : Type} (e : El α) : ∀ (k : Nat) (s : Rd), (lsV e k s).length = k
  | 0, _ => rfl
  | k + 1, s => by simp [lsV, lsV_len e k]
theorem lsV_snoc {α : Type} (e : El α) : ∀ (k : Nat) (s : Rd), lsV e (k + 1) s = lsV e k s ++ [e.v (lsR e k s)]
  | 0, s => rfl
  | k + 1, s => by
    show e.v s :: lsV e (k + 1) (e.r s) = (e.v s :: lsV e k (e.r s)) ++ [e.v (lsR e k (e.r s))]
    rw [lsV_snoc e k (e.r s), List.cons_append]
theorem lsR_snoc {α : Type} (e : El α) : ∀ (k : Nat) (s : Rd), lsR e (k + 1) s = e.r (lsR e k s)
  | 0, s => rfl
  | k + 1, s => lsR_snoc e k (e.r s)
/-- What an element tells, as numbers; how it is written is how it is read. -/
structure Cod {α : Type} (e : El α) (enc : α → List UInt8) (ok : α → Prop) : Prop where
  out : ∀ s r, e.r s = some r → ∃ bs, s = some bs ∧ bs = enc (e.v s) ++ r ∧ ok (e.v s)
  in' : ∀ x r, ok x → e.v (some (enc x ++ r)) = x ∧ e.r (some (enc x ++ r)) = some r
theorem Cod.list_out {α : Type} {e : El α} {enc : α → List UInt8} {ok : α → Prop} (c : Cod e enc ok) : ∀ (k : Nat) (s : Rd) (r : List UInt8), lsR e k s = some r → ∃ bs, s = some bs ∧ bs = (lsV e k s).flatMap enc ++ r ∧ ∀ x ∈ lsV e k s, ok x
  | 0, s, r, h => ⟨r, h, rfl, by simp [lsV]⟩
  | k + 1, s, r, h => by
    obtain ⟨bs, e1, e2, e3⟩ := c.list_out k (e.r s) r h
    obtain ⟨cs, f1, f2, f3⟩ := c.out s bs e1
    refine ⟨cs, f1, ?_, ?_⟩
    · rw [f2, e2]; simp [lsV]
    · intro x hx
      simp only [lsV, List.mem_cons] at hx
      rcases hx with rfl | hx
      · exact f3
      · exact e3 x hx
theorem Cod.list_in {α : Type} {e : El α} {enc : α → List UInt8} {ok : α → Prop} (c : Cod e enc ok) : ∀ (l : List α) (r : List UInt8), (∀ x ∈ l, ok x) → lsV e l.length (some (l.flatMap enc ++ r)) = l ∧ lsR e l.length (some (l.flatMap enc ++ r)) = some r
  | [], r, _ => ⟨rfl, rfl⟩
  | x :: l, r, h => by
    have e1 : (x :: l).flatMap enc ++ r = enc x ++ (l.flatMap enc ++ r) := by simp
    obtain ⟨a, b⟩ := c.in' x (l.flatMap enc ++ r) (h x (by simp))
    obtain ⟨p, q⟩ := c.list_in l r fun y hy => h y (by simp [hy])
    rw [e1]
    constructor
    · show e.v _ :: lsV e l.length (e.r _) = x :: l
      rw [a, b, p]
    · show lsR e l.length (e.r _) = some r
      rw [b, q]
/-- A counted list. -/
def liV {α : Type} (most : Nat) (e : El α) (s : Rd) : List α := lsV e (upV most s) (upR most s)
def liR {α : Type} (most : Nat) (e : El α) (s : Rd) : Rd := lsR e (upV most s) (upR most s)
def liE {α : Type} (most : Nat) (e : El α) : El (List α) := ⟨liV most e, liR most e⟩
def liEnc {α : Type} (enc : α → List UInt8) (l : List α) : List UInt8 := vint l.length ++ l.flatMap enc
theorem li_cod {α : Type} {most : Nat} (hm : most ≤ 4294967295) {e : El α} {enc : α → List UInt8} {ok : α → Prop} (c : Cod e enc ok) : Cod (liE most e) (liEnc enc) (fun l => l.length ≤ most ∧ ∀ x ∈ l, ok x) where
  out := fun s r h => by
    obtain ⟨bs, e1, e2, e3⟩ := c.list_out _ _ _ (show lsR e (upV most s) (upR most s) = some r from h)
    obtain ⟨f1, f2, f3⟩ := upR_some e1
    obtain ⟨cs, g1, g2⟩ := nmR_some f2
    have hl : (liV most e s).length = nmV s := by unfold liV; rw [lsV_len, f1]
    refine ⟨cs, g1, ?_, ?_, e3⟩
    · show cs = (vint (liV most e s).length ++ (liV most e s).flatMap enc) ++ r
      rw [hl, g2, e2, List.append_assoc]
      rfl
    · show (liV most e s).length ≤ most
      rw [hl]; exact f3
  in' := fun l r h => by
    obtain ⟨a, b⟩ := up_vint (most := most) (x := l.length) (by omega) h.1 (l.flatMap enc ++ r)
    obtain ⟨p, q⟩ := c.list_in l r h.2
    have e1 : liEnc enc l ++ r = vint l.length ++ (l.flatMap enc ++ r) := by unfold liEnc; rw [List.append_assoc]
    rw [e1]
    constructor
    · show lsV e (upV most _) (upR most _) = l
      rw [a, b, p]
    · show lsR e (upV most _) (upR most _) = some r
      rw [a, b, q]
/-! ### the elements of an image -/
def nmE : El Int := ⟨fun s => (nmV s : Int), nmR⟩
def fnE : El Fn := ⟨fun s => ⟨nmV s, nmV (nmR s), nmV (nmR (nmR s))⟩, fun s => nmR (nmR (nmR s))⟩
def vcE : El Vc := ⟨fun s => ⟨nmV s, nmV (nmR s), nmV (nmR (nmR s))⟩, fun s => nmR (nmR (nmR s))⟩
def inE : El In := ⟨fun s => ⟨nmV s, nmV (nmR s), nmV (nmR (nmR s)), nmV (nmR (nmR (nmR s)))⟩, fun s => nmR (nmR (nmR (nmR s)))⟩
def ptOf (n : Nat) : Pt := ⟨decide (n % 2 = 1), decide (2 ≤ n)⟩
def ptE : El Pt := ⟨fun s => ptOf (upV 3 s), fun s => upR 3 s⟩
def Word (x : Int) : Prop := 0 ≤ x ∧ x ≤ 4294967295
theorem nm_cod : Cod nmE (fun x => vint x.toNat) Word where
  out := fun s r h => by
    obtain ⟨bs, e1, e2⟩ := nmR_some h
    have := nmV_bd s
    exact ⟨bs, e1, by rw [e2]; rfl, by unfold Word nmE; simp only; omega⟩
  in' := fun x r h => by
    unfold Word at h
    obtain ⟨a, b⟩ := nm_vint (x := x.toNat) (by omega) r
    exact ⟨by show ((nmV _ : Nat) : Int) = x; rw [a]; omega, b⟩
/-- Several numbers in a row: a struct. -/
theorem nm3_out {s : Rd} {r : List UInt8} (h : nmR (nmR (nmR s)) = some r) : ∃ bs, s = some bs ∧ bs = vint (nmV s) ++ (vint (nmV (nmR s)) ++ (vint (nmV (nmR (nmR s))) ++ r)) := by
  obtain ⟨b1, e1, e2⟩ := nmR_some h
  obtain ⟨b2, f1, f2⟩ := nmR_some e1
  obtain ⟨b3, g1, g2⟩ := nmR_some f1
  exact ⟨b3, g1, by rw [← e2, ← f2, ← g2]⟩
theorem fn_cod : Cod fnE (fun f => vints (fnN f)) (fun f => Word f.e ∧ Word f.p ∧ Word f.l) where
  out := fun s r h => by
    obtain ⟨bs, e1, e2⟩ := nm3_out h
    have b1 := nmV_bd s
    have b2 := nmV_bd (nmR s)
    have b3 := nmV_bd (nmR (nmR s))
    refine ⟨bs, e1, ?_, ?_⟩
    · rw [e2]; simp [fnE, fnN, vints]
    · unfold Word fnE; simp only; omega
  in' := fun f r h => by
    obtain ⟨⟨a1, a2⟩, ⟨b1, b2⟩, c1, c2⟩ := h
    have e : vints (fnN f) ++ r = vint f.e.toNat ++ (vint f.p.toNat ++ (vint f.l.toNat ++ r)) := by simp [fnN, vints]
    obtain ⟨p1, p2⟩ := nm_vint (x := f.e.toNat) (by omega) (vint f.p.toNat ++ (vint f.l.toNat ++ r))
    obtain ⟨q1, q2⟩ := nm_vint (x := f.p.toNat) (by omega) (vint f.l.toNat ++ r)
    obtain ⟨s1, s2⟩ := nm_vint (x := f.l.toNat) (by omega) r
    rw [e]
    simp only [fnE, p1, p2, q1, q2, s1, s2]
    obtain ⟨x, y, z⟩ := f
    simp only at *
    exact ⟨by rw [Int.toNat_of_nonneg a1, Int.toNat_of_nonneg b1, Int.toNat_of_nonneg c1], trivial⟩
theorem vc_cod : Cod vcE (fun f => vints (vcN f)) (fun f => Word f.l ∧ Word f.p ∧ Word f.f) where
  out := fun s r h => by
    obtain ⟨bs, e1, e2⟩ := nm3_out h
    have b1 := nmV_bd s
    have b2 := nmV_bd (nmR s)
    have b3 := nmV_bd (nmR (nmR s))
    refine ⟨bs, e1, ?_, ?_⟩
    · rw [e2]; simp [vcE, vcN, vints]
    · unfold Word vcE; simp only; omega
  in' := fun f r h => by
    obtain ⟨⟨a1, a2⟩, ⟨b1, b2⟩, c1, c2⟩ := h
    have e : vints (vcN f) ++ r = vint f.l.toNat ++ (vint f.p.toNat ++ (vint f.f.toNat ++ r)) := by simp [vcN, vints]
    obtain ⟨p1, p2⟩ := nm_vint (x := f.l.toNat) (by omega) (vint f.p.toNat ++ (vint f.f.toNat ++ r))
    obtain ⟨q1, q2⟩ := nm_vint (x := f.p.toNat) (by omega) (vint f.f.toNat ++ r)
    obtain ⟨s1, s2⟩ := nm_vint (x := f.f.toNat) (by omega) r
    rw [e]
    simp only [vcE, p1, p2, q1, q2, s1, s2]
    obtain ⟨x, y, z⟩ := f
    simp only at *
    exact ⟨by rw [Int.toNat_of_nonneg a1, Int.toNat_of_nonneg b1, Int.toNat_of_nonneg c1], trivial⟩
theorem in_cod : Cod inE (fun i => vints (inN i)) (fun i => Word i.op ∧ Word i.a ∧ Word i.b ∧ Word i.c) where
  out := fun s r h => by
    obtain ⟨b0, d1, d2⟩ := nm3_out (s := nmR s) h
    obtain ⟨bs, e1, e2⟩ := nmR_some d1
    have b1 := nmV_bd s
    have b2 := nmV_bd (nmR s)
    have b3 := nmV_bd (nmR (nmR s))
    have b4 := nmV_bd (nmR (nmR (nmR s)))
    refine ⟨bs, e1, ?_, ?_⟩
    · rw [e2, d2]; simp [inE, inN, vints]
    · unfold Word inE; simp only; omega
  in' := fun f r h => by
    obtain ⟨⟨a1, a2⟩, ⟨b1, b2⟩, ⟨c1, c2⟩, d1, d2⟩ := h
    have e : vints (inN f) ++ r = vint f.op.toNat ++ (vint f.a.toNat ++ (vint f.b.toNat ++ (vint f.c.toNat ++ r))) := by simp [inN, vints]
    obtain ⟨p1, p2⟩ := nm_vint (x := f.op.toNat) (by omega) (vint f.a.toNat ++ (vint f.b.toNat ++ (vint f.c.toNat ++ r)))
    obtain ⟨q1, q2⟩ := nm_vint (x := f.a.toNat) (by omega) (vint f.b.toNat ++ (vint f.c.toNat ++ r))
    obtain ⟨s1, s2⟩ := nm_vint (x := f.b.toNat) (by omega) (vint f.c.toNat ++ r)
    obtain ⟨t1, t2⟩ := nm_vint (x := f.c.toNat) (by omega) r
    rw [e]
    simp only [inE, p1, p2, q1, q2, s1, s2, t1, t2]
    obtain ⟨x, y, z, u⟩ := f
    simp only at *
    exact ⟨by rw [Int.toNat_of_nonneg a1, Int.toNat_of_nonneg b1, Int.toNat_of_nonneg c1, Int.toNat_of_nonneg d1], trivial⟩
theorem acc_ptOf : ∀ n : Fin 4, acc (ptOf n.val) = n.val := by decide
theorem ptOf_acc (p : Pt) : ptOf (acc p).toNat = p := by obtain ⟨a, b⟩ := p; cases a <;> cases b <;> rfl
theorem acc_bd (p : Pt) : 0 ≤ acc p ∧ acc p ≤ 3 := by obtain ⟨a, b⟩ := p; cases a <;> cases b <;> decide
theorem pt_cod : Cod ptE (fun p => vint (acc p).toNat) (fun _ => True) where
  out := fun s r h => by
    obtain ⟨f1, f2, f3⟩ := upR_some h
    obtain ⟨bs, e1, e2⟩ := nmR_some f2
    refine ⟨bs, e1, ?_, trivial⟩
    have := acc_ptOf ⟨nmV s, by omega⟩
    simp only at this
    simp only [ptE, f1, this, Int.toNat_natCast]
    exact e2
  in' := fun p r _ => by
    have hb := acc_bd p
    obtain ⟨a, b⟩ := up_vint (most := 3) (x := (acc p).toNat) (by omega) (by omega) r
    simp only [ptE, a, b, ptOf_acc]
    exact ⟨trivial, trivial⟩
end Im
end Go.Proofs.YtaeblnlbelebkaaGreatDoor
