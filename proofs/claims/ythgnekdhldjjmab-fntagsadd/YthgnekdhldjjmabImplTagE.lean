/-
  The program's numbers of a tag: their 16 bytes; and r of a key's first half. Conditions: small parts; bytes.
-/
import Derived.Test.YthgnekdhldjjmabImplTagD
namespace Go.Proofs.Ythgnekdhldjjmab
open Go.RowKit

theorem u64_or (a b : Nat) (h1 : a < 18446744073709551616) (h2 : b < 18446744073709551616) : bits .or .u64 (a : Int) (b : Int) = ((a ||| b : Nat) : Int) := by
  have hlt : (a ||| b) < 2 ^ 64 := Nat.or_lt_two_pow h1 h2
  have e : bits .or .u64 (a : Int) (b : Int) = IntKind.u64.wrap ((BitVec.ofInt 64 (a : Int) ||| BitVec.ofInt 64 (b : Int)).toNat : Int) := rfl
  have e1 : (BitVec.ofInt 64 (a : Int)).toNat = a := by rw [BitVec.toNat_ofInt]; omega
  have e2 : (BitVec.ofInt 64 (b : Int)).toNat = b := by rw [BitVec.toNat_ofInt]; omega
  rw [e, BitVec.toNat_or, e1, e2, IntKind.wrap_u64]
  omega
/-- Byte p of V, as the parts have it. -/
theorem byte_two (V p : Nat) : ((digP V (8 * p / 26) / 2 ^ (8 * p % 26)) ||| (digP V (8 * p / 26 + 1) * 2 ^ (26 - 8 * p % 26))) % 256 = V / 256 ^ p % 256 := by
  have h := byte_parts (V / 67108864 ^ (8 * p / 26)) (8 * p % 26) _ _ rfl rfl (by omega)
  rw [byte_at] at h
  rw [← h, digP, digP, Nat.pow_succ, ← Nat.div_div_eq_div_mul]
theorem byte_one (V p : Nat) (h : 8 * p % 26 ≤ 18) : digP V (8 * p / 26) / 2 ^ (8 * p % 26) % 256 = V / 256 ^ p % 256 := by
  rw [digP, byte_last _ _ _ rfl h, byte_at]

set_option maxRecDepth 100000 in
set_option maxHeartbeats 2400000 in
theorem byteAt_same (lo g V p : Nat) (w : World) (hp : p < 16) (h : NumIs w lo g (digL V)) :
    Calls Try.prog 31 #[.pointer (some ⟨g, 0, none⟩), .int .i64 (p : Int)] w fun e w' => e = .returned (.int .u8 ((V / 256 ^ p % 256 : Nat) : Int)) ∧ w' = w := by
  have hi5 : 8 * p / 26 < 5 := by omega
  have e1 := h.cell _ hi5
  rw [digL_get _ _ hi5] at e1
  have l1 := digP_lt V (8 * p / 26)
  have H2 := byte_two V p
  have H1 := byte_one V p
  have c2 : 8 * p / 26 + 1 < 5 → w.cell? ⟨g, 8 * p / 26 + 1, none⟩ = some (.int .u64 ((digP V (8 * p / 26 + 1) : Nat) : Int)) := fun k => by rw [h.cell _ k, digL_get _ _ k]
  have l2 := digP_lt V (8 * p / 26 + 1)
  generalize V / 256 ^ p % 256 = r at H1 H2 ⊢
  obtain ⟨q, hq⟩ : ∃ q, q = 8 * p := ⟨_, rfl⟩
  rw [← hq] at hi5 e1 l1 H2 H1 c2 l2
  obtain ⟨i, hi⟩ : ∃ i, q / 26 = i := ⟨_, rfl⟩
  obtain ⟨s, hs⟩ : ∃ s, q % 26 = s := ⟨_, rfl⟩
  have ti := tdiv_letter hi
  have ts := tmod_letter hs
  have hs26 : s < 26 := by omega
  have hsp : i = 4 → s ≤ 18 := by omega
  rw [hi] at hi5 e1 l1 H2 H1 c2 l2
  rw [hs] at H2 H1
  have eq8 : (8 : Int) * (p : Int) = (q : Int) := by omega
  generalize digP V i = d at e1 l1 H1 H2
  generalize digP V (i + 1) = d' at c2 l2 H2
  obtain ⟨x, hx⟩ : ∃ x, d / 2 ^ s = x := ⟨_, rfl⟩
  have ex := shr_letter d x s hx
  have lx : x ≤ d := by rw [← hx]; exact Nat.div_le_self _ _
  rw [hx] at H1 H2
  obtain ⟨t, ht⟩ : ∃ t, 26 - s = t := ⟨_, rfl⟩
  have et : (26 : Int) - (s : Int) = (t : Int) := by omega
  rw [ht] at H2
  obtain ⟨i1, hi1⟩ : ∃ i1, i1 = i + 1 := ⟨_, rfl⟩
  have ei1 : (i : Int) + 1 = (i1 : Int) := by omega
  rw [← hi1] at c2
  have i5' : (i : Int) < 5 := by omega
  have i0' : (0 : Int) ≤ (i : Int) := by omega
  have ht26 : t ≤ 26 := by omega
  have y2 : (d' : Int) * 2 ^ t = ((d' * 2 ^ t : Nat) : Int) := by simp
  have ly2 : d' * 2 ^ t ≤ 67108864 * 67108864 := Nat.mul_le_mul (Nat.le_of_lt l2) (Nat.pow_le_pow_right (n := 2) (by decide) ht26)
  generalize d' * 2 ^ t = y at H2 y2 ly2
  have eo := u64_or x y (by omega) (by omega)
  generalize (x ||| y) = z at H2 eo
  have hq8 : q < 128 := by omega
  clear h hx hi hs hq ht
  by_cases hlast : i1 < 5
  · have hl' : (i1 : Int) < 5 := by omega
    have e2 := c2 (by omega)
    have wz : IntKind.u8.wrap (z : Int) = (r : Int) := by rw [IntKind.wrap_u8]; omega
    have mz : (z : Int) % 256 = (r : Int) := by omega
    have my : (y : Int) % 18446744073709551616 = (y : Int) := by omega
    have uy : (y : Int) < 18446744073709551616 := by omega
    clear H1 H2 c2 hsp hi1
    go_enter Try.func31, Try.ntmps31
    go_wp2
    go_ret
    exact ⟨rfl, rfl⟩
  · have hl' : ¬ (i1 : Int) < 5 := by omega
    have hr := H1 (hsp (by omega))
    have wz : IntKind.u8.wrap (x : Int) = (r : Int) := by rw [IntKind.wrap_u8]; omega
    have mz : (x : Int) % 256 = (r : Int) := by omega
    clear H1 H2 c2 hsp hi1 hr
    go_enter Try.func31, Try.ntmps31
    go_wp2
    go_ret
    exact ⟨rfl, rfl⟩

end Go.Proofs.Ythgnekdhldjjmab
