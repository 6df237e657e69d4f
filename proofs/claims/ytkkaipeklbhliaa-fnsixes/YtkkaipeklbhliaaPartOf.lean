/-
  What impl.partOf answers of a group of signs: the whole bytes of their bits. Conditions: one to four signs, each one of the 64.
-/
import Derived.Test.YtkkaipeklbhliaaGroupMath
import Derived.Test.YtkkaipeklbhliaaSignAt
import Derived.Test.YtkkaipeklbhliaaGreat
import Derived.Test.YtkkaipeklbhliaaMakeB
namespace Go.Proofs.Ytkkaipeklbhliaa
open Go.RowKit
set_option maxRecDepth 100000

theorem six_orB (a x : Int) (ha : 0 ≤ a ∧ a < 16777216) (hx : 0 ≤ x ∧ x < 64) : bits .or .i64 (a * 64) x = a * 64 + x := by
  obtain ⟨a, rfl⟩ := Int.eq_ofNat_of_zero_le ha.1
  obtain ⟨x, rfl⟩ := Int.eq_ofNat_of_zero_le hx.1
  have := i64_or (a * 64) x (by omega) (by omega)
  rw [or_high (e := 6) (by omega)] at this
  simpa using this

/-- The number of the first k signs. -/
def dN (G : List Int) : Nat → Int
  | 0 => 0
  | k + 1 => dN G k * 64 + h6 (G.getD k 0)
theorem dN_lt {G : List Int} {m : Nat} (h : ∀ i, i < m → 0 ≤ h6 (G.getD i 0)) : ∀ k, k ≤ m → 0 ≤ dN G k ∧ dN G k < (64 ^ k : Nat)
  | 0, _ => by simp [dN]
  | k + 1, hk => by
    have ih := dN_lt h k (by omega)
    have a := h k (by omega)
    have b := (h6_le (G.getD k 0)).2
    rw [dN, Nat.pow_succ]
    omega
/-- Three bytes of a number, the high ones first. -/
def b3 (B : Int) : List Int := [B / 65536 % 256, B / 256 % 256, B % 256]
theorem b3_fit (B : Int) (h : 0 ≤ B) : fitN B 3 = 3 ∧ (fitL B 3).reverse = b3 B := by
  have e : fitN B 3 = 3 := fit_yes ⟨h, by decide, by decide⟩
  refine ⟨e, ?_⟩
  unfold fitL
  rw [e]
  simp [littleL, List.range_succ, b3]
theorem own_le {e : Nat} {w : World} {lo hi : Nat} {p : Option Addr} {n c : Nat} {xs : List Int} (h : Own e w lo hi (.slice p n c) n xs) : n ≤ c := by
  rcases h.1.2 with ⟨hv, h0⟩ | ⟨g, cap, cur, hv, hb, hg, hnc, _⟩
  · omega
  · simp only [Value.slice.injEq] at hv
    omega
theorem own_none {e : Nat} {w : World} {lo hi : Nat} {p : Option Addr} {n c : Nat} {xs : List Int} (h : Own e w lo hi (.slice p n c) n xs) (hp : p = none) : c = 0 := by
  rcases h.1.2 with ⟨hv, h0⟩ | ⟨g, cap, cur, hv, _⟩
  · simp only [Value.slice.injEq] at hv
    exact hv.2.2
  · simp only [Value.slice.injEq] at hv
    rw [hp] at hv
    cases hv.1
/-- The number of m signs, filled up with bits 0. -/
def bN (G : List Int) (m : Nat) : Int := dN G m * (64 ^ (4 - m) : Nat)

set_option maxHeartbeats 4000000 in
theorem partOf_any (G : List Int) (m : Nat) (w : World) (hG : G.length = 4) (hm1 : 1 ≤ m) (hm4 : m ≤ 4) (hr : ∀ x ∈ G, 0 ≤ x ∧ x < 256) (h : ∀ i, i < m → 0 ≤ h6 (G.getD i 0)) :
    Calls Try.prog 28 #[.agg (u8G G).toArray, .int .i64 (m : Int)] w fun e w' => ∃ p c, e = .returned (.slice p (6 * m / 8) c) ∧ BytesIn w' p (6 * m / 8) ((b3 (bN G m)).take (6 * m / 8)) ∧ Below w.heap.size w w' := by
  have ga := GrpIs.madeL w hG
  have ba : Below w.heap.size w (w.alloc (.cells (u8G G).toArray 40)) := (Below.refl _ _).alloc (Nat.le_refl _) _
  have hsz := sizeG hG
  have m1 : (1 : Int) ≤ (m : Int) := by omega
  have m4 : (m : Int) ≤ 4 := by omega
  have m0 : (0 : Int) ≤ (m : Int) := by omega
  have HD : Hid (∀ k, k ≤ m → 0 ≤ dN G k ∧ dN G k < (64 ^ k : Nat)) := dN_lt h
  go_enter Try.func28, Try.ntmps28
  go_wp2_with (fail)
  go_loop [5, 11] (fun q i => ∃ (k : Nat) (r : Int), k ≤ m ∧ i = .int .i64 k ∧ q = .int .i64 r ∧ Hid (r = dN G k)) (fun _ i => m - (intOf i).toNat)
  case atStart => exact ⟨0, 0, by omega, rfl, rfl, by rw [Hid]; rfl⟩
  case round =>
    obtain ⟨k, r, hk, rfl, rfl, hr0⟩ := hrel
    by_cases hlt : k < m
    · have i1 : (k : Int) < (m : Int) := by omega
      have i0 : (0 : Int) ≤ (k : Int) := by omega
      have hc := ga.cell k (by omega)
      have hD := HD.out k hk
      have hp : (64 ^ k : Nat) ≤ 262144 := by
        have : k = 0 ∨ k = 1 ∨ k = 2 ∨ k = 3 := by omega
        rcases this with rfl | rfl | rfl | rfl <;> decide
      have hm : G.getD k 0 ∈ G := by rw [List.getD_eq_getElem?_getD, List.getElem?_eq_getElem (by omega)]; exact List.getElem_mem _
      have hb := hr _ hm
      have h0 := h k hlt
      have h64 := (h6_le (G.getD k 0)).2
      rw [← hr0.out] at hD
      have ho := six_orB r (h6 (G.getD k 0)) ⟨hD.1, by omega⟩ ⟨h0, h64⟩
      have HN : Hid (r * 64 + h6 (G.getD k 0) = dN G (k + 1)) := by show _ = _; rw [hr0.out]; rfl
      have r1 : r < 262144 := by omega
      have r0 : 0 ≤ r := hD.1
      have CI := fun X => signAt_any (G.getD k 0) X hb.1 hb.2
      clear hr0 hD hp hm HD
      generalize G.getD k 0 = g at hc hb h0 h64 ho HN CI
      clear h hr hG ga hsz
      go_wp2_with (go_at_call 39; refine (CI _).mono ?_; rintro e w' ⟨rfl, he⟩; obtain rfl := he.symm)
      go_round
      case rel => exact ⟨k + 1, _, by omega, by go_num, rfl, HN.out⟩
      case measure => simp [intOf]; omega
    · have hkm : k = m := by omega
      subst hkm
      have hk4 : k = 1 ∨ k = 2 ∨ k = 3 ∨ k = 4 := by omega
      clear hlt hk
      rcases hk4 with rfl | rfl | rfl | rfl
      · have hD := HD.out 1 (Nat.le_refl _)
        rw [← hr0.out] at hD
        simp only [Nat.reducePow] at hD
        have hB : Hid (bN G 1 = r * 262144) := by show bN G 1 = _; unfold bN; rw [← hr0.out]; simp
        have b0 : 0 ≤ r * 262144 := by omega
        obtain ⟨f1, f2⟩ := b3_fit (r * 262144) b0
        have CG := fun X => implGreat_any (r * 262144) 3 X (by omega)
        simp only [f1, f2] at CG
        clear f1 f2 HD hr0 h hr hsz
        have r1 : r < 64 := by omega
        have r0 : 0 ≤ r := hD.1
        clear hD
        go_wp2_with (go_at_call 40; refine (CG _).mono ?_; rintro e w1 ⟨p1, c1, rfl, r1, b1⟩; have hc1 := own_le r1; have sl : ∀ W, (Instr.slice 22 (.slice p1 3 c1) none (some (.int .i64 0)) none).run Try.prog W = .ok (.slice p1 0 c1) W := slice_to p1 3 c1 0 (by omega) (own_none r1))
        go_ret
        refine ⟨_, _, rfl, ?_, below_on ba b1⟩
        rw [hB.out]
        exact (r1.take (k := 0) (by decide)).bytes
      · have hD := HD.out 2 (Nat.le_refl _)
        rw [← hr0.out] at hD
        simp only [Nat.reducePow] at hD
        have hB : Hid (bN G 2 = r * 4096) := by show bN G 2 = _; unfold bN; rw [← hr0.out]; simp
        have b0 : 0 ≤ r * 4096 := by omega
        obtain ⟨f1, f2⟩ := b3_fit (r * 4096) b0
        have CG := fun X => implGreat_any (r * 4096) 3 X (by omega)
        simp only [f1, f2] at CG
        clear f1 f2 HD hr0 h hr hsz
        have r1 : r < 4096 := by omega
        have r0 : 0 ≤ r := hD.1
        clear hD
        go_wp2_with (go_at_call 40; refine (CG _).mono ?_; rintro e w1 ⟨p1, c1, rfl, r1, b1⟩; have hc1 := own_le r1; have sl : ∀ W, (Instr.slice 22 (.slice p1 3 c1) none (some (.int .i64 1)) none).run Try.prog W = .ok (.slice p1 1 c1) W := slice_to p1 3 c1 1 (by omega) (own_none r1))
        go_ret
        refine ⟨_, _, rfl, ?_, below_on ba b1⟩
        rw [hB.out]
        exact (r1.take (k := 1) (by decide)).bytes
      · have hD := HD.out 3 (Nat.le_refl _)
        rw [← hr0.out] at hD
        simp only [Nat.reducePow] at hD
        have hB : Hid (bN G 3 = r * 64) := by show bN G 3 = _; unfold bN; rw [← hr0.out]; simp
        have b0 : 0 ≤ r * 64 := by omega
        obtain ⟨f1, f2⟩ := b3_fit (r * 64) b0
        have CG := fun X => implGreat_any (r * 64) 3 X (by omega)
        simp only [f1, f2] at CG
        clear f1 f2 HD hr0 h hr hsz
        have r1 : r < 262144 := by omega
        have r0 : 0 ≤ r := hD.1
        clear hD
        go_wp2_with (go_at_call 40; refine (CG _).mono ?_; rintro e w1 ⟨p1, c1, rfl, r1, b1⟩; have hc1 := own_le r1; have sl : ∀ W, (Instr.slice 22 (.slice p1 3 c1) none (some (.int .i64 2)) none).run Try.prog W = .ok (.slice p1 2 c1) W := slice_to p1 3 c1 2 (by omega) (own_none r1))
        go_ret
        refine ⟨_, _, rfl, ?_, below_on ba b1⟩
        rw [hB.out]
        exact (r1.take (k := 2) (by decide)).bytes
      · have hD := HD.out 4 (Nat.le_refl _)
        rw [← hr0.out] at hD
        simp only [Nat.reducePow] at hD
        have hB : Hid (bN G 4 = r * 1) := by show bN G 4 = _; unfold bN; rw [← hr0.out]; simp
        have b0 : 0 ≤ r * 1 := by omega
        obtain ⟨f1, f2⟩ := b3_fit (r * 1) b0
        have CG := fun X => implGreat_any (r * 1) 3 X (by omega)
        simp only [f1, f2] at CG
        clear f1 f2 HD hr0 h hr hsz
        have r1 : r < 16777216 := by omega
        have r0 : 0 ≤ r := hD.1
        clear hD
        rw [Int.mul_one] at CG
        go_wp2_with (go_at_call 40; refine (CG _).mono ?_; rintro e w1 ⟨p1, c1, rfl, r1, b1⟩; have hc1 := own_le r1; have sl : ∀ W, (Instr.slice 22 (.slice p1 3 c1) none (some (.int .i64 3)) none).run Try.prog W = .ok (.slice p1 3 c1) W := slice_to p1 3 c1 3 (by omega) (own_none r1))
        go_ret
        refine ⟨_, _, rfl, ?_, below_on ba b1⟩
        rw [hB.out, Int.mul_one]
        exact (r1.take (k := 3) (by decide)).bytes

end Go.Proofs.Ytkkaipeklbhliaa
