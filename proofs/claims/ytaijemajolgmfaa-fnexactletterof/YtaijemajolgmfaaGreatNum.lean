/-
  What the program's greatNumber answers of two bytes: the number that they are, great; condition: they are bytes.
-/
import Derived.Test.YtaijemajolgmfaaWordMath
import Derived.Test.YtaijemajolgmfaaInfo
import Derived.Test.YtaijemajolgmfaaPlain
namespace Go.Proofs.Ytaijemajolgmfaa
open Go.RowKit
set_option maxRecDepth 100000

theorem or_byteI {q x : Nat} (hq : q < 65536) (hx : x < 256) : bits .or .i64 ((q : Int) * 256) (x : Int) = ((q * 256 + x : Nat) : Int) := by
  have e : (q : Int) * 256 = ((2 ^ 8 * q : Nat) : Int) := by omega
  rw [e, i64_or _ _ (by omega) (by omega), ← Nat.two_pow_add_eq_or_of_lt (by omega)]
  omega
def twos (x0 x1 : Nat) : Nat → Nat
  | 0 => 0
  | 1 => x0
  | _ => x0 * 256 + x1

set_option maxHeartbeats 1000000 in
theorem greatNumber_nat (b o c x0 x1 : Nat) (w : World) (h0 : x0 < 256) (h1 : x1 < 256) (e0 : w.cell? ⟨b, o + 0, none⟩ = some (.int .u8 x0)) (e1 : w.cell? ⟨b, o + 1, none⟩ = some (.int .u8 x1)) :
    Calls Try.prog 37 #[.slice (some ⟨b, o, none⟩) 2 c] w fun e w' => e = .returned (.int .i64 ((x0 * 256 + x1 : Nat) : Int)) ∧ w' = w := by
  rw [Nat.add_zero] at e0
  obtain ⟨S, hS⟩ : ∃ S : Nat, S = x0 * 256 + x1 := ⟨_, rfl⟩
  rw [← hS]
  replace hS : Hid (S = x0 * 256 + x1) := hS
  go_enter Try.func37, Try.ntmps37
  go_wp2_with (fail)
  go_loop [3, 8] (fun q i => ∃ (k r : Nat), k ≤ 2 ∧ i = .int .i64 k ∧ q = .int .i64 r ∧ r = twos x0 x1 k) (fun _ i => 2 - (intOf i).toNat)
  case atStart => exact ⟨0, 0, by omega, rfl, rfl, rfl⟩
  case round =>
    obtain ⟨k, r, hk, rfl, rfl, hr⟩ := hrel
    have hk3 : k = 0 ∨ k = 1 ∨ k = 2 := by omega
    rcases hk3 with rfl | rfl | rfl
    · have hb : r < 65536 := by simp only [twos] at hr; omega
      have ho := or_byteI hb h0
      have HN : Hid (r * 256 + x0 = twos x0 x1 1) := by simp only [Hid, twos] at hr ⊢; omega
      clear hr
      go_wp2
      go_round
      case rel => exact ⟨1, _, by omega, rfl, by simp, HN.out⟩
      case measure => simp [intOf]
    · have hb : r < 65536 := by simp only [twos] at hr; omega
      have ho := or_byteI hb h1
      have HN : Hid (r * 256 + x1 = twos x0 x1 2) := by simp only [Hid, twos] at hr ⊢; omega
      clear hr
      go_wp2
      go_round
      case rel => exact ⟨2, _, by omega, rfl, by simp, HN.out⟩
      case measure => simp [intOf]
    · obtain rfl : r = S := by rw [hS.out, hr]; rfl
      clear hr
      go_wp2
      go_ret
      exact ⟨rfl, rfl⟩

theorem greatNumber_two (p : Option Addr) (c : Nat) (u0 u1 : Int) (w : World) (h : BytesIn w p 2 [u0, u1]) (h0 : 0 ≤ u0 ∧ u0 < 256) (h1 : 0 ≤ u1 ∧ u1 < 256) :
    Calls Try.prog 37 #[.slice p 2 c] w fun e w' => e = .returned (.int .i64 (256 * u0 + u1)) ∧ w' = w := by
  obtain ⟨b, o, rfl, hc⟩ := h (by omega)
  obtain ⟨x0, rfl⟩ : ∃ x : Nat, u0 = (x : Int) := ⟨u0.toNat, by omega⟩
  obtain ⟨x1, rfl⟩ : ∃ x : Nat, u1 = (x : Int) := ⟨u1.toNat, by omega⟩
  refine (greatNumber_nat b o c x0 x1 w (by omega) (by omega) (hc 0 (by omega)) (hc 1 (by omega))).mono ?_
  rintro e w' ⟨rfl, rfl⟩
  exact ⟨by congr 2; omega, rfl⟩

/-- A slice's part behind l, and of that one the first h. -/
theorem slice_behind (b j m cc l : Nat) (h0 : 0 < l) (h : l ≤ m) (hc : m ≤ cc) : ∃ ad, Hid (l < m → ad = ⟨b, j + l, none⟩) ∧ (∀ W, (Instr.slice 22 (.slice (some ⟨b, j, none⟩) m cc) (some (.int .i64 (l : Int))) none none).run Try.prog W = .ok (.slice (some ad) (m - l) (cc - l)) W) ∧ ∀ h', h' ≤ cc - l → ∀ W, (Instr.slice 22 (.slice (some ad) (m - l) (cc - l)) none (some (.int .i64 (h' : Int))) none).run Try.prog W = .ok (.slice (some ad) h' (cc - l)) W := by
  have ht' : Try.prog.underlying 22 = some (.slice (Try.prog.elem 22)) := by simp [Program.elem, Try.underlying22]
  have he : Try.prog.elem 22 = 5 := by simp [Program.elem, Try.underlying22]
  obtain ⟨i0, hi, hz0, hz1, hz2⟩ := info_parts infoByte
  refine ⟨if cc = l then ⟨b, j, none⟩ else ⟨b, j + l, none⟩, fun h64 => if_neg (by omega), fun W => ?_, fun h' hh W => ?_⟩
  · rw [run_slice_l W 22 _ _ _ ht' .i64 l (by omega) (by omega), he]
    by_cases e : cc = l
    · simp [sizeOf, typeInfo, hi, hz1, sliced, e]
    · simp [sizeOf, typeInfo, hi, hz1, sliced, Addr.add, show l ≠ 0 by omega, e]
  · rw [run_slice_h W 22 _ _ _ ht' .i64 h' (by omega) (by omega), he]
    simp [sizeOf, typeInfo, hi, sliced, Addr.add]

end Go.Proofs.Ytaijemajolgmfaa
