/-
  What the program's greatNumber answers of at most four bytes: the number that they are, great; condition: they are bytes.
-/
import Derived.Test.YtkkaipeklbhliaaWordMath
import Derived.Test.YtkkaipeklbhliaaInfo
import Derived.Test.YtkkaipeklbhliaaPlainI
namespace Go.Proofs.Ytkkaipeklbhliaa
open Go.RowKit
set_option maxRecDepth 100000

theorem or_byteJ {q x : Nat} (hq : q < 16777216) (hx : x < 256) : bits .or .i64 ((q : Int) * 256) (x : Int) = ((q * 256 + x : Nat) : Int) := by
  have e : (q : Int) * 256 = ((2 ^ 8 * q : Nat) : Int) := by omega
  rw [e, i64_or _ _ (by omega) (by omega), ← Nat.two_pow_add_eq_or_of_lt (by omega)]
  omega
/-- A number, great. -/
def gN (xs : List Int) : Nat := xs.foldl (fun a x => a * 256 + x.toNat) 0
theorem gN_step (xs : List Int) (k : Nat) (h : k < xs.length) : gN (xs.take (k + 1)) = gN (xs.take k) * 256 + (xs.getD k 0).toNat := by
  unfold gN
  rw [List.take_add_one, List.getElem?_eq_getElem h, List.getD_eq_getElem?_getD, List.getElem?_eq_getElem h]
  rw [List.foldl_append]
  rfl
theorem gN_lt {xs : List Int} (hb : ∀ x ∈ xs, 0 ≤ x ∧ x < 256) : ∀ k, k ≤ xs.length → gN (xs.take k) < 256 ^ k
  | 0, _ => by simp [gN]
  | k + 1, h => by
    have ih := gN_lt hb k (by omega)
    have hm : xs.getD k 0 ∈ xs := by rw [List.getD_eq_getElem?_getD, List.getElem?_eq_getElem (by omega)]; exact List.getElem_mem _
    have := hb _ hm
    rw [gN_step xs k (by omega), Nat.pow_succ]
    omega

set_option maxHeartbeats 2000000 in
theorem greatNumber_any (p : Option Addr) (n c : Nat) (xs : List Int) (w : World) (hn : n ≤ 4) (hx : xs.length = n) (h : BytesIn w p n xs) (hb : ∀ x ∈ xs, 0 ≤ x ∧ x < 256) :
    Calls Try.prog 37 #[.slice p n c] w fun e w' => e = .returned (.int .i64 (gN xs : Nat)) ∧ w' = w := by
  go_enter Try.func37, Try.ntmps37
  go_wp2_with (fail)
  go_loop [3, 8] (fun q i => ∃ (k r : Nat), k ≤ n ∧ i = .int .i64 k ∧ q = .int .i64 r ∧ Hid (r = gN (xs.take k))) (fun _ i => n - (intOf i).toNat)
  case atStart => exact ⟨0, 0, by omega, rfl, rfl, by rw [Hid]; rfl⟩
  case round =>
    obtain ⟨k, r, hk, rfl, rfl, hr⟩ := hrel
    by_cases hlt : k < n
    · obtain ⟨b, o, rfl, hc⟩ := h (by omega)
      have hck := hc k hlt
      have hm : xs.getD k 0 ∈ xs := by rw [List.getD_eq_getElem?_getD, List.getElem?_eq_getElem (by omega)]; exact List.getElem_mem _
      have hbk := hb _ hm
      have hst := gN_step xs k (by omega)
      have hlt2 := gN_lt hb k (by omega)
      have hp : 256 ^ k ≤ 16777216 := by
        have : k = 0 ∨ k = 1 ∨ k = 2 ∨ k = 3 := by omega
        rcases this with rfl | rfl | rfl | rfl <;> decide
      obtain ⟨x, hxe⟩ : ∃ x : Nat, xs.getD k 0 = (x : Int) := ⟨(xs.getD k 0).toNat, by omega⟩
      rw [hxe] at hck hbk hst
      have hr2 : r < 16777216 := by rw [hr.out]; omega
      have hx2 : x < 256 := by omega
      have ho := or_byteJ hr2 hx2
      have HN : Hid (r * 256 + x = gN (xs.take (k + 1))) := by rw [Hid, hst, hr.out, Int.toNat_natCast]
      have hk0 : (0 : Int) ≤ (k : Int) := by omega
      have hk1 : (k : Int) < (n : Int) := by omega
      clear hc hm hst hlt2 hp hxe hr h hb hx
      go_wp2
      go_round
      case rel => exact ⟨k + 1, _, by omega, by go_num, by simp, HN⟩
      case measure => simp [intOf]; omega
    · have hkn : k = n := by omega
      subst hkn
      have e : r = gN xs := by rw [hr.out, ← hx, List.take_length]
      subst e
      clear hr
      go_wp2
      go_ret
      exact ⟨rfl, rfl⟩

end Go.Proofs.Ytkkaipeklbhliaa
