/-
  What the program's sums, and the closure that it answers, do. Conditions: words of 64 bits.
-/
import Derived.Test.YtghoibggmddkmaoRowU
namespace Go.Proofs.Ytghoibggmddkmao
open Go.RowKit

/-- What sums answers: the closure that keeps its word in block g. -/
def tellV (g : Nat) : Value := .func (.func 51) #[] #[.pointer (some ⟨g, 0, none⟩)]

set_option maxRecDepth 100000 in
set_option maxHeartbeats 2000000 in
theorem sums_any (c : Int) (w : World) :
    Calls Try.prog 42 #[.int .u64 c] w fun e w' => e = .returned (tellV w.heap.size) ∧ w' = w.alloc (.cells #[.int .u64 c] 36) := by
  have hmf : ∀ (fn : Fn) (first cap : Array Value) (w : World), (Instr.makeFunc fn first cap).run Try.prog w = .ok (.func fn first cap) w := fun _ _ _ _ => rfl
  go_enter Try.func42, Try.ntmps42
  go_wp2_with (fail)
  go_ret
  exact ⟨rfl, rfl⟩

set_option maxRecDepth 100000 in
set_option maxHeartbeats 4000000 in
theorem tell_any (g : Nat) (x y z c r o : Int) (w : World) (hx : 0 ≤ x ∧ x < bU) (hy : 0 ≤ y ∧ y < bU) (hz : 0 ≤ z ∧ z < bU) (hc : 0 ≤ c ∧ c < bU) (hr : (x + y * z + c) % bU = r) (ho : (x + y * z + c) / bU = o)
    (hcell : w.cell? ⟨g, 0, none⟩ = some (.int .u64 c)) (hfr : w.frozen? ⟨g, 0, none⟩ = false) :
    Calls Try.prog 51 #[.int .u64 x, .int .u64 y, .int .u64 z, .pointer (some ⟨g, 0, none⟩)] w fun e w' => e = .returned (.int .u64 r) ∧ w' = w.setCell ⟨g, 0, none⟩ (.int .u64 o) := by
  have ht := termU hx hy hz
  have hyz : 0 ≤ y * z := Int.mul_nonneg hy.1 hz.1
  unfold bU at hx hy hz hc hr ho ht
  obtain ⟨p, hp⟩ : ∃ p, p = y * z := ⟨_, rfl⟩
  obtain ⟨h, hh⟩ : ∃ h, h = p / 18446744073709551616 := ⟨_, rfl⟩
  obtain ⟨l, hl⟩ : ∃ l, l = p % 18446744073709551616 := ⟨_, rfl⟩
  obtain ⟨l2, hl2⟩ : ∃ l2, l2 = (l + x) % 18446744073709551616 := ⟨_, rfl⟩
  obtain ⟨f1, hf1⟩ : ∃ f1, f1 = (l + x) / 18446744073709551616 := ⟨_, rfl⟩
  obtain ⟨f2, hf2⟩ : ∃ f2, f2 = (l2 + c) / 18446744073709551616 := ⟨_, rfl⟩
  rw [← hp] at hr ho ht hyz
  have M := mul64_int y z h l hy hz (by rw [← hp, hh]) (by rw [← hp, hl])
  have A1 := add64_int l x l2 f1 (by omega) hx.1 hl2.symm hf1.symm
  have A2 := add64_int l2 c r f2 (by omega) hc.1 (by omega) hf2.symm
  obtain ⟨s, hs⟩ : ∃ s, s = h + f1 := ⟨_, rfl⟩
  have es : h + f1 = s := hs.symm
  have eo : s + f2 = o := by omega
  have ls : 0 ≤ s ∧ s < 18446744073709551616 := by omega
  have lo : 0 ≤ o ∧ o < 18446744073709551616 := by omega
  have ws : IntKind.u64.wrap (h + f1) = s := by rw [IntKind.wrap_u64]; omega
  have wo : IntKind.u64.wrap (s + f2) = o := by rw [IntKind.wrap_u64]; omega
  clear hp hh hl hl2 hf1 hf2 hs hr ho ht hyz
  go_enter Try.func51, Try.ntmps51
  go_wp2_with (fail)
  refine (M _).mono ?_
  rintro e w1 ⟨rfl, rfl⟩
  go_wp2_with (fail)
  go_ret
  exact ⟨rfl, rfl⟩

end Go.Proofs.Ytghoibggmddkmao
