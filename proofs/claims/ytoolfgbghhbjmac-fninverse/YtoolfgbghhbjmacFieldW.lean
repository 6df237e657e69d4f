/-
  The field's functions at 32 bytes, by numbers; the laws' helper at. Conditions: bytes.
-/
import Derived.Test.YtoolfgbghhbjmacImplAdd
import Derived.Test.YtoolfgbghhbjmacImplMul
import Derived.Test.YtoolfgbghhbjmacFieldNumS
namespace Go.Proofs.Ytoolfgbghhbjmac
open Go.RowKit

theorem fldN_32 : fldN 32 32 = 32 := rfl
theorem fldL_32 (z : Int) : fldL z 32 32 = numB (z % fldP) := rfl

theorem wFieldAdd (p q : Option Addr) (c d : Nat) (x y z : Int) (ks bs : List Int) (w : World) (hx : numF ks = x) (hy : numF bs = y) (hz : (x + y) % fldP = z) (h : BytesIn w p 32 ks) (h' : BytesIn w q 32 bs) (hb1 : ∀ x ∈ ks, 0 ≤ x ∧ x < 256) (hb2 : ∀ x ∈ bs, 0 ≤ x ∧ x < 256) (hc : 32 ≤ c) (hd : 32 ≤ d) :
    Calls Try.prog 11 #[.slice p 32 c, .slice q 32 d] w fun e w' => ∃ p' c', e = .returned (.slice p' 32 c') ∧ Own 5 w' w.heap.size w'.heap.size (.slice p' 32 c') 32 (numB z) ∧ Below w.heap.size w w' := by
  have h := implFieldAdd_any p q 32 32 c d ks bs w h h' hb1 hb2 hc hd
  rw [fldN_32, fldL_32, hx, hy, hz] at h
  exact h

theorem wFieldSub (p q : Option Addr) (c d : Nat) (x y z : Int) (ks bs : List Int) (w : World) (hx : numF ks = x) (hy : numF bs = y) (hz : (x - y) % fldP = z) (h : BytesIn w p 32 ks) (h' : BytesIn w q 32 bs) (hb1 : ∀ x ∈ ks, 0 ≤ x ∧ x < 256) (hb2 : ∀ x ∈ bs, 0 ≤ x ∧ x < 256) (hc : 32 ≤ c) (hd : 32 ≤ d) :
    Calls Try.prog 12 #[.slice p 32 c, .slice q 32 d] w fun e w' => ∃ p' c', e = .returned (.slice p' 32 c') ∧ Own 5 w' w.heap.size w'.heap.size (.slice p' 32 c') 32 (numB z) ∧ Below w.heap.size w w' := by
  have h := implFieldSub_any p q 32 32 c d ks bs w h h' hb1 hb2 hc hd
  rw [fldN_32, fldL_32, hx, hy, hz] at h
  exact h

theorem wFieldMul (p q : Option Addr) (c d : Nat) (x y z : Int) (ks bs : List Int) (w : World) (hx : numF ks = x) (hy : numF bs = y) (hz : (x * y) % fldP = z) (h : BytesIn w p 32 ks) (h' : BytesIn w q 32 bs) (hb1 : ∀ x ∈ ks, 0 ≤ x ∧ x < 256) (hb2 : ∀ x ∈ bs, 0 ≤ x ∧ x < 256) (hc : 32 ≤ c) (hd : 32 ≤ d) :
    Calls Try.prog 10 #[.slice p 32 c, .slice q 32 d] w fun e w' => ∃ p' c', e = .returned (.slice p' 32 c') ∧ Own 5 w' w.heap.size w'.heap.size (.slice p' 32 c') 32 (numB z) ∧ Below w.heap.size w w' := by
  have h := implFieldMul_any p q 32 32 c d ks bs w h h' hb1 hb2 hc hd
  rw [fldN_32, fldL_32, hx, hy, hz] at h
  exact h

theorem nn_self {n : Int} (h : 0 ≤ n) : nnZ n = n := by unfold nnZ; split <;> omega
theorem wNum (n : Int) (w : World) (h0 : 0 ≤ n) (h63 : n ≤ 9223372036854775807) :
    Calls Try.prog 24 #[.int .i64 n] w fun e w' => ∃ p' c', e = .returned (.slice p' 32 c') ∧ Own 5 w' w.heap.size w'.heap.size (.slice p' 32 c') 32 (numB n) ∧ Below w.heap.size w w' := by
  have h := implFieldNum_any n w h63
  rw [nn_self h0] at h
  exact h

theorem wNumS (n : Int) (w : World) (h0 : 0 ≤ n) (h63 : n ≤ 9223372036854775807) :
    Calls Try.prog 25 #[.int .i64 n] w fun e w' => ∃ p' c', e = .returned (.slice p' 32 c') ∧ Own 5 w' w.heap.size w'.heap.size (.slice p' 32 c') 32 (numB n) ∧ Below w.heap.size w w' := by
  have h := specFieldNum_any n w h63
  rw [nn_self h0] at h
  exact h

set_option maxRecDepth 100000 in
set_option maxHeartbeats 2000000 in
theorem at_any (p : Option Addr) (n c : Nat) (xs : List Int) (i : Nat) (w : World) (hn : n ≤ 1048576) (hi : i ≤ 100) (h : BytesIn w p n xs) (hb : ∀ x ∈ xs, 0 ≤ x ∧ x < 256) :
    Calls Try.prog 26 #[.slice p n c, .int .i64 (i : Int)] w fun e w' => ∃ v : Int, e = .returned (.int .i64 v) ∧ (0 ≤ v ∧ v < 256) ∧ w' = w := by
  by_cases hlt : i < n
  · have hlt' : (i : Int) < (n : Int) := by omega
    obtain ⟨b, o, rfl, hc⟩ := h (by omega)
    have cx := hc i hlt
    have hv := byteZ hb i
    generalize xs.getD i 0 = v at cx hv
    clear h hc hb
    go_enter Try.func26, Try.ntmps26
    go_wp2_with (fail)
    go_ret
    exact ⟨v, rfl, hv, rfl⟩
  · have hlt' : ¬ (i : Int) < (n : Int) := by omega
    clear h hb
    obtain ⟨u, hu⟩ : ∃ u : Nat, u = i * 7 := ⟨_, rfl⟩
    obtain ⟨s, hs⟩ : ∃ s : Nat, s = u + n := ⟨_, rfl⟩
    have eu : (i : Int) * 7 = (u : Int) := by omega
    have es : (u : Int) + (n : Int) = (s : Int) := by omega
    have ls : (s : Int) < 2000000 := by omega
    have lu : (u : Int) < 1000 := by omega
    have et : Int.tmod (s : Int) 256 = (s : Int) % 256 := Int.tmod_eq_emod_of_nonneg (by omega)
    obtain ⟨v, hv⟩ : ∃ v, v = (s : Int) % 256 := ⟨_, rfl⟩
    have hv2 : 0 ≤ v ∧ v < 256 := by omega
    rw [← hv] at et
    clear hu hs hv
    go_enter Try.func26, Try.ntmps26
    go_wp2_with (fail)
    go_ret
    exact ⟨v, rfl, hv2, rfl⟩

end Go.Proofs.Ytoolfgbghhbjmac
