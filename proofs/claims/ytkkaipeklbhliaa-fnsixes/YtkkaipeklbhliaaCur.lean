/-
  What the draws' cursor does, whatever bytes it is over: l1New makes one, l1Byte and l1Below give a number in their bounds and move it on; condition: at most 1048576 bytes.
-/
import Derived.Test.YtkkaipeklbhliaaInfo
namespace Go.Proofs.Ytkkaipeklbhliaa
open Go.RowKit

/-- A cursor in block a, over the bytes xs at p. -/
def Cur (w : World) (a : Nat) (p : Option Addr) (n c : Nat) (xs : List Int) : Prop :=
  ∃ i h : Int, w.heap[a]? = some (.cells #[.slice p n c, .int .i64 i, .int .i64 h] 59 (0, 0)) ∧ 0 ≤ i ∧ i ≤ n ∧ n ≤ 1048576 ∧ xs.length = n ∧ BytesIn w p n xs ∧ ∀ x ∈ xs, 0 ≤ x ∧ x < 256

theorem Cur.not_in {w : World} {a : Nat} {p : Option Addr} {n c : Nat} {b o : Nat} {k : Nat} {u : Int} {i h : Int} (ha : w.heap[a]? = some (.cells #[.slice p n c, .int .i64 i, .int .i64 h] 59 (0, 0))) (hc : w.cell? ⟨b, o + k, none⟩ = some (.int .u8 u)) : b ≠ a := by
  intro e
  subst e
  rw [cell_of_row w b (o + k) _ _ _ ha] at hc
  match o + k, hc with
  | 0, hc => simp at hc
  | 1, hc => simp at hc
  | 2, hc => simp at hc
  | j + 3, hc => simp at hc

theorem in_grown {w w' : World} {p : Option Addr} {n : Nat} {xs : List Int} {a : Nat} (h : BytesIn w p n xs) (hg : w.grownBy w' (some a)) (hne : ∀ b o, p = some ⟨b, o, none⟩ → 0 < n → b ≠ a) : BytesIn w' p n xs := by
  intro hn
  obtain ⟨b, o, rfl, hc⟩ := h hn
  refine ⟨b, o, rfl, fun i hi => ?_⟩
  exact hg.cell (hc i hi) (by have := hne b o rfl hn; simp; exact this)

theorem and255 (y : Int) : 0 ≤ bits .and .i64 y 255 ∧ bits .and .i64 y 255 ≤ 255 := by
  have e : (BitVec.ofInt 64 y &&& BitVec.ofInt 64 255).toNat ≤ 255 := by
    rw [BitVec.toNat_and]
    exact Nat.le_trans Nat.and_le_right (by decide)
  have : bits .and .i64 y 255 = IntKind.i64.wrap ((BitVec.ofInt 64 y &&& BitVec.ofInt 64 255).toNat : Int) := rfl
  rw [this, IntKind.wrap_i64]
  omega

theorem cells_cur {w : World} {a : Nat} {v0 v1 v2 : Value} (ha : w.heap[a]? = some (.cells #[v0, v1, v2] 59 (0, 0))) :
    w.cell? ⟨a, 0, none⟩ = some v0 ∧ w.cell? ⟨a, 1, none⟩ = some v1 ∧ w.cell? ⟨a, 2, none⟩ = some v2 ∧ w.frozen? ⟨a, 1, none⟩ = false ∧ w.frozen? ⟨a, 2, none⟩ = false := by
  refine ⟨?_, ?_, ?_, frozen_of_row _ _ _ _ _ ha, frozen_of_row _ _ _ _ _ ha⟩ <;> rw [cell_of_row _ _ _ _ _ _ ha] <;> rfl

theorem set2_cur {w : World} {a : Nat} {v0 v1 v2 : Value} (ha : w.heap[a]? = some (.cells #[v0, v1, v2] 59 (0, 0))) (u : Value) :
    (w.setCell ⟨a, 2, none⟩ u).heap[a]? = some (.cells #[v0, v1, u] 59 (0, 0)) ∧ w.grownBy (w.setCell ⟨a, 2, none⟩ u) (some a) :=
  ⟨heap_setCell_same w a 2 _ _ u ha, ⟨rfl, rfl, rfl, by simp, fun k _ hk => heap_setCell_other w ⟨a, 2, none⟩ k u (fun e => hk (by simp [e]))⟩⟩
theorem set1_cur {w : World} {a : Nat} {v0 v1 v2 : Value} (ha : w.heap[a]? = some (.cells #[v0, v1, v2] 59 (0, 0))) (u : Value) :
    (w.setCell ⟨a, 1, none⟩ u).heap[a]? = some (.cells #[v0, u, v2] 59 (0, 0)) ∧ w.grownBy (w.setCell ⟨a, 1, none⟩ u) (some a) :=
  ⟨heap_setCell_same w a 1 _ _ u ha, ⟨rfl, rfl, rfl, by simp, fun k _ hk => heap_setCell_other w ⟨a, 1, none⟩ k u (fun e => hk (by simp [e]))⟩⟩

set_option maxHeartbeats 2000000 in
theorem l1Byte_any (a : Nat) (p : Option Addr) (n c : Nat) (xs : List Int) (w : World) (hcur : Cur w a p n c xs) :
    Calls Try.prog 41 #[.pointer (some ⟨a, 0, none⟩)] w fun e w' => ∃ x : Int, e = .returned (.int .i64 x) ∧ 0 ≤ x ∧ x ≤ 255 ∧ Cur w' a p n c xs ∧ w.grownBy w' (some a) := by
  obtain ⟨i, h, ha, hi0, hin, hn, hx, hb, hr⟩ := hcur
  obtain ⟨c0, c1, c2, f1, f2⟩ := cells_cur ha
  go_enter Try.func41, Try.ntmps41
  go_wp2
  generalize wrap64 (wrap64 (h * 6364136223846793005) + 1442695040888963407) = H
  have s2 := set2_cur ha (.int .i64 H)
  generalize w.setCell ⟨a, 2, none⟩ (.int .i64 H) = W at s2 ⊢
  obtain ⟨ha1, g1⟩ := s2
  have hb1 : BytesIn W p n xs := in_grown hb g1 fun b o e hn => by
    obtain ⟨b', o', e', hc⟩ := hb hn
    rw [e] at e'
    obtain ⟨rfl, rfl⟩ : b = b' ∧ o = o' := by simpa using e'
    exact Cur.not_in ha (hc 0 hn)
  clear c0 c1 c2 f1 f2 hb ha
  obtain ⟨c0, c1, c2, f1, f2⟩ := cells_cur ha1
  go_quiet (fail)
  generalize hX : bits BinOp.and IntKind.i64 (bits BinOp.xor IntKind.i64 (H / 8589934592) (H / 35184372088832)) 255 = X
  have hX1 := and255 (bits BinOp.xor IntKind.i64 (H / 8589934592) (H / 35184372088832))
  rw [hX] at hX1
  clear hX
  obtain ⟨x0, x1⟩ := hX1
  by_cases hlt : i < (n : Int)
  · obtain ⟨k, hk⟩ : ∃ k : Nat, i = (k : Int) := ⟨i.toNat, by omega⟩
    subst hk
    obtain ⟨b, o, rfl, hc⟩ := hb1 (by omega)
    have hck := hc k (by omega)
    obtain ⟨u, hu⟩ : ∃ u, u = xs.getD k 0 := ⟨_, rfl⟩
    rw [← hu] at hck
    have hu0 : 0 ≤ u ∧ u < 256 := by
      rw [hu]; apply hr
      simp [List.getElem?_eq_getElem (show k < xs.length by omega)]
    obtain ⟨u0, u1⟩ := hu0
    have hy := and255 (X + u)
    have s1 := set1_cur ha1 (.int .i64 ((k : Int) + 1))
    have hin2 : BytesIn W (some ⟨b, o, none⟩) n xs := hb1
    have hnot := Cur.not_in ha1 hck
    clear hc hu hb1
    go_wp2
    go_quiet (fail)
    go_wp2
    go_quiet (fail)
    go_wp2
    go_ret
    refine ⟨_, rfl, hy.1, hy.2, ⟨(k : Int) + 1, H, s1.1, by omega, by omega, hn, hx, ?_, hr⟩, ?_⟩
    · exact in_grown (w' := W.setCell ⟨a, 1, none⟩ (.int .i64 ((k : Int) + 1))) hin2 s1.2 fun b' o' e _ => by
        obtain ⟨rfl, rfl⟩ : b = b' ∧ o = o' := by simpa using e
        exact hnot
    · exact grown_trans g1 ⟨s1.2.os, s1.2.tape, s1.2.output, s1.2.size, s1.2.block⟩
  · go_wp2
    go_quiet (fail)
    go_wp2
    go_ret
    exact ⟨_, rfl, x0, x1, ⟨i, H, ha1, hi0, hin, hn, hx, hb1, hr⟩, ⟨g1.os, g1.tape, g1.output, g1.size, g1.block⟩⟩

set_option maxHeartbeats 2000000 in
theorem l1Below_any (a : Nat) (p : Option Addr) (n c : Nat) (xs : List Int) (m : Int) (w : World) (hm : 1 ≤ m) (hm2 : m ≤ 256) (hcur : Cur w a p n c xs) :
    Calls Try.prog 32 #[.pointer (some ⟨a, 0, none⟩), .int .i64 m] w fun e w' => ∃ x : Int, e = .returned (.int .i64 x) ∧ 0 ≤ x ∧ x < m ∧ Cur w' a p n c xs ∧ w.grownBy w' (some a) := by
  have c1 : ¬ m ≤ 0 := by omega
  go_enter Try.func32, Try.ntmps32
  go_wp2_with (fail)
  refine (l1Byte_any a p n c xs _ hcur).mono ?_
  rintro e w1 ⟨x, rfl, hx0, hx1, hc1, g1⟩
  have hz : (m == 0) = false := by simp; omega
  go_wp2_with (fail)
  go_ret
  exact ⟨_, rfl, Int.emod_nonneg _ (by omega), Int.emod_lt_of_pos _ (by omega), hc1, g1⟩

set_option maxHeartbeats 2000000 in
set_option maxRecDepth 100000 in
theorem l1New_any (p : Option Addr) (n c : Nat) (xs : List Int) (w : World) (hn : n ≤ 1048576) (hx : xs.length = n) (hb : BytesIn w p n xs) (hr : ∀ x ∈ xs, 0 ≤ x ∧ x < 256) :
    Calls Try.prog 31 #[.slice p n c] w fun e w' => ∃ a : Nat, e = .returned (.pointer (some ⟨a, 0, none⟩)) ∧ w.heap.size ≤ a ∧ a < w'.heap.size ∧ Cur w' a p n c xs ∧ Below w.heap.size w w' := by
  go_enter Try.func31, Try.ntmps31
  go_wp2
  go_loop [3, 4] (fun q i => ∃ k : Nat, k ≤ n ∧ i = .int .i64 k ∧ q = .int .i64 (intOf q)) (fun _ i => n - (intOf i).toNat)
  case atStart => exact ⟨0, Nat.zero_le _, rfl, rfl⟩
  case round =>
    obtain ⟨k, hk, rfl, hq⟩ := hrel
    obtain ⟨h, rfl⟩ : ∃ h, u3 = .int .i64 h := ⟨_, hq⟩
    clear hq
    by_cases hlt : k < n
    · by_cases h4 : k < 4000
      · obtain ⟨b, o, rfl, hc⟩ := hb (by omega)
        have hck := hc k hlt
        obtain ⟨u, hu⟩ : ∃ u, u = xs.getD k 0 := ⟨_, rfl⟩
        rw [← hu] at hck
        clear hc hu
        go_wp2
        go_round
        case rel => exact ⟨k + 1, by omega, by go_num, by unfold intOf; rfl⟩
        case measure => simp [intOf]; omega
      · have h4' : ¬ (k : Int) < 4000 := by omega
        go_wp2
        go_ret
        exact ⟨w.heap.size, rfl, Nat.le_refl _, by simp, ⟨0, h, heap_alloc_new w _, Int.le_refl _, by omega, hn, hx, in_below hb ((Below.refl _ _).alloc (Nat.le_refl _) _), hr⟩, (Below.refl _ _).alloc (Nat.le_refl _) _⟩
    · go_wp2
      go_ret
      exact ⟨w.heap.size, rfl, Nat.le_refl _, by simp, ⟨0, h, heap_alloc_new w _, Int.le_refl _, by omega, hn, hx, in_below hb ((Below.refl _ _).alloc (Nat.le_refl _) _), hr⟩, (Below.refl _ _).alloc (Nat.le_refl _) _⟩

end Go.Proofs.Ytkkaipeklbhliaa
