/-
  A row of bytes 0 that is made; the beginning of a row.
-/
import Derived.Test.YtkkaipeklbhliaaInfo
namespace Go.Proofs.Ytkkaipeklbhliaa
open Go.RowKit
set_option maxRecDepth 100000

theorem makeB (Z : Nat) (hZ : Z ≤ 4000) (W : World) : (Instr.makeSlice 22 (.int .i64 (Z : Int)) (.int .i64 (Z : Int))).run Try.prog W = .ok (.slice (some ⟨W.heap.size, 0, none⟩) Z Z) (W.alloc (.cells (madeCells #[.int .u8 0] Z) 5)) := by
  obtain ⟨i0, hi, hz0, hz1, hz2⟩ := info_parts infoByte
  have := run_makeSlice (P := Try.prog) W 22 5 i0 (.int .u8 0) Try.underlying22 hi hz0 .i64 .i64 Z Z (by omega) (by omega) (by rw [hz1]; simp; omega) (by rw [hz2]; omega) (by omega)
  simpa [hz1, Value.cells] using this
theorem madeB_own (W : World) (lo Z : Nat) (hlo : lo ≤ W.heap.size) (hZ : Z ≤ 4000) : (W.alloc (.cells (madeCells #[.int .u8 0] Z) 5)).ownsRow lo 5 1 (.slice (some ⟨W.heap.size, 0, none⟩) Z Z) Z ((List.replicate Z (0 : Int)).map (Value.int .u8)) := by
  have e : (madeCells #[Value.int .u8 0] Z).toList = (List.replicate Z (0 : Int)).map (Value.int .u8) := by rw [toList_madeCells_one]; simp
  have hs : (madeCells #[Value.int .u8 0] Z).size = Z := by rw [← Array.length_toList, e]; simp
  refine ⟨by simp, .inr ⟨W.heap.size, Z, _, rfl, hlo, heap_alloc_new W _, Nat.le_refl _, by unfold maxLen; omega, by rw [hs]; omega, ?_⟩⟩
  rw [e]
  simp
theorem nought_byte (Z : Nat) : ∀ y ∈ List.replicate Z (0 : Int), 0 ≤ y ∧ y < 256 := fun y hy => by rw [List.eq_of_mem_replicate hy]; omega
/-- The beginning of a row that is owned. -/
theorem Own.take {e : Nat} {w : World} {lo hi : Nat} {p : Option Addr} {n c k : Nat} {xs : List Int} (h : Own e w lo hi (.slice p n c) n xs) (hk : k ≤ n) : Own e w lo hi (.slice p k c) k (xs.take k) := by
  have hl := h.len
  refine ⟨⟨by simp; omega, ?_⟩, fun j hj => h.2 j (by cases p with | none => cases hj | some a => exact hj)⟩
  rcases h.1.2 with ⟨hv, h0⟩ | ⟨g, cap, cur, hv, hb, hg, hnc, hcm, hcs, ht⟩
  · simp only [Value.slice.injEq] at hv
    obtain ⟨rfl, _, rfl⟩ := hv
    obtain rfl : k = 0 := by omega
    exact .inl ⟨rfl, rfl⟩
  · simp only [Value.slice.injEq] at hv
    obtain ⟨rfl, _, rfl⟩ := hv
    refine .inr ⟨g, c, cur, rfl, hb, hg, by omega, hcm, hcs, ?_⟩
    rw [List.map_take, ← ht, List.take_take]
    congr 1
    omega
theorem slice_to (p : Option Addr) (m cc h : Nat) (hc : h ≤ cc) (hp : p = none → cc = 0) (W : World) : (Instr.slice 22 (.slice p m cc) none (some (.int .i64 (h : Int))) none).run Try.prog W = .ok (.slice p h cc) W := by
  have ht' : Try.prog.underlying 22 = some (.slice (Try.prog.elem 22)) := by simp [Program.elem, Try.underlying22]
  have he : Try.prog.elem 22 = 5 := by simp [Program.elem, Try.underlying22]
  obtain ⟨i0, hi, hz0, hz1, hz2⟩ := info_parts infoByte
  rw [run_slice_h W 22 _ _ _ ht' .i64 h (by omega) (by omega), he]
  cases p with
  | none => simp [sizeOf, typeInfo, hi, sliced]
  | some a => simp [sizeOf, typeInfo, hi, sliced, Addr.add]

end Go.Proofs.Ytkkaipeklbhliaa
