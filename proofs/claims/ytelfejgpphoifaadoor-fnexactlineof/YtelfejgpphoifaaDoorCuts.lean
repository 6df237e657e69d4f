/-
  Slices of slices of bytes; what lies there. No conditions beyond each fact's own.
-/
import Derived.Test.YtelfejgpphoifaaDoorInfo
import Derived.Test.YtelfejgpphoifaaDoorPlainI
namespace Go.Proofs.YtelfejgpphoifaaDoor
open Go.RowKit
set_option maxRecDepth 100000

theorem cut_to (b j m cc h : Nat) (hc : h ≤ cc) : ∀ W, (Instr.slice 22 (.slice (some ⟨b, j, none⟩) m cc) none (some (.int .i64 (h : Int))) none).run Tryd.prog W = .ok (.slice (some ⟨b, j, none⟩) h cc) W := fun W => by
  have ht' : Tryd.prog.underlying 22 = some (.slice (Tryd.prog.elem 22)) := by simp [Program.elem, Tryd.underlying22]
  have he : Tryd.prog.elem 22 = 5 := by simp [Program.elem, Tryd.underlying22]
  obtain ⟨i0, hi, hz0, hz1, hz2⟩ := info_parts infoByte
  rw [run_slice_h W 22 _ _ _ ht' .i64 h (by omega) (by omega), he]
  simp [sizeOf, typeInfo, hi, sliced, Addr.add]
/-- What is behind the first l. -/
theorem cut_from (b j m cc l : Nat) (h : l ≤ m) (hl : l < cc) : ∀ W, (Instr.slice 22 (.slice (some ⟨b, j, none⟩) m cc) (some (.int .i64 (l : Int))) none none).run Tryd.prog W = .ok (.slice (some ⟨b, j + l, none⟩) (m - l) (cc - l)) W := fun W => by
  have ht' : Tryd.prog.underlying 22 = some (.slice (Tryd.prog.elem 22)) := by simp [Program.elem, Tryd.underlying22]
  have he : Tryd.prog.elem 22 = 5 := by simp [Program.elem, Tryd.underlying22]
  obtain ⟨i0, hi, hz0, hz1, hz2⟩ := info_parts infoByte
  rw [run_slice_l W 22 _ _ _ ht' .i64 l (by omega) (by omega), he]
  have e : ¬ cc = l := by omega
  by_cases h0 : l = 0
  · subst h0; simp [sizeOf, typeInfo, hi, sliced, Addr.add]
  · simp [sizeOf, typeInfo, hi, hz1, sliced, Addr.add, h0, e]
/-- From l to h. -/
theorem cut_mid (b j m cc l h : Nat) (hlh : l ≤ h) (hc : h ≤ cc) (hl : l < cc) : ∀ W, (Instr.slice 22 (.slice (some ⟨b, j, none⟩) m cc) (some (.int .i64 (l : Int))) (some (.int .i64 (h : Int))) none).run Tryd.prog W = .ok (.slice (some ⟨b, j + l, none⟩) (h - l) (cc - l)) W := fun W => by
  have ht' : Tryd.prog.underlying 22 = some (.slice (Tryd.prog.elem 22)) := by simp [Program.elem, Tryd.underlying22]
  have he : Tryd.prog.elem 22 = 5 := by simp [Program.elem, Tryd.underlying22]
  obtain ⟨i0, hi, hz0, hz1, hz2⟩ := info_parts infoByte
  rw [run_slice_lh W 22 _ _ _ ht' .i64 .i64 l h (by omega) (by omega) (by omega), he]
  have e : ¬ cc = l := by omega
  by_cases h0 : l = 0
  · subst h0; simp [sizeOf, typeInfo, hi, sliced, Addr.add]
  · simp [sizeOf, typeInfo, hi, hz1, sliced, Addr.add, h0, e]
theorem byteL {bs : List Int} (hb : ∀ x ∈ bs, 0 ≤ x ∧ x < 256) (i : Nat) : 0 ≤ bs.getD i 0 ∧ bs.getD i 0 < 256 := by
  rw [List.getD_eq_getElem?_getD]
  cases e : bs[i]? with
  | none => simp
  | some v => exact hb v (List.mem_of_getElem? e)
/-- A part of bytes that lie there. -/
theorem in_cut {w : World} {b o n : Nat} {bs : List Int} (h : BytesIn w (some ⟨b, o, none⟩) n bs) (l k : Nat) (hk : l + k ≤ n) : BytesIn w (some ⟨b, o + l, none⟩) k ((bs.drop l).take k) := fun h0 => by
  obtain ⟨b', o', e, hc⟩ := h (by omega)
  cases e
  refine ⟨b, o + l, rfl, fun i hi => ?_⟩
  rw [Nat.add_assoc, hc (l + i) (by omega)]
  simp [List.getD_eq_getElem?_getD, List.getElem?_drop, hi]

end Go.Proofs.YtelfejgpphoifaaDoor
