/-
  The laws' own copy of a list of items. Conditions: items that lie there, as many as a law hands over.
-/
import Derived.Test.YtkdbcplcpcdnbaaItems
namespace Go.Proofs.Ytkdbcplcpcdnbaa
open Go.RowKit
set_option maxRecDepth 100000

theorem infoItem : (Try.prog.info? 26).map (fun i => (i.zero, i.size, i.bytes)) = some (some (.agg #[.string ByteArray.empty, .int .i64 0, .int .i64 0, .slice none 0 0]), 4, 56) := by kernel_rfl

theorem made_items (n : Nat) : (madeCells #[.string ByteArray.empty, .int .i64 0, .int .i64 0, .slice none 0 0] (n * 4)).toList = flatI (List.replicate n default) := by
  induction n with
  | zero => simp [madeCells, flatI]
  | succ n ih =>
    rw [List.replicate_succ', flatI_append, ← ih]
    simp only [madeCells, Array.toList_map, Array.toList_range]
    rw [show (n + 1) * 4 = n * 4 + 4 by omega, List.range_add, List.map_append]
    congr 1
    have e : ∀ k, (n * 4 + k) % 4 = k % 4 := fun k => by omega
    simp [flatI, ItA.vals, List.range_succ, default, e]

theorem noItems (w : World) (lo g n cap : Nat) (h : w.ownsRow lo 26 4 (.slice (some ⟨g, 0, none⟩) n cap) n (flatI (List.replicate n default))) : OwnItems w lo w.heap.size (.slice (some ⟨g, 0, none⟩) n cap) n (List.replicate n default) := by
  have e : ∀ x ∈ List.replicate n (default : ItA), x = default := fun x hx => (List.mem_replicate.1 hx).2
  refine ⟨by simp, h, fun k hk => (h.lt k hk).2, fun x hx => ?_, fun x hx => ?_, ?_⟩
  · rw [e x hx]
    exact ⟨World.ownsRow_nil _ _ _ _, fun k hk => by cases hk⟩
  · rw [e x hx]
    exact .inl rfl
  · rw [List.pairwise_iff_getElem]
    intro i j hi hj _
    left
    rw [List.getElem_replicate]
    rfl

end Go.Proofs.Ytkdbcplcpcdnbaa
