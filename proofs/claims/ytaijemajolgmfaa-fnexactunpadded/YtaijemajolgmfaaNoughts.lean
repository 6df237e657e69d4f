/-
  'append(b, make([]byte, k)...)' of a row that the call owns: k bytes 0 behind it. Condition: not too many.
-/
import Derived.Test.YtaijemajolgmfaaConcat
import Derived.Lib.AppendZerosOnto
namespace Go.Proofs.Ytaijemajolgmfaa
open Go.RowKit

theorem noughts (k : Nat) : Builtin.zeroCells (Value.cells (.int .u8 0)) k = ((List.replicate k (0 : Int)).map (Value.int .u8)).toArray := by
  apply Array.ext
  · simp [size_zeroCells, Value.cells]
  · intro i h1 h2
    simp [Builtin.zeroCells, Value.cells, Nat.mod_one]

theorem run_append_noughts {P : Program} {e : TypeId} {i : TypeInfo} {base n cq k : Nat} {w : World} {q : Option Addr} {xs : List Int} (t tn ty : TypeId) (hi : P.info? e = some i) (hz : i.zero = some (.int .u8 0)) (hsize : i.size = 1) (hby : i.bytes = 1)
    (ht : P.underlying t = some (.slice e)) (htn : P.underlying tn = some (.int .i64)) (hown : w.ownsRow base e 1 (.slice q n cq) n (xs.map (Value.int .u8))) (hk : n + k ≤ 1099511627776) (hbase : base ≤ w.heap.size) :
    ∃ p' c' w', (Builtin.append_ #[t, tn] ty #[.slice q n cq, .int .i64 k]).run P w = .ok (.slice p' (n + k) c') w' ∧ w'.ownsRow base e 1 (.slice p' (n + k) c') (n + k) ((xs ++ List.replicate k 0).map (Value.int .u8)) ∧ Below base w w' := by
  have hcap := owns_cap hown
  have hlx : xs.length = n := owns_len hown
  have hw : IntKind.i64.wrap (k : Int) = k := by rw [IntKind.wrap_i64]; omega
  have hneg : ¬ ((k : Int) < 0) := by omega
  have h48 : ¬ (281474976710656 < (k : Int)) := by omega
  rcases Nat.eq_zero_or_pos k with h0 | h0
  · subst h0
    refine ⟨q, cq, w, ?_, by simpa using hown, Below.refl _ _⟩
    cases q <;> simp [Builtin.append_, run_underlying ht, run_underlying htn, sizeOf, typeInfo, hi, hby, asInt, asIntOf, IntKind.wrap_i64, hcap, storeCells]
  · by_cases hroom : n + k ≤ cq
    · rcases hown.2 with ⟨hv, hn0⟩ | ⟨g, cap, cur, hv, hbg, hg, hnc, hcm, hcs, htake⟩
      · simp only [Value.slice.injEq] at hv
        omega
      · simp only [Value.slice.injEq] at hv
        obtain ⟨rfl, _, rfl⟩ := hv
        have hst := run_storeCells_at P g n e ((List.replicate k (0 : Int)).map (Value.int .u8)) 0 cur w hg (by simp; omega) (ints_oneCell _ _)
        simp only [Nat.add_zero] at hst
        refine ⟨some ⟨g, 0, none⟩, cq, w.setRow g (cur.toList.take n ++ (List.replicate k (0 : Int)).map (Value.int .u8) ++ cur.toList.drop (n + ((List.replicate k (0 : Int)).map (Value.int .u8)).length)).toArray, ?_, ⟨by simp; omega, .inr ⟨g, cq, _, rfl, hbg, setRow_heap w g cur _ e _ hg, hroom, hcm, ?_, ?_⟩⟩, ⟨rfl, rfl, rfl, by simp, fun j hj => setRow_other w g j _ (by omega)⟩⟩
        · have hns : ¬ (k = 0) := by omega
          simp only [Builtin.append_]
          simp [run_underlying ht, run_underlying htn, sizeOf, typeInfo, zeroValue, hi, hz, hby, hsize, asInt, asIntOf, hw, hneg, h48, hroom, hns, Addr.add_lit]
          rw [noughts]
          simp at hst ⊢
          rw [hst]
          rfl
        · simp only [List.size_toArray, List.length_append, List.length_take, List.length_drop, List.length_map, List.length_replicate, Array.length_toList]
          omega
        · simp only [Nat.mul_one] at htake ⊢
          rw [htake, List.map_append]
          have : (xs.map (Value.int .u8) ++ (List.replicate k (0 : Int)).map (Value.int .u8)).length = n + k := by simp [hlx]
          rw [← this]
          exact List.take_left
    · have hold : (Builtin.firstCells i.size n (.slice q n cq)).run P w.drew = .ok (xs.map (Value.int .u8)).toArray w.drew := by
        cases q with
        | none =>
          have hn0 : n = 0 := by
            rcases hown.2 with ⟨hv, hn0⟩ | ⟨g, cap, cur, hv, _⟩
            · exact hn0
            · simp at hv
          subst hn0
          obtain rfl : xs = [] := List.eq_nil_of_length_eq_zero hlx
          simp [Builtin.firstCells]
        | some a =>
          obtain ⟨g, hg⟩ : ∃ g, some a = some ⟨g, 0, none⟩ := by
            rcases hown.2 with ⟨hv, hn0⟩ | ⟨g, cap, cur, hv, _⟩
            · simp at hv
            · simp only [Value.slice.injEq] at hv
              exact ⟨g, hv.1⟩
          cases hg
          exact run_firstCells_some (P := P) w.drew i.size n ⟨g, 0, none⟩ n cq _ (by simp [hsize, hlx]) (hown.drew.cells (g := g) rfl)
      have hr := Lib.run_append_grow_zeros (P := P) w t tn ty e i (.int .u8 0) .i64 .i64 ht htn hi hz q n cq _ hold k h0 (by omega) (by omega) (by omega) (by rw [hby]; omega) (growslice_fits (by omega) (by rw [hby]; omega))
      have hge := grownCap_ge w (n + k) cq e
      have hcm : grownCap w (n + k) cq e ≤ maxLen := grownCap_le_maxLen w (n + k) cq e (by unfold maxLen; omega)
      generalize grownCap w (n + k) cq e = G at hr hge hcm
      refine ⟨_, _, _, hr, ⟨by simp; omega, .inr ⟨w.heap.size, _, _, rfl, hbase, heap_alloc_new w.drew _, hge, hcm, ?_, ?_⟩⟩, (Below.refl _ _).drew.alloc (by simpa using hbase) _⟩
      · simp [size_zeroCells, Value.cells, hlx]
        omega
      · rw [noughts, noughts]
        simp only [Array.toList_append, List.map_append, Nat.mul_one]
        have : (xs.map (Value.int .u8) ++ (List.replicate k (0 : Int)).map (Value.int .u8)).length = n + k := by simp [hlx]
        rw [← this]
        exact List.take_left

end Go.Proofs.Ytaijemajolgmfaa
