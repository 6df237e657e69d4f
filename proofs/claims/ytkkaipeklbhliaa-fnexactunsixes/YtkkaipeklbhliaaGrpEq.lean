/-
  Two groups of four signs, compared whole. Conditions: four signs each.
-/
import Derived.Test.YtkkaipeklbhliaaGroupMath
import Derived.ChangeKeysEq
namespace Go.Proofs.Ytkkaipeklbhliaa
open Go.RowKit
set_option maxRecDepth 100000

theorem eqItems_grp {P : Program} (w : World) (d : Nat) {e : TypeId} (he : P.underlying e = some (.int .u8)) (hc : P.cellsOf e = 1) (hag : ∀ w, (isAgg e).run P w = .ok false w) (xs ys : List Int) : ∀ (is : List Nat), (∀ i ∈ is, i < xs.length ∧ i < ys.length) →
    (Op.eqItems (d + 1) e (P.cellsOf e) (u8G xs).toArray (u8G ys).toArray is).run P w = .ok (is.all fun i => xs.getD i 0 == ys.getD i 0) w
  | [], _ => by simp [Op.eqItems]
  | i :: is, h => by
    have h1 := h i (by simp)
    have p1 : ∀ zs : List Int, i < zs.length → (part e (u8G zs).toArray (i * 1)).run P w = .ok (.int .u8 (zs.getD i 0)) w := by
      intro zs hz
      simp [part, hag, u8G, List.getElem?_eq_getElem hz]
    have ih := eqItems_grp w d he hc hag xs ys is (fun j hj => h j (by simp [hj]))
    rw [hc] at ih ⊢
    simp only [Op.eqItems, Sem.run_bind, p1 xs h1.1, p1 ys h1.2, Result.andThen_ok, run_equalIn_int w d e .u8 .u8 _ _ he, List.all_cons]
    simp only [List.getD_eq_getElem?_getD] at ih ⊢
    by_cases hq : xs[i]?.getD 0 = ys[i]?.getD 0
    · simp [hq, ih]
    · simp [hq]

theorem grp_all {xs ys : List Int} {n : Nat} (hx : xs.length = n) (hy : ys.length = n) : ((List.range n).all fun i => xs.getD i 0 == ys.getD i 0) = decide (xs = ys) := by
  by_cases h : xs = ys
  · subst h
    simp
  · rw [decide_eq_false h]
    rw [Bool.eq_false_iff]
    intro hall
    apply h
    apply List.ext_getElem (by omega)
    intro i h1 h2
    simp only [List.all_eq_true, List.mem_range, beq_iff_eq] at hall
    have := hall i (by omega)
    simpa [List.getElem?_eq_getElem h1, List.getElem?_eq_getElem h2] using this

theorem grpEq (xs ys : List Int) (hx : xs.length = 4) (hy : ys.length = 4) (w : World) : (Op.equalIn 10000 40 (.agg (u8G xs).toArray) (.agg (u8G ys).toArray)).run Try.prog w = .ok (decide (xs = ys)) w := by
  obtain ⟨i0, hi, _, hz1, _⟩ := info_parts infoByte
  have hc : Try.prog.cellsOf 5 = 1 := by kernel_rfl
  rw [show (10000 : Nat) = 9998 + 1 + 1 from rfl, run_equalIn_array w (9998 + 1) _ _ Try.underlying40 hi, eqItems_grp w 9998 Try.underlying5 hc (fun w => by simp [isAgg, run_underlying Try.underlying5]) xs ys _ (fun i hi => by rw [List.mem_range] at hi; omega), grp_all hx hy]

end Go.Proofs.Ytkkaipeklbhliaa
