/-
  Whether a reader is right hangs on what it says alone. Conditions: readers that can be read.
-/
import Derived.Test.YtelfejgpphoifaaSpecReaderOk
namespace Go.Proofs.Ytelfejgpphoifaa
open Go.RowKit
set_option maxRecDepth 100000

abbrev RCon := List Int × Int × List (List Int) × List (List Int)
def okAtC (rs gs : List (List Int)) (i : Nat) : Prop := ((rs.getD i []).length : Int) ≤ 1560 ∧ ((gs.getD i []).length : Int) ≤ 200 ∧ rs.getD i [] ∉ rs.take i
def ROkC (c : RCon) : Prop := c.1.length = 32 ∧ (0 ≤ c.2.1 ∧ c.2.1 ≤ 40) ∧ c.2.2.1.length ≤ 20 ∧ c.2.2.2.length = c.2.2.1.length ∧ ∀ i, i < c.2.2.1.length → okAtC c.2.2.1 c.2.2.2 i
noncomputable def rC (c : RCon) : Bool := @decide (ROkC c) (Classical.propDecidable _)

theorem getD_xs (rs : List RwA) (i : Nat) : (rs.map RwA.xs).getD i [] = (rs.getD i default).xs := by
  rw [List.getD_eq_getElem?_getD, List.getD_eq_getElem?_getD, List.getElem?_map]
  cases rs[i]? <;> rfl
theorem rows_len {w : World} {p : Option Addr} {n : Nat} {rs : List RwA} (h : Rows w p n rs) {i : Nat} (hi : i < n) : (rs.getD i default).xs.length = (rs.getD i default).n := (h.ok _ (getD_memR (by rw [h.len]; exact hi))).len

theorem okAtC_iff {w : World} {x : RdA} (ok : x.Ok w) (hm : x.m = x.n) {i : Nat} (hi : i < x.n) : okAtC (x.seen.map RwA.xs) (x.got.map RwA.xs) i ↔ okAtR x.seen x.got i := by
  unfold okAtC okAtR
  rw [getD_xs, getD_xs, rows_len ok.seen hi, rows_len ok.got (by omega), ← List.map_take]
theorem ROkC_iff {w : World} {x : RdA} (ok : x.Ok w) : ROkC x.con ↔ ROk x := by
  have l1 : (x.seen.map RwA.xs).length = x.n := by rw [List.length_map, ok.seen.len]
  have l2 : (x.got.map RwA.xs).length = x.m := by rw [List.length_map, ok.got.len]
  unfold ROkC ROk RdA.con
  dsimp only
  rw [l1, l2, ok.seed.len]
  refine ⟨fun ⟨h1, h2, h3, h4, h5⟩ => ⟨h1, h2, h3, h4, fun i hi => (okAtC_iff ok h4 hi).1 (h5 i hi)⟩, fun ⟨h1, h2, h3, h4, h5⟩ => ⟨h1, h2, h3, h4, fun i hi => (okAtC_iff ok h4 hi).2 (h5 i hi)⟩⟩
theorem rB_con {w : World} {x : RdA} (ok : x.Ok w) : rB x = rC x.con := by
  by_cases h : ROk x
  · rw [rB_true h]; unfold rC; exact (@decide_eq_true _ (Classical.propDecidable _) ((ROkC_iff ok).2 h)).symm
  · rw [rB_false h]; unfold rC; exact (@decide_eq_false _ (Classical.propDecidable _) fun k => h ((ROkC_iff ok).1 k)).symm

end Go.Proofs.Ytelfejgpphoifaa
