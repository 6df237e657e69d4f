/-
  Groups of four signs: rows of four cells, and the signs of at most three bytes. Conditions: each fact's own.
-/
import Derived.Test.YtkkaipeklbhliaaGreatAny
import Derived.Test.YtkkaipeklbhliaaSigns
import Derived.Laws.CopyOwn
import Derived.Deep.MidRow
import Derived.Deep.WholeRow
import Derived.BigRegion
namespace Go.Proofs.Ytkkaipeklbhliaa
open Go.RowKit
set_option maxRecDepth 100000

def u8G (l : List Int) : List Value := l.map (Value.int .u8)
theorem u8G_length (l : List Int) : (u8G l).length = l.length := by simp [u8G]
theorem u8G_get (l : List Int) (i : Nat) (h : i < l.length) : (u8G l)[i]? = some (.int .u8 (l.getD i 0)) := by simp [u8G, List.getElem?_eq_getElem h]
theorem u8G_one (l : List Int) : ∀ v ∈ u8G l, v.oneCell' = true := by
  intro v hv
  simp only [u8G, List.mem_map] at hv
  obtain ⟨n, _, rfl⟩ := hv
  rfl
/-- Four signs in a block g of their own. -/
def GrpIs (w : World) (lo g : Nat) (S : List Int) : Prop := S.length = 4 ∧ w.ownsRow lo 40 1 (.slice (some ⟨g, 0, none⟩) 4 4) 4 (u8G S)
section
variable {w w' : World} {lo lo' g r : Nat} {S S' : List Int}
theorem GrpIs.cell (h : GrpIs w lo g S) (i : Nat) (hi : i < 4) : w.cell? ⟨g, i, none⟩ = some (.int .u8 (S.getD i 0)) := by
  rw [h.2.cellAt i (by omega), u8G_get _ _ (by have := h.1; omega)]
theorem GrpIs.frozen (h : GrpIs w lo g S) (i : Nat) : w.frozen? ⟨g, i, none⟩ = false := h.2.frozenAt i
theorem GrpIs.lt (h : GrpIs w lo g S) : lo ≤ g ∧ g < w.heap.size := h.2.lt g rfl
theorem GrpIs.below (h : GrpIs w lo g S) (hb : Below w.heap.size w w') : GrpIs w' lo g S := ⟨h.1, owns_below h.2 hb⟩
theorem GrpIs.below' {B : Nat} (h : GrpIs w lo g S) (hb : Below B w w') (hB : g < B) : GrpIs w' lo g S := ⟨h.1, owns_below' h.2 hb (fun k hk => by simp only [Value.ownBlock, Option.some.injEq] at hk; omega)⟩
theorem GrpIs.mono (h : GrpIs w lo g S) (hb : lo' ≤ lo) : GrpIs w lo' g S := ⟨h.1, owns_mono h.2 hb⟩
theorem GrpIs.kept (h : GrpIs w lo g S) (hg : w.grownBy w' (some r)) (hne : g ≠ r) : GrpIs w' lo g S :=
  ⟨h.1, h.2.kept hg (.inr (by simp [Value.ownBlock]; exact fun e => hne e))⟩
theorem GrpIs.set (h : GrpIs w lo g S) (k : Nat) (u : Int) : GrpIs (w.setCell ⟨g, k, none⟩ (.int .u8 u)) lo g (S.set k u) ∧ w.grownBy (w.setCell ⟨g, k, none⟩ (.int .u8 u)) (some g) := by
  have st := h.2.stored k (.int .u8 u)
  have e : (u8G S).set k (.int .u8 u) = u8G (S.set k u) := by simp [u8G, List.map_set]
  rw [e] at st
  exact ⟨⟨by simpa using h.1, st.1⟩, st.2⟩
theorem GrpIs.made (w : World) (a b c d : Int) : GrpIs (w.alloc (.cells #[.int .u8 a, .int .u8 b, .int .u8 c, .int .u8 d] 40)) w.heap.size w.heap.size [a, b, c, d] :=
  ⟨rfl, rfl, .inr ⟨w.heap.size, 4, _, rfl, Nat.le_refl _, heap_alloc_new w _, Nat.le_refl _, by unfold maxLen; omega, rfl, rfl⟩⟩
theorem GrpIs.madeL (w : World) (hS : S.length = 4) : GrpIs (w.alloc (.cells (u8G S).toArray 40)) w.heap.size w.heap.size S := by
  match S, hS with
  | [a, b, c, d], _ => exact GrpIs.made w a b c d
theorem rowPut {lo e g n c : Nat} (vs : List Value) : ∀ (o : Nat) (w : World) (xs : List Value), o + vs.length = n → xs.length = n → w.ownsRow lo e 1 (.slice (some ⟨g, 0, none⟩) n c) n xs →
    (w.setCells g o vs).ownsRow lo e 1 (.slice (some ⟨g, 0, none⟩) n c) n (xs.take o ++ vs) ∧ w.grownBy (w.setCells g o vs) (some g) := by
  induction vs with
  | nil =>
    intro o w xs h1 h2 h
    rw [List.append_nil, List.take_of_length_le (by simp at h1; omega)]
    exact ⟨h, World.grownBy.refl _ _⟩
  | cons v r ih =>
    intro o w xs h1 h2 h
    simp only [List.length_cons] at h1
    have hs := h.stored o v
    have k := ih (o + 1) _ _ (by omega) (by simpa using h2) hs.1
    refine ⟨?_, grown_trans hs.2 k.2⟩
    have e : (xs.set o v).take (o + 1) ++ r = xs.take o ++ v :: r := by
      rw [List.take_add_one, List.take_set_of_le (Nat.le_refl _)]
      simp [List.getElem?_set_self (show o < xs.length by omega)]
    rw [← e]
    exact k.1
theorem GrpIs.put (h : GrpIs w lo g S) (h' : S'.length = 4) : GrpIs (w.setCells g 0 (u8G S')) lo g S' ∧ w.grownBy (w.setCells g 0 (u8G S')) (some g) := by
  have k := rowPut (u8G S') 0 w (u8G S) (by rw [u8G_length]; omega) (by rw [u8G_length, h.1]) h.2
  exact ⟨⟨h', by simpa using k.1⟩, k.2⟩
theorem GrpIs.range (h : GrpIs w lo g S) : w.rangeAt g 0 (u8G S) := by
  intro j v hv
  have hj : j < 4 := by have := (List.getElem?_eq_some_iff.1 hv).1; rw [u8G_length, h.1] at this; exact this
  rw [Nat.zero_add, h.2.cellAt j (by omega), hv]
theorem GrpIs.there (h : GrpIs w lo g S) : w.there g 0 4 := by
  intro j hj
  rw [Nat.zero_add, h.cell j hj]
  exact ⟨rfl, h.frozen j⟩
theorem GrpIs.bytes (h : GrpIs w lo g S) (n : Nat) (hn : n ≤ 4) : BytesIn w (some ⟨g, 0, none⟩) n S := by
  intro _
  refine ⟨g, 0, rfl, fun i hi => ?_⟩
  rw [Nat.zero_add]
  exact h.cell i (by omega)
end
theorem infoG : (Try.prog.info? 40).map (fun i => (i.zero, i.size)) = some (some (.agg (u8G [0, 0, 0, 0]).toArray), 4) := by kernel_rfl
theorem sizeG {S : List Int} (h : S.length = 4) : (Try.prog.info? 40).map (·.size) = some (u8G S).length := by
  rw [u8G_length, h]
  have := infoG
  revert this
  cases Try.prog.info? 40 with
  | none => intro h; simp at h
  | some i => intro h; simp at h; simp [h.2]

theorem sx_lit (i : Int) (h0 : 0 ≤ i) (h1 : i < 64) (pf : i.toNat < (ByteArray.mk #[65, 66, 67, 68, 69, 70, 71, 72, 73, 74, 75, 76, 77, 78, 79, 80, 81, 82, 83, 84, 85, 86, 87, 88, 89, 90, 97, 98, 99, 100, 101, 102, 103, 104, 105, 106, 107, 108, 109, 110, 111, 112, 113, 114, 115, 116, 117, 118, 119, 120, 121, 122, 48, 49, 50, 51, 52, 53, 54, 55, 56, 57, 45, 95]).size) : (((ByteArray.mk #[65, 66, 67, 68, 69, 70, 71, 72, 73, 74, 75, 76, 77, 78, 79, 80, 81, 82, 83, 84, 85, 86, 87, 88, 89, 90, 97, 98, 99, 100, 101, 102, 103, 104, 105, 106, 107, 108, 109, 110, 111, 112, 113, 114, 115, 116, 117, 118, 119, 120, 121, 122, 48, 49, 50, 51, 52, 53, 54, 55, 56, 57, 45, 95])[i.toNat]'pf).toNat : Int) = sx i := sx_at i h0 h1 pf
/-- The first k signs of a group of bytes, filled up with 0. -/
def gP (xs : List Int) (k : Nat) : List Int := (List.range 4).map fun i => if i < k then sx (sixD xs i) else 0
theorem gP_length (xs : List Int) (k : Nat) : (gP xs k).length = 4 := by simp [gP]
theorem gP_zero (xs : List Int) : gP xs 0 = [0, 0, 0, 0] := by simp [gP]; decide
theorem gP_set (xs : List Int) (k : Nat) (_ : k < 4) : (gP xs k).set k (sx (sixD xs k)) = gP xs (k + 1) := by
  apply List.ext_getElem
  · simp [gP]
  · intro i h1 h2
    simp [gP] at h1 h2 ⊢
    rw [List.getElem_set]
    split
    · next e => subst e; simp
    · next e =>
      simp
      by_cases hi : i < k
      · rw [if_pos hi, if_pos (by omega)]
      · rw [if_neg hi, if_neg (by omega)]
/-- Three bytes, filled up. -/
def pad3 (xs : List Int) : List Int := [xs.getD 0 0, xs.getD 1 0, xs.getD 2 0]
theorem pad3_lt {xs : List Int} (hr : ∀ x ∈ xs, 0 ≤ x ∧ x < 256) : ∀ x ∈ pad3 xs, 0 ≤ x ∧ x < 256 := by
  intro x hx
  simp only [pad3, List.mem_cons, List.not_mem_nil, or_false] at hx
  rcases hx with rfl | rfl | rfl <;> exact getD_byte hr _
theorem pad3_splice {xs : List Int} (h : xs.length ≤ 3) : splice [Value.int .u8 0, .int .u8 0, .int .u8 0] 0 (xs.map (Value.int .u8)) = (pad3 xs).map (Value.int .u8) := by
  match xs, h with
  | [], _ => rfl
  | [a], _ => rfl
  | [a, b], _ => rfl
  | [a, b, c], _ => rfl
theorem cells_bytes {w : World} {g t n : Nat} {xs : List Int} (h : w.heap[g]? = some (.cells (xs.map (Value.int .u8)).toArray t (0, 0))) (hx : xs.length = n) : BytesIn w (some ⟨g, 0, none⟩) n xs := by
  intro _
  refine ⟨g, 0, rfl, fun i hi => ?_⟩
  rw [Nat.zero_add, cell_of_row _ _ _ _ _ _ h]
  simp [List.getElem?_eq_getElem (show i < xs.length by omega)]
theorem gN_pad {xs : List Int} (hr : ∀ x ∈ xs, 0 ≤ x ∧ x < 256) : ((gN (pad3 xs) : Nat) : Int) = xs.getD 0 0 * 65536 + xs.getD 1 0 * 256 + xs.getD 2 0 := by
  have a := getD_byte hr 0
  have b := getD_byte hr 1
  have c := getD_byte hr 2
  simp only [gN, pad3, List.foldl_cons, List.foldl_nil]
  omega
section
variable {xs : List Int} {B : Int} (hr : ∀ x ∈ xs, 0 ≤ x ∧ x < 256) (hB : B = xs.getD 0 0 * 65536 + xs.getD 1 0 * 256 + xs.getD 2 0)
include hr hB
theorem six_at0 : B / 262144 % 64 = sixD xs 0 := by
  have a := getD_byte hr 0
  have b := getD_byte hr 1
  have c := getD_byte hr 2
  have : sixD xs 0 = xs.getD 0 0 / 4 := sixD0 xs 0
  rw [this]; omega
theorem six_at1 : B / 4096 % 64 = sixD xs 1 := by
  have a := getD_byte hr 0
  have b := getD_byte hr 1
  have c := getD_byte hr 2
  have : sixD xs 1 = xs.getD 0 0 % 4 * 16 + xs.getD 1 0 / 16 := sixD1 xs 0
  rw [this]; omega
theorem six_at2 : B / 64 % 64 = sixD xs 2 := by
  have a := getD_byte hr 0
  have b := getD_byte hr 1
  have c := getD_byte hr 2
  have : sixD xs 2 = xs.getD 1 0 % 16 * 4 + xs.getD 2 0 / 64 := sixD2 xs 0
  rw [this]; omega
theorem six_at3 : B % 64 = sixD xs 3 := by
  have a := getD_byte hr 0
  have b := getD_byte hr 1
  have c := getD_byte hr 2
  have : sixD xs 3 = xs.getD 2 0 % 64 := sixD3 xs 0
  rw [this]; omega
end

end Go.Proofs.Ytkkaipeklbhliaa
