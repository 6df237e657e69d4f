/-
  What the draws of bytes, of one of some texts or numbers, and of yes or no do, whatever cursor they are given; conditions: at most 255 bytes, at most 256 to pick from.
-/
import Derived.Test.YtoolfgbghhbjmacCur
namespace Go.Proofs.Ytoolfgbghhbjmac
open Go.RowKit

theorem Cur.lt {w : World} {a : Nat} {p : Option Addr} {n c : Nat} {xs : List Int} (h : Cur w a p n c xs) : a < w.heap.size := by
  obtain ⟨i, k, ha, _⟩ := h
  exact (Array.getElem?_eq_some_iff.1 ha).1
theorem Cur.code_lt {w : World} {a : Nat} {p : Option Addr} {n c : Nat} {xs : List Int} (h : Cur w a p n c xs) : ∀ b o, p = some ⟨b, o, none⟩ → 0 < n → b < w.heap.size := by
  obtain ⟨i, k, ha, _, _, _, _, hb, _⟩ := h
  intro b o e hn
  obtain ⟨b', o', e', hc⟩ := hb hn
  rw [e] at e'
  obtain ⟨rfl, rfl⟩ : b = b' ∧ o = o' := by simpa using e'
  exact World.block_lt_of_cell? w ⟨b, o + 0, none⟩ (hc 0 hn)
theorem Cur.below {w1 w2 : World} {B a : Nat} {p : Option Addr} {n c : Nat} {xs : List Int} (h : Cur w1 a p n c xs) (hb : Below B w1 w2) (ha : a < B) (hp : ∀ b o, p = some ⟨b, o, none⟩ → 0 < n → b < B) : Cur w2 a p n c xs := by
  obtain ⟨i, k, h1, h2, h3, h4, h5, h6, h7⟩ := h
  refine ⟨i, k, by rw [hb.block a ha]; exact h1, h2, h3, h4, h5, ?_, h7⟩
  intro hn
  obtain ⟨b, o, rfl, hc⟩ := h6 hn
  refine ⟨b, o, rfl, fun j hj => ?_⟩
  rw [hb.cell (p := ⟨b, o + j, none⟩) (hp b o rfl hn)]
  exact hc j hj

/-- A row that lies behind the cursor stays as it was while the cursor is moved on. -/
theorem owns_cur {w w' : World} {a base e size : Nat} {v : Value} {n : Nat} {xs : List Value} (h : w.ownsRow base e size v n xs) (hg : w.grownBy w' (some a)) (ha : a < base) : w'.ownsRow base e size v n xs := by
  refine h.kept hg ?_
  rcases hv : v.ownBlock with _ | k
  · exact .inl rfl
  · right
    have := (h.lt k hv).1
    simp
    omega

theorem grown_below {w w2 w3 : World} {row : Option Nat} (h : w.grownBy w2 row) (hb : Below w.heap.size w2 w3) : w.grownBy w3 row :=
  ⟨hb.os.trans h.os, hb.tape.trans h.tape, hb.output.trans h.output, Nat.le_trans h.size hb.size, fun k hk hr => (hb.block k hk).trans (h.block k hk hr)⟩

theorem below_cur {w w1 w2 : World} {a : Nat} (h : Below w.heap.size w w1) (hg : w1.grownBy w2 (some a)) (ha : w.heap.size ≤ a) : Below w.heap.size w w2 :=
  h.grown hg h.size fun k hk => by simp at hk; omega

theorem Own.mono {e : Nat} {w : World} {lo lo' hi hi' : Nat} {v : Value} {n : Nat} {xs : List Int} (h : Own e w lo hi v n xs) (hl : lo' ≤ lo) (hh : hi ≤ hi') : Own e w lo' hi' v n xs :=
  ⟨owns_mono h.1 hl, fun k hk => Nat.lt_of_lt_of_le (h.2 k hk) hh⟩

/-- A row behind the cursor, while the cursor is moved on. -/
theorem Own.cur {e : Nat} {w w' : World} {a lo hi : Nat} {v : Value} {n : Nat} {xs : List Int} (h : Own e w lo hi v n xs) (hg : w.grownBy w' (some a)) (ha : a < lo) : Own e w' lo hi v n xs := ⟨owns_cur h.1 hg ha, h.2⟩

theorem l1PickInt_any (a : Nat) (p : Option Addr) (n c : Nat) (xs : List Int) (g L : Nat) (zs : List Int) (w : World) (hL : 1 ≤ L) (hL2 : L ≤ 256) (hz : zs.length = L) (hcells : ∀ i, i < L → w.cell? ⟨g, i, none⟩ = some (.int .i64 (zs.getD i 0))) (hg : g ≠ a) (hcur : Cur w a p n c xs) :
    Calls Try.prog 42 #[.pointer (some ⟨a, 0, none⟩), .slice (some ⟨g, 0, none⟩) L L] w fun e w' => ∃ z ∈ zs, e = .returned (.int .i64 z) ∧ Cur w' a p n c xs ∧ w.grownBy w' (some a) := by
  go_enter Try.func42, Try.ntmps42
  go_wp2_with (fail)
  refine (l1Below_any a p n c xs (L : Int) _ (by omega) (by omega) hcur).mono ?_
  rintro e w1 ⟨x, rfl, hx0, hx1, hc1, g1⟩
  obtain ⟨k, hk⟩ : ∃ k : Nat, x = (k : Int) := ⟨x.toNat, by omega⟩
  subst hk
  have hck : w1.cell? ⟨g, k, none⟩ = some (.int .i64 (zs.getD k 0)) := g1.cell (hcells k (by omega)) (by simpa using hg)
  obtain ⟨u, hu⟩ : ∃ u, u = zs.getD k 0 := ⟨_, rfl⟩
  rw [← hu] at hck
  have hmem : Hid (u ∈ zs) := by
    show u ∈ zs
    rw [hu]
    simp [List.getElem?_eq_getElem (show k < zs.length by omega)]
  clear hu
  go_wp2_with (fail)
  go_ret
  exact ⟨u, hmem.out, rfl, hc1, g1⟩

/-- The cells of a list that is written out. -/
theorem lit_ints (w : World) (zs : List Int) (t : TypeId) : ∀ i, i < zs.length → (w.alloc (.cells (zs.map (Value.int .i64)).toArray t)).cell? ⟨w.heap.size, i, none⟩ = some (.int .i64 (zs.getD i 0)) := by
  intro i hi
  rw [cell_of_row _ _ _ _ _ _ (heap_alloc_new w _)]
  simp [List.getElem?_eq_getElem hi]
theorem lit_strs (w : World) (ts : List ByteArray) (t : TypeId) : ∀ i, i < ts.length → (w.alloc (.cells (ts.map Value.string).toArray t)).cell? ⟨w.heap.size, i, none⟩ = some (.string (ts.getD i ByteArray.empty)) := by
  intro i hi
  rw [cell_of_row _ _ _ _ _ _ (heap_alloc_new w _)]
  simp [List.getElem?_eq_getElem hi]

end Go.Proofs.Ytoolfgbghhbjmac
