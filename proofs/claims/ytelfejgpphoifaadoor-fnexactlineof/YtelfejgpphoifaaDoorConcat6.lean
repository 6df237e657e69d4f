/-
  slices.Concat of six slices of bytes. Conditions: bytes that lie there, at least one.
-/
import Derived.Test.YtelfejgpphoifaaDoorConcat
namespace Go.Proofs.YtelfejgpphoifaaDoor
open Go.RowKit
set_option maxRecDepth 100000

theorem concat6L (p0 p1 p2 p3 p4 p5 : Option Addr) (n0 n1 n2 n3 n4 n5 c0 c1 c2 c3 c4 c5 : Nat) (xs0 xs1 xs2 xs3 xs4 xs5 : List Int) (w w0 : World) (hx0 : xs0.length = n0) (hx1 : xs1.length = n1) (hx2 : xs2.length = n2) (hx3 : xs3.length = n3) (hx4 : xs4.length = n4) (hx5 : xs5.length = n5) (h0 : 0 < n0 + n1 + n2 + n3 + n4 + n5) (hs1 : n0 + n1 + n2 + n3 + n4 + n5 ≤ 1073741824) (hw : Below w.heap.size w w0)
    (i0 : BytesIn w0 p0 n0 xs0) (i1 : BytesIn w0 p1 n1 xs1) (i2 : BytesIn w0 p2 n2 xs2) (i3 : BytesIn w0 p3 n3 xs3) (i4 : BytesIn w0 p4 n4 xs4) (i5 : BytesIn w0 p5 n5 xs5) (gr : Nat) (hgr : w0.heap.size = gr) :
    Calls Tryd.prog 42 #[.slice (some ⟨gr, 0, none⟩) 6 6] (w0.alloc (.cells #[.slice p0 n0 c0, .slice p1 n1 c1, .slice p2 n2 c2, .slice p3 n3 c3, .slice p4 n4 c4, .slice p5 n5 c5] 22)) fun e w' =>
      ∃ p' c', e = .returned (.slice p' (n0 + n1 + n2 + n3 + n4 + n5) c') ∧ Own 5 w' w.heap.size w'.heap.size (.slice p' (n0 + n1 + n2 + n3 + n4 + n5) c') (n0 + n1 + n2 + n3 + n4 + n5) (xs0 ++ xs1 ++ xs2 ++ xs3 ++ xs4 ++ xs5) ∧ Below w.heap.size w w' := by
  subst hgr
  have ba : Below w0.heap.size w0 (w0.alloc (.cells #[.slice p0 n0 c0, .slice p1 n1 c1, .slice p2 n2 c2, .slice p3 n3 c3, .slice p4 n4 c4, .slice p5 n5 c5] 22)) := (Below.refl _ _).alloc (Nat.le_refl _) _
  have hs : sumN (fun k => match k with | 0 => n0 | 1 => n1 | 2 => n2 | 3 => n3 | 4 => n4 | _ => n5) 6 = n0 + n1 + n2 + n3 + n4 + n5 := by simp [sumN]
  have hc : catL (fun k => match k with | 0 => xs0 | 1 => xs1 | 2 => xs2 | 3 => xs3 | 4 => xs4 | _ => xs5) 6 = xs0 ++ xs1 ++ xs2 ++ xs3 ++ xs4 ++ xs5 := by simp [catL]
  have h := concat_any w0.heap.size 6 (fun k => match k with | 0 => p0 | 1 => p1 | 2 => p2 | 3 => p3 | 4 => p4 | _ => p5) (fun k => match k with | 0 => n0 | 1 => n1 | 2 => n2 | 3 => n3 | 4 => n4 | _ => n5) (fun k => match k with | 0 => c0 | 1 => c1 | 2 => c2 | 3 => c3 | 4 => c4 | _ => c5) (fun k => match k with | 0 => xs0 | 1 => xs1 | 2 => xs2 | 3 => xs3 | 4 => xs4 | _ => xs5)
    (w0.alloc (.cells #[.slice p0 n0 c0, .slice p1 n1 c1, .slice p2 n2 c2, .slice p3 n3 c3, .slice p4 n4 c4, .slice p5 n5 c5] 22)) (by decide)
    (fun k hk => by
      rw [cell_of_row _ _ k _ _ _ (heap_alloc_new w0 _)]
      match k, hk with
      | 0, _ => rfl
      | 1, _ => rfl
      | 2, _ => rfl
      | 3, _ => rfl
      | 4, _ => rfl
      | 5, _ => rfl)
    (fun k hk => by
      match k, hk with
      | 0, _ => exact hx0
      | 1, _ => exact hx1
      | 2, _ => exact hx2
      | 3, _ => exact hx3
      | 4, _ => exact hx4
      | 5, _ => exact hx5)
    (fun k hk => by
      match k, hk with
      | 0, _ => exact in_below i0 ba
      | 1, _ => exact in_below i1 ba
      | 2, _ => exact in_below i2 ba
      | 3, _ => exact in_below i3 ba
      | 4, _ => exact in_below i4 ba
      | 5, _ => exact in_below i5 ba)
    (by rw [hs]; omega) (by rw [hs]; omega)
  rw [hs, hc] at h
  refine h.mono ?_
  rintro e w' ⟨p', c', rfl, r, b⟩
  have hsz := hw.size
  exact ⟨p', c', rfl, ⟨owns_mono r.1 (by simp; omega), r.2⟩, below_on (below_on hw ba) b⟩

end Go.Proofs.YtelfejgpphoifaaDoor
