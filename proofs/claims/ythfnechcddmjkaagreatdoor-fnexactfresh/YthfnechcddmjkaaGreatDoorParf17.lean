/-
  slices.Concat of rows that are all empty; of two rows. Condition: bytes that lie there.
-/
import Derived.Test.YthfnechcddmjkaaGreatDoorParf12
import Derived.Test.YthfnechcddmjkaaGreatDoorParf03
namespace Go.Proofs.YthfnechcddmjkaaGreatDoor
open Go.RowKit
set_option maxRecDepth 100000

set_option maxHeartbeats 2000000 in
theorem growNil_zero (w : World) :
    Calls Tryz.prog 86 #[.slice none 0 0, .int .i64 0] w fun e w' => e = .returned (.slice none 0 0) ∧ w = w' := by
  go_enter Tryz.func86, Tryz.ntmps86
  go_wp2_with (fail)
  go_ret
  exact ⟨rfl, rfl⟩

set_option maxHeartbeats 4000000 in
theorem concat_zero (gr m : Nat) (Pf : Nat → Option Addr) (nf cf : Nat → Nat) (xf : Nat → List Int) (w : World) (hm : m ≤ 1000) (hcell : ∀ k, k < m → w.cell? ⟨gr, k, none⟩ = some (.slice (Pf k) (nf k) (cf k)))
    (hlen : ∀ k, k < m → (xf k).length = nf k) (hin : ∀ k, k < m → BytesIn w (Pf k) (nf k) (xf k)) (h0 : sumN nf m = 0) :
    Calls Tryz.prog 47 #[.slice (some ⟨gr, 0, none⟩) m m] w fun e w' => ∃ p c, e = .returned (.slice p (sumN nf m) c) ∧ Own 5 w' w.heap.size w'.heap.size (.slice p (sumN nf m) c) (sumN nf m) (catL xf m) ∧ Below w.heap.size w w' := by
  obtain ⟨i0, hi, hz0, hz1, hz2⟩ := info_parts infoByte
  have hs : sumN nf m ≤ 1073741824 := by omega
  replace h0 : Hid (sumN nf m = 0) := h0
  have HC : Hid (∀ k, k < m → w.cell? ⟨gr, k, none⟩ = some (.slice (Pf k) (nf k) (cf k))) := hcell
  have HL : Hid (∀ k, k < m → (xf k).length = nf k) := hlen
  have HI : Hid (∀ k, k < m → BytesIn w (Pf k) (nf k) (xf k)) := hin
  clear hcell hlen hin
  go_enter Tryz.func47, Tryz.ntmps47
  go_wp2
  go_loop [3, 11] (fun v i => ∃ k s : Nat, k ≤ m ∧ i = .int .i64 k ∧ v = .int .i64 s ∧ Hid (s = sumN nf k)) (fun _ i => m - (intOf i).toNat)
  case atStart => exact ⟨0, 0, by omega, rfl, rfl, rfl⟩
  case round =>
    obtain ⟨k, s, hk, rfl, rfl, hsk⟩ := hrel
    by_cases hlt : k < m
    · have hc := HC.out k hlt
      have hle : s + nf k ≤ 1073741824 := by rw [hsk.out]; exact Nat.le_trans (sumN_le nf (k := k + 1) hlt) hs
      have HN : Hid (s + nf k = sumN nf (k + 1)) := by rw [hsk.out]; rfl
      generalize nf k = n1 at hc hle HN
      generalize Pf k = p1 at hc
      generalize cf k = c1 at hc
      have hneg : ¬ ((s : Int) + (n1 : Int) < 0) := by omega
      go_wp2
      go_round
      case rel => exact ⟨k + 1, s + n1, by omega, by go_num, by go_num, HN⟩
      case measure => simp [intOf]; omega
    · obtain rfl : k = m := by omega
      obtain rfl : s = sumN nf k := hsk.out
      clear hsk
      have HNn : Hid (sumN nf k = 0) := h0
      simp only [h0.out]
      go_wp2_with (fail)
      refine (growNil_zero _).mono ?_
      rintro e w1 ⟨rfl, rfl⟩
      have ho1 : w.ownsRow w.heap.size 5 1 (.slice none 0 0) 0 (([] : List Int).map (Value.int .u8)) := ⟨rfl, .inl ⟨rfl, rfl⟩⟩
      have b1 := Below.refl w.heap.size w
      go_wp2_with (fail)
      go_loopw [6, 27] (fun v i wr => ∃ j s : Nat, j ≤ k ∧ i = .int .i64 j ∧ Hid (s = sumN nf j) ∧ wr.ownsRow w.heap.size 5 1 v s ((catL xf j).map (Value.int .u8)) ∧ Below w.heap.size w wr)
        (fun _ i _ => k - (intOf i).toNat)
      case atStart => exact ⟨0, 0, by omega, rfl, rfl, ho1, b1⟩
      case round =>
        clear ho1 b1
        obtain ⟨j, s, hj, rfl, hsj, hown, hbel⟩ := hrel
        have hsz := hbel.size
        by_cases hlt2 : j < k
        · have hc := HC.out j hlt2
          have hgr : gr < w.heap.size := World.block_lt_of_cell? w ⟨gr, j, none⟩ hc
          have hc2 := (hbel.cell (p := ⟨gr, j, none⟩) hgr).trans hc
          have hle : s + nf j ≤ 0 := by rw [hsj.out, ← HNn.out]; exact sumN_le nf (k := j + 1) hlt2
          have HN : Hid (s + nf j = sumN nf (j + 1)) := by rw [hsj.out]; rfl
          have hl := HL.out j hlt2
          have hI := HI.out j hlt2
          replace hI : BytesIn wr (Pf j) (nf j) (xf j) := by
            intro hpos
            obtain ⟨bb, oo, e1, e2⟩ := hI hpos
            exact ⟨bb, oo, e1, fun i hi => (hbel.cell (p := ⟨bb, oo + i, none⟩) (World.block_lt_of_cell? w ⟨bb, oo + i, none⟩ (e2 i hi))).trans (e2 i hi)⟩
          have HX : Hid (catL xf j ++ xf j = catL xf (j + 1)) := rfl
          generalize nf j = n1 at hc hc2 hle HN hl hI
          generalize Pf j = p1 at hc hc2 hI
          generalize cf j = c1 at hc hc2
          generalize xf j = y1 at hl hI HX
          obtain ⟨q, cq, hv⟩ := owns_form hown
          subst hv
          clear hc
          go_wp2_with (at_builtin; refine list_spreadA hi hz0 hz1 hz2 (.tmp 31) (.tmp 32) 22 Tryz.underlying22 hown hI hl (by omega) (by omega) hsz (by rfl) (by rfl) (by rfl) (by rfl) ?_; intro p' cap w3 ho3 hb3; rw [HX.out] at ho3)
          go_roundw
          case rel => exact ⟨j + 1, s + n1, by omega, by go_num, HN, ho3, hbel.trans hb3⟩
          case measure => simp [intOf]; omega
        · obtain rfl : j = k := by omega
          obtain rfl : s = 0 := hsj.out.trans HNn.out
          obtain ⟨q, cq, hv⟩ := owns_form hown
          subst hv
          go_wp2
          go_ret
          rw [HNn.out]
          exact ⟨_, _, rfl, .of hown, hbel⟩

theorem concatTwo (p0 p1 : Option Addr) (n0 n1 c0 c1 : Nat) (xs0 xs1 : List Int) (w : World) (hx0 : xs0.length = n0) (hx1 : xs1.length = n1) (hs1 : n0 + n1 ≤ 1073741824) (i0 : BytesIn w p0 n0 xs0) (i1 : BytesIn w p1 n1 xs1) :
    Calls Tryz.prog 47 #[.slice (some ⟨w.heap.size, 0, none⟩) 2 2] (w.alloc (.cells #[.slice p0 n0 c0, .slice p1 n1 c1] 22)) fun e w' =>
      ∃ p' c', e = .returned (.slice p' (n0 + n1) c') ∧ Own 5 w' w.heap.size w'.heap.size (.slice p' (n0 + n1) c') (n0 + n1) (xs0 ++ xs1) ∧ Below w.heap.size w w' := by
  have ba : Below w.heap.size w (w.alloc (.cells #[.slice p0 n0 c0, .slice p1 n1 c1] 22)) := made_below _ _ (Below.refl _ _)
  have hs : sumN (fun k => match k with | 0 => n0 | _ => n1) 2 = n0 + n1 := by simp [sumN]
  have hc : catL (fun k => match k with | 0 => xs0 | _ => xs1) 2 = xs0 ++ xs1 := by simp [catL]
  have k1 : ∀ k, k < 2 → (w.alloc (.cells #[.slice p0 n0 c0, .slice p1 n1 c1] 22)).cell? ⟨w.heap.size, k, none⟩ = some (.slice ((fun k => match k with | 0 => p0 | _ => p1 : Nat → Option Addr) k) ((fun k => match k with | 0 => n0 | _ => n1 : Nat → Nat) k) ((fun k => match k with | 0 => c0 | _ => c1 : Nat → Nat) k)) := fun k hk => by
    rw [cell_of_row _ _ k _ _ _ (heap_made w _)]
    match k, hk with
    | 0, _ => rfl
    | 1, _ => rfl
  have k2 : ∀ k, k < 2 → ((fun k => match k with | 0 => xs0 | _ => xs1 : Nat → List Int) k).length = (fun k => match k with | 0 => n0 | _ => n1 : Nat → Nat) k := fun k hk => by
    match k, hk with
    | 0, _ => exact hx0
    | 1, _ => exact hx1
  have k3 : ∀ k, k < 2 → BytesIn (w.alloc (.cells #[.slice p0 n0 c0, .slice p1 n1 c1] 22)) ((fun k => match k with | 0 => p0 | _ => p1 : Nat → Option Addr) k) ((fun k => match k with | 0 => n0 | _ => n1 : Nat → Nat) k) ((fun k => match k with | 0 => xs0 | _ => xs1 : Nat → List Int) k) := fun k hk => by
    match k, hk with
    | 0, _ => exact in_below i0 ba
    | 1, _ => exact in_below i1 ba
  have h : Calls Tryz.prog 47 #[.slice (some ⟨w.heap.size, 0, none⟩) 2 2] (w.alloc (.cells #[.slice p0 n0 c0, .slice p1 n1 c1] 22)) fun e w' =>
      ∃ p' c', e = .returned (.slice p' (n0 + n1) c') ∧ Own 5 w' (w.alloc (.cells #[.slice p0 n0 c0, .slice p1 n1 c1] 22)).heap.size w'.heap.size (.slice p' (n0 + n1) c') (n0 + n1) (xs0 ++ xs1) ∧ Below (w.alloc (.cells #[.slice p0 n0 c0, .slice p1 n1 c1] 22)).heap.size (w.alloc (.cells #[.slice p0 n0 c0, .slice p1 n1 c1] 22)) w' := by
    rw [← hs, ← hc]
    rcases Nat.eq_zero_or_pos (n0 + n1) with h0 | h0
    · exact concat_zero _ 2 _ _ _ _ _ (by decide) k1 k2 k3 (hs.trans h0)
    · exact concat_any _ 2 _ _ _ _ _ (by decide) k1 k2 k3 (by rw [hs]; exact h0) (by rw [hs]; exact hs1)
  refine h.mono ?_
  rintro e w' ⟨p', c', rfl, r, b⟩
  exact ⟨p', c', rfl, ⟨owns_mono r.1 (by simp), r.2⟩, below_on ba b⟩

end Go.Proofs.YthfnechcddmjkaaGreatDoor
