/-
  What slices.Grow of nil and slices.Concat of slices of ints do: a row of the call's own, empty with room; the ints of all, one behind the other. Conditions: at least one int, and at most 2^30.
-/
import Derived.Test.YtcmbglelllcbdalDoorQuarterAny
namespace Go.Proofs.YtcmbglelllcbdalDoor
open Go.RowKit

set_option maxHeartbeats 2000000 in
theorem growNilI_any (n : Nat) (w : World) (h0 : 0 < n) (hn : n ≤ 1073741824) :
    Calls Tryd.prog 63 #[.slice none 0 0, .int .i64 n] w fun e w' => ∃ p c, e = .returned (.slice p 0 c) ∧ w'.ownsRow w.heap.size 3 1 (.slice p 0 c) 0 (([] : List Int).map (Value.int .i64)) ∧ Below w.heap.size w w' := by
  obtain ⟨i0, hi, hz0, hz1, hz2⟩ := info_parts infoInt
  have h1 : ¬ ((n : Int) < 0) := by omega
  have h4 : (n : Int) > 0 := by omega
  have hrz := fun ty => Lib.run_append_nil_zeros (P := Tryd.prog) w 48 3 ty 3 i0 (.int .i64 0) .i64 .i64 Tryd.underlying48 Tryd.underlying3 hi hz0 n h0 (by omega) (by omega) (by rw [hz2]; omega)
  have hge := grownCap_ge w n 0 3
  have hcm := grownCap_le_maxLen w n 0 3 (by unfold maxLen; omega)
  generalize grownCap w n 0 3 = G at hrz hge hcm
  have hown : (w.drew.alloc (.cells (Builtin.zeroCells (Value.cells (.int .i64 0)) n ++ Builtin.zeroCells (Value.cells (.int .i64 0)) (G - n)) 3)).ownsRow w.heap.size 3 1 (.slice (some ⟨w.heap.size, 0, none⟩) 0 G) 0 (([] : List Int).map (Value.int .i64)) :=
    World.ownsRow_made w.drew _ G (by simp) hcm (by simp [size_zeroCells, Value.cells]; omega)
  have hbel : Below w.heap.size w (w.drew.alloc (.cells (Builtin.zeroCells (Value.cells (.int .i64 0)) n ++ Builtin.zeroCells (Value.cells (.int .i64 0)) (G - n)) 3)) := (Below.refl _ _).drew.alloc (by simp) _
  generalize w.drew.alloc (.cells (Builtin.zeroCells (Value.cells (.int .i64 0)) n ++ Builtin.zeroCells (Value.cells (.int .i64 0)) (G - n)) 3) = w1 at hrz hown hbel
  unfold maxLen at hcm
  go_enter Tryd.func63, Tryd.ntmps63
  go_wp2_with (at_builtin; refine Lib.wpList_append_run _ rfl _ _ _ _ rfl _ _ rfl rfl _ _ (hrz _) ?_)
  all_goals (go_ret; exact ⟨_, _, rfl, hown, hbel⟩)

set_option maxHeartbeats 4000000 in
theorem concatI_any (gr m : Nat) (Pf : Nat → Option Addr) (nf cf : Nat → Nat) (xf : Nat → List Int) (w : World) (hm : m ≤ 1000) (hcell : ∀ k, k < m → w.cell? ⟨gr, k, none⟩ = some (.slice (Pf k) (nf k) (cf k)))
    (hlen : ∀ k, k < m → (xf k).length = nf k) (hin : ∀ k, k < m → IntsIn w (Pf k) (nf k) (xf k)) (h0 : 0 < sumN nf m) (hs : sumN nf m ≤ 1073741824) :
    Calls Tryd.prog 50 #[.slice (some ⟨gr, 0, none⟩) m m] w fun e w' => ∃ p c, e = .returned (.slice p (sumN nf m) c) ∧ OwnI 3 w' w.heap.size w'.heap.size (.slice p (sumN nf m) c) (sumN nf m) (catL xf m) ∧ Below w.heap.size w w' := by
  obtain ⟨i0, hi, hz0, hz1, hz2⟩ := info_parts infoInt
  have HC : Hid (∀ k, k < m → w.cell? ⟨gr, k, none⟩ = some (.slice (Pf k) (nf k) (cf k))) := hcell
  have HL : Hid (∀ k, k < m → (xf k).length = nf k) := hlen
  have HI : Hid (∀ k, k < m → IntsIn w (Pf k) (nf k) (xf k)) := hin
  clear hcell hlen hin
  go_enter Tryd.func50, Tryd.ntmps50
  go_wp2
  go_loop [3, 11] (fun v i => ∃ k s : Nat, k ≤ m ∧ i = .int .i64 k ∧ v = .int .i64 s ∧ Hid (s = sumN nf k)) (fun _ i => m - (intOf i).toNat)
  case atStart => exact ⟨0, 0, by omega, rfl, rfl, rfl⟩
  case round =>
    obtain ⟨k, s, hk, rfl, rfl, hsk⟩ := hrel
    by_cases hlt : k < m
    · have hc := HC.out k hlt
      have hle : s + nf k ≤ 1073741824 := by rw [hsk.out]; exact Nat.le_trans (sumN_le nf (k := k + 1) hlt) hs
      have HN : Hid (s + nf k = sumN nf (k + 1)) := by rw [hsk.out]; rfl
      generalize nf k = n1 at hc hle HN
      generalize Pf k = p1 at hc
      generalize cf k = c1 at hc
      have hneg : ¬ ((s : Int) + (n1 : Int) < 0) := by omega
      go_wp2
      go_round
      case rel => exact ⟨k + 1, s + n1, by omega, by go_num, by go_num, HN⟩
      case measure => simp [intOf]; omega
    · obtain rfl : k = m := by omega
      obtain rfl : s = sumN nf k := hsk.out
      clear hsk
      have HS : Hid (sumN nf k = sumN nf k) := rfl
      generalize hN : sumN nf k = N at h0 hs HS ⊢
      clear HS
      have HNn : Hid (sumN nf k = N) := hN
      clear hN
      have hneg : ¬ ((N : Int) < 0) := by omega
      go_wp2_with (fail)
      refine (growNilI_any N _ h0 hs).mono ?_
      rintro e w1 ⟨p1, c1, rfl, ho1, b1⟩
      go_wp2_with (fail)
      go_loopw [6, 27] (fun v i wr => ∃ j s : Nat, j ≤ k ∧ i = .int .i64 j ∧ Hid (s = sumN nf j) ∧ wr.ownsRow w.heap.size 3 1 v s ((catL xf j).map (Value.int .i64)) ∧ Below w.heap.size w wr)
        (fun _ i _ => k - (intOf i).toNat)
      case atStart => exact ⟨0, 0, by omega, rfl, rfl, ho1, b1⟩
      case round =>
        clear ho1 b1
        obtain ⟨j, s, hj, rfl, hsj, hown, hbel⟩ := hrel
        have hsz := hbel.size
        by_cases hlt2 : j < k
        · have hc := HC.out j hlt2
          have hgr : gr < w.heap.size := World.block_lt_of_cell? w ⟨gr, j, none⟩ hc
          have hc2 := (hbel.cell (p := ⟨gr, j, none⟩) hgr).trans hc
          have hle : s + nf j ≤ N := by rw [hsj.out, ← HNn.out]; exact sumN_le nf (k := j + 1) hlt2
          have HN : Hid (s + nf j = sumN nf (j + 1)) := by rw [hsj.out]; rfl
          have hl := HL.out j hlt2
          have hI := HI.out j hlt2
          replace hI : IntsIn wr (Pf j) (nf j) (xf j) := by
            intro hpos
            obtain ⟨bb, oo, e1, e2⟩ := hI hpos
            exact ⟨bb, oo, e1, fun i hi => (hbel.cell (p := ⟨bb, oo + i, none⟩) (World.block_lt_of_cell? w ⟨bb, oo + i, none⟩ (e2 i hi))).trans (e2 i hi)⟩
          have HX : Hid (catL xf j ++ xf j = catL xf (j + 1)) := rfl
          generalize nf j = n1 at hc hc2 hle HN hl hI
          generalize Pf j = p1 at hc hc2 hI
          generalize cf j = c1 at hc hc2
          generalize xf j = y1 at hl hI HX
          obtain ⟨q, cq, hv⟩ := owns_form hown
          subst hv
          clear hc
          go_wp2_with (at_builtin; refine list_spreadIA hi hz0 hz1 hz2 (.tmp 31) (.tmp 32) 48 Tryd.underlying48 hown hI hl (by omega) (by omega) hsz (by rfl) (by rfl) (by rfl) (by rfl) ?_; intro p' cap w3 ho3 hb3; rw [HX.out] at ho3)
          go_roundw
          case rel => exact ⟨j + 1, s + n1, by omega, by go_num, HN, ho3, hbel.trans hb3⟩
          case measure => simp [intOf]; omega
        · obtain rfl : j = k := by omega
          obtain rfl : s = N := hsj.out.trans HNn.out
          obtain ⟨q, cq, hv⟩ := owns_form hown
          subst hv
          go_wp2
          go_ret
          rw [HNn.out]
          exact ⟨_, _, rfl, .of hown, hbel⟩

theorem concat4I (p0 p1 p2 p3 : Option Addr) (n0 n1 n2 n3 c0 c1 c2 c3 : Nat) (xs0 xs1 xs2 xs3 : List Int) (w0 : World) (hx0 : xs0.length = n0) (hx1 : xs1.length = n1) (hx2 : xs2.length = n2) (hx3 : xs3.length = n3) (h0 : 0 < n0 + n1 + n2 + n3) (hs1 : n0 + n1 + n2 + n3 ≤ 1048576)
    (i0 : IntsIn w0 p0 n0 xs0) (i1 : IntsIn w0 p1 n1 xs1) (i2 : IntsIn w0 p2 n2 xs2) (i3 : IntsIn w0 p3 n3 xs3) (gr : Nat) (hgr : w0.heap.size = gr) :
    Calls Tryd.prog 50 #[.slice (some ⟨gr, 0, none⟩) 4 4] (w0.alloc (.cells #[.slice p0 n0 c0, .slice p1 n1 c1, .slice p2 n2 c2, .slice p3 n3 c3] 48)) fun e w' =>
      ∃ p' c', e = .returned (.slice p' (n0 + n1 + n2 + n3) c') ∧ OwnI 3 w' w0.heap.size w'.heap.size (.slice p' (n0 + n1 + n2 + n3) c') (n0 + n1 + n2 + n3) (xs0 ++ xs1 ++ xs2 ++ xs3) ∧ Below w0.heap.size w0 w' := by
  subst hgr
  have ba : Below w0.heap.size w0 (w0.alloc (.cells #[.slice p0 n0 c0, .slice p1 n1 c1, .slice p2 n2 c2, .slice p3 n3 c3] 48)) := (Below.refl _ _).alloc (Nat.le_refl _) _
  have hs : sumN (fun k => match k with | 0 => n0 | 1 => n1 | 2 => n2 | _ => n3) 4 = n0 + n1 + n2 + n3 := by simp [sumN]
  have hc : catL (fun k => match k with | 0 => xs0 | 1 => xs1 | 2 => xs2 | _ => xs3) 4 = xs0 ++ xs1 ++ xs2 ++ xs3 := by simp [catL]
  have h := concatI_any w0.heap.size 4 (fun k => match k with | 0 => p0 | 1 => p1 | 2 => p2 | _ => p3) (fun k => match k with | 0 => n0 | 1 => n1 | 2 => n2 | _ => n3) (fun k => match k with | 0 => c0 | 1 => c1 | 2 => c2 | _ => c3) (fun k => match k with | 0 => xs0 | 1 => xs1 | 2 => xs2 | _ => xs3)
    (w0.alloc (.cells #[.slice p0 n0 c0, .slice p1 n1 c1, .slice p2 n2 c2, .slice p3 n3 c3] 48)) (by decide)
    (fun k hk => by
      rw [cell_of_row _ _ k _ _ _ (heap_alloc_new w0 _)]
      match k, hk with
      | 0, _ => rfl
      | 1, _ => rfl
      | 2, _ => rfl
      | 3, _ => rfl)
    (fun k hk => by
      match k, hk with
      | 0, _ => exact hx0
      | 1, _ => exact hx1
      | 2, _ => exact hx2
      | 3, _ => exact hx3)
    (fun k hk => by
      match k, hk with
      | 0, _ => exact in_belowI i0 ba
      | 1, _ => exact in_belowI i1 ba
      | 2, _ => exact in_belowI i2 ba
      | 3, _ => exact in_belowI i3 ba)
    (by rw [hs]; omega) (by rw [hs]; omega)
  rw [hs, hc] at h
  refine h.mono ?_
  rintro e w' ⟨p', c', rfl, r, b⟩
  exact ⟨p', c', rfl, ⟨owns_mono r.1 (by simp), r.2⟩, below_on ba b⟩

end Go.Proofs.YtcmbglelllcbdalDoor
