/-
  What the program's TagText answers, whatever bytes it is given. Condition: at most 2^20 bytes each.
-/
import Derived.Test.YtadhjbmideoihamTagText
namespace Go.Proofs.Ytadhjbmideoiham
open Go.RowKit

theorem zeros_in (w : World) (ty z : Nat) : BytesIn (w.alloc (.cells (madeCells #[.int .u8 0] z) ty)) (some ⟨w.heap.size, 0, none⟩) z (List.replicate z 0) := by
  intro _
  refine ⟨w.heap.size, 0, rfl, fun i hi => ?_⟩
  rw [cell_of_row _ _ _ _ _ _ (heap_alloc_new w _)]
  have := toList_madeCells_one (.int .u8 0) z
  rw [← Array.getElem?_toList, this]
  simp [hi]

set_option maxHeartbeats 2000000 in
theorem zerosBehind_any (p : Option Addr) (n c : Nat) (w : World) (hn : n ≤ 1048576) :
    Calls Try.prog 29 #[.slice p n c] w fun e w' => ∃ p' c', e = .returned (.slice p' (fillN n) c') ∧ BytesIn w' p' (fillN n) (List.replicate (fillN n) 0) ∧ Below w.heap.size w w' := by
  obtain ⟨i0, hi, hz0, hz1, hz2⟩ := info_parts infoByte
  have hzl := fillN_lt n
  obtain ⟨ov, hov⟩ : ∃ ov : Nat, ov = n % 16 := ⟨_, rfl⟩
  have hZ : fillN n = (16 - ov) % 16 := by rw [hov]; rfl
  generalize fillN n = Z at hzl hZ ⊢
  have r1 : ((n : Int)).tmod 16 = (ov : Int) := by rw [Int.tmod_eq_emod_of_nonneg (by omega)]; omega
  have r1' : (n : Int) % 16 = (ov : Int) := by omega
  have r2 : (16 - (ov : Int)).tmod 16 = (Z : Int) := by rw [Int.tmod_eq_emod_of_nonneg (by omega)]; omega
  have r2' : (16 - (ov : Int)) % 16 = (Z : Int) := by omega
  have hov2 : ov < 16 := by omega
  clear hov hZ
  have hmk : ∀ W : World, (Instr.makeSlice 22 (.int .i64 (Z : Int)) (.int .i64 (Z : Int))).run Try.prog W = .ok (.slice (some ⟨W.heap.size, 0, none⟩) Z Z) (W.alloc (.cells (madeCells #[.int .u8 0] Z) 5)) := by
    intro W
    have := run_makeSlice (P := Try.prog) W 22 5 i0 (.int .u8 0) Try.underlying22 hi hz0 .i64 .i64 Z Z (by omega) (by omega) (by rw [hz1]; simp; omega) (by rw [hz2]; omega) (by omega)
    simpa [hz1, Value.cells] using this
  clear hi hz0 hz1 hz2
  go_enter Try.func29, Try.ntmps29
  go_wp2
  go_ret
  exact ⟨_, _, rfl, zeros_in w 5 Z, (Below.refl _ _).alloc (Nat.le_refl _) _⟩

theorem concat6 (p0 p1 p2 p3 p4 p5 : Option Addr) (n0 n1 n2 n3 n4 n5 c0 c1 c2 c3 c4 c5 : Nat) (xs0 xs1 xs2 xs3 xs4 xs5 : List Int) (w0 : World) (hx0 : xs0.length = n0) (hx1 : xs1.length = n1) (hx2 : xs2.length = n2) (hx3 : xs3.length = n3) (hx4 : xs4.length = n4) (hx5 : xs5.length = n5) (h0 : 0 < n0 + n1 + n2 + n3 + n4 + n5) (hs1 : n0 + n1 + n2 + n3 + n4 + n5 ≤ 1073741824)
    (i0 : BytesIn w0 p0 n0 xs0) (i1 : BytesIn w0 p1 n1 xs1) (i2 : BytesIn w0 p2 n2 xs2) (i3 : BytesIn w0 p3 n3 xs3) (i4 : BytesIn w0 p4 n4 xs4) (i5 : BytesIn w0 p5 n5 xs5) (gr : Nat) (hgr : w0.heap.size = gr) :
    Calls Try.prog 28 #[.slice (some ⟨gr, 0, none⟩) 6 6] (w0.alloc (.cells #[.slice p0 n0 c0, .slice p1 n1 c1, .slice p2 n2 c2, .slice p3 n3 c3, .slice p4 n4 c4, .slice p5 n5 c5] 22)) fun e w' =>
      ∃ p' c', e = .returned (.slice p' (n0 + n1 + n2 + n3 + n4 + n5) c') ∧ Own 5 w' w0.heap.size w'.heap.size (.slice p' (n0 + n1 + n2 + n3 + n4 + n5) c') (n0 + n1 + n2 + n3 + n4 + n5) (xs0 ++ xs1 ++ xs2 ++ xs3 ++ xs4 ++ xs5) ∧ Below w0.heap.size w0 w' := by
  subst hgr
  have ba : Below w0.heap.size w0 (w0.alloc (.cells #[.slice p0 n0 c0, .slice p1 n1 c1, .slice p2 n2 c2, .slice p3 n3 c3, .slice p4 n4 c4, .slice p5 n5 c5] 22)) := (Below.refl _ _).alloc (Nat.le_refl _) _
  have hs : sumN (fun k => match k with | 0 => n0 | 1 => n1 | 2 => n2 | 3 => n3 | 4 => n4 | _ => n5) 6 = n0 + n1 + n2 + n3 + n4 + n5 := by simp [sumN]
  have hc : catL (fun k => match k with | 0 => xs0 | 1 => xs1 | 2 => xs2 | 3 => xs3 | 4 => xs4 | _ => xs5) 6 = xs0 ++ xs1 ++ xs2 ++ xs3 ++ xs4 ++ xs5 := by simp [catL]
  have h := concat_any w0.heap.size 6 (fun k => match k with | 0 => p0 | 1 => p1 | 2 => p2 | 3 => p3 | 4 => p4 | _ => p5) (fun k => match k with | 0 => n0 | 1 => n1 | 2 => n2 | 3 => n3 | 4 => n4 | _ => n5) (fun k => match k with | 0 => c0 | 1 => c1 | 2 => c2 | 3 => c3 | 4 => c4 | _ => c5) (fun k => match k with | 0 => xs0 | 1 => xs1 | 2 => xs2 | 3 => xs3 | 4 => xs4 | _ => xs5)
    (w0.alloc (.cells #[.slice p0 n0 c0, .slice p1 n1 c1, .slice p2 n2 c2, .slice p3 n3 c3, .slice p4 n4 c4, .slice p5 n5 c5] 22)) (by decide)
    (fun k hk => by
      rw [cell_of_row _ _ k _ _ _ (heap_alloc_new w0 _)]
      match k, hk with
      | 0, _ => rfl
      | 1, _ => rfl
      | 2, _ => rfl
      | 3, _ => rfl
      | 4, _ => rfl
      | 5, _ => rfl)
    (fun k hk => by
      match k, hk with
      | 0, _ => exact hx0
      | 1, _ => exact hx1
      | 2, _ => exact hx2
      | 3, _ => exact hx3
      | 4, _ => exact hx4
      | 5, _ => exact hx5)
    (fun k hk => by
      match k, hk with
      | 0, _ => exact in_below i0 ba
      | 1, _ => exact in_below i1 ba
      | 2, _ => exact in_below i2 ba
      | 3, _ => exact in_below i3 ba
      | 4, _ => exact in_below i4 ba
      | 5, _ => exact in_below i5 ba)
    (by rw [hs]; omega) (by rw [hs]; omega)
  rw [hs, hc] at h
  refine h.mono ?_
  rintro e w' ⟨p', c', rfl, r, b⟩
  exact ⟨p', c', rfl, ⟨owns_mono r.1 (by simp), r.2⟩, below_on ba b⟩

set_option maxHeartbeats 4000000 in
theorem implTagText_any (p q : Option Addr) (n m c d : Nat) (xs ys : List Int) (w : World) (hn : n ≤ 1048576) (hm : m ≤ 1048576) (hx : xs.length = n) (hy : ys.length = m) (h : BytesIn w p n xs) (h' : BytesIn w q m ys) :
    Calls Try.prog 12 #[.slice p n c, .slice q m d] w fun e w' => ∃ p' c', e = .returned (.slice p' (ttN n m) c') ∧ Own 5 w' w.heap.size w'.heap.size (.slice p' (ttN n m) c') (ttN n m) (ttL xs ys) ∧ Below w.heap.size w w' := by
  have hz1' := fillN_lt n
  have hz2' := fillN_lt m
  have Z1 := fun w => zerosBehind_any p n c w hn
  have Z2 := fun w => zerosBehind_any q m d w hm
  have L1 := fun w => implLit8 n w hn
  have L2 := fun w => implLit8 m w hm
  have hl1 := littleL_length (n : Int) 8
  have hl2 := littleL_length (m : Int) 8
  have HT : Hid (ttL xs ys = xs ++ List.replicate (fillN n) 0 ++ ys ++ List.replicate (fillN m) 0 ++ littleL (n : Int) 8 ++ littleL (m : Int) 8) := by
    rw [Hid, ttL, fillL, fillL, hx, hy]
    simp only [List.append_assoc]
  have HN : Hid (ttN n m = n + fillN n + m + fillN m + 8 + 8) := by rw [Hid, ttN]; omega
  have hr1 : (List.replicate (fillN n) (0 : Int)).length = fillN n := by simp
  have hr2 : (List.replicate (fillN m) (0 : Int)).length = fillN m := by simp
  generalize ttL xs ys = TL at HT ⊢
  generalize ttN n m = TN at HN ⊢
  generalize List.replicate (fillN n) (0 : Int) = R1 at Z1 HT hr1
  generalize List.replicate (fillN m) (0 : Int) = R2 at Z2 HT hr2
  generalize fillN n = F1 at hz1' Z1 HN hr1
  generalize fillN m = F2 at hz2' Z2 HN hr2
  generalize littleL (n : Int) 8 = LX at L1 hl1 HT
  generalize littleL (m : Int) 8 = LY at L2 hl2 HT
  go_enter Try.func12, Try.ntmps12
  go_wp2_with (fail)
  refine (Z1 _).mono ?_
  rintro e w1 ⟨p1, c1, rfl, i1, b1⟩
  clear Z1
  go_wp2_with (fail)
  refine (Z2 _).mono ?_
  rintro e w2 ⟨p2, c2, rfl, i2, b2⟩
  have j1 := in_below i1 b2
  have bb2 := below_on b1 b2
  clear Z2 i1 b1 b2
  go_wp2_with (fail)
  refine (L1 _).mono ?_
  rintro e w3 ⟨p3, c3, rfl, r3, b3⟩
  have k1 := in_below j1 b3
  have k2 := in_below i2 b3
  have bb3 := below_on bb2 b3
  clear L1 j1 i2 bb2 b3
  go_wp2_with (fail)
  refine (L2 _).mono ?_
  rintro e w4 ⟨p4, c4, rfl, r4, b4⟩
  have l1 := in_below k1 b4
  have l2 := in_below k2 b4
  have l3 := in_below r3.bytes b4
  have l4 := r4.bytes
  have bb4 := below_on bb3 b4
  have l5 := in_below h bb4
  have l6 := in_below h' bb4
  clear L2 k1 k2 bb3 b4 r3 r4 h h'
  have CC := fun gr hgr => concat6 p p1 q p2 p3 p4 n F1 m F2 8 8 c c1 d c2 c3 c4 xs R1 ys R2 LX LY w4 hx hr1 hy hr2 hl1 hl2 (by omega) (by omega) l5 l1 l6 l2 l3 l4 gr hgr
  clear l1 l2 l3 l4 l5 l6
  go_wp2_with (fail)
  refine (CC _ rfl).mono ?_
  rintro e w5 ⟨p5, c5, rfl, r5, b5⟩
  go_wp2
  go_ret
  rw [HN.out, HT.out]
  exact ⟨_, _, rfl, ⟨owns_mono r5.1 bb4.size, r5.2⟩, below_on bb4 b5⟩

end Go.Proofs.Ytadhjbmideoiham
