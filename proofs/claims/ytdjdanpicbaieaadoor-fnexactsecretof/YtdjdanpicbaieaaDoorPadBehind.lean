/-
  What the program's padBehindBlock answers: the pad of 64 bytes and the text, without those 64. Condition: at most 3936 bytes.
-/
import Derived.Test.YtdjdanpicbaieaaDoorMacMath
namespace Go.Proofs.YtdjdanpicbaieaaDoor
open Go.RowKit
set_option maxRecDepth 100000

theorem concat2 (p0 p1 : Option Addr) (n0 n1 c0 c1 : Nat) (xs0 xs1 : List Int) (w0 : World) (hx0 : xs0.length = n0) (hx1 : xs1.length = n1) (h0 : 0 < n0 + n1) (hs1 : n0 + n1 ≤ 1048576)
    (i0 : BytesIn w0 p0 n0 xs0) (i1 : BytesIn w0 p1 n1 xs1) (gr : Nat) (hgr : w0.heap.size = gr) :
    Calls Tryd.prog 47 #[.slice (some ⟨gr, 0, none⟩) 2 2] (w0.alloc (.cells #[.slice p0 n0 c0, .slice p1 n1 c1] 22)) fun e w' =>
      ∃ p' c', e = .returned (.slice p' (n0 + n1) c') ∧ Own 5 w' w0.heap.size w'.heap.size (.slice p' (n0 + n1) c') (n0 + n1) (xs0 ++ xs1) ∧ Below w0.heap.size w0 w' := by
  subst hgr
  have ba : Below w0.heap.size w0 (w0.alloc (.cells #[.slice p0 n0 c0, .slice p1 n1 c1] 22)) := (Below.refl _ _).alloc (Nat.le_refl _) _
  have hs : sumN (fun k => match k with | 0 => n0 | _ => n1) 2 = n0 + n1 := by simp [sumN]
  have hc : catL (fun k => match k with | 0 => xs0 | _ => xs1) 2 = xs0 ++ xs1 := by simp [catL]
  have h := concat_any w0.heap.size 2 (fun k => match k with | 0 => p0 | _ => p1) (fun k => match k with | 0 => n0 | _ => n1) (fun k => match k with | 0 => c0 | _ => c1) (fun k => match k with | 0 => xs0 | _ => xs1)
    (w0.alloc (.cells #[.slice p0 n0 c0, .slice p1 n1 c1] 22)) (by decide)
    (fun k hk => by
      rw [cell_of_row _ _ k _ _ _ (heap_alloc_new w0 _)]
      match k, hk with
      | 0, _ => rfl
      | 1, _ => rfl)
    (fun k hk => by
      match k, hk with
      | 0, _ => exact hx0
      | 1, _ => exact hx1)
    (fun k hk => by
      match k, hk with
      | 0, _ => exact in_below i0 ba
      | 1, _ => exact in_below i1 ba)
    (by rw [hs]; omega) (by rw [hs]; omega)
  rw [hs, hc] at h
  refine h.mono ?_
  rintro e w' ⟨p', c', rfl, r, b⟩
  exact ⟨p', c', rfl, ⟨owns_mono r.1 (by simp), r.2⟩, below_on ba b⟩

set_option maxHeartbeats 2000000 in
theorem padBehind_any (p : Option Addr) (n c : Nat) (xs : List Int) (w : World) (hn : n ≤ 3936) (hx : xs.length = n) (h : BytesIn w p n xs) :
    Calls Tryd.prog 82 #[.slice p n c] w fun e w' => ∃ g c', e = .returned (.slice (some ⟨g, 64, none⟩) (behindN n) c') ∧ w.heap.size ≤ g ∧ behindN n ≤ c' ∧ BytesIn w' (some ⟨g, 64, none⟩) (behindN n) (behindL xs) ∧ Below w.heap.size w w' := by
  obtain ⟨i0, hi, hz0, hz1, hz2⟩ := info_parts infoByte
  obtain ⟨hb1, hb2, hb3, hb4⟩ := behindN_is hn
  have hbl : (behindL xs).length = behindN n := by rw [behindL_length, hx]
  have C := fun p c w h => implPad_any p (64 + n) c (List.replicate 64 0 ++ xs) w (by omega) (by rw [List.length_append, List.length_replicate, hx]) h
  rw [hb1, pad_split (by simp) (by omega)] at C
  have CC := fun c1 X h1 h2 gr hgr => concat2 (some ⟨w.heap.size, 0, none⟩) p 64 n 64 c1 (List.replicate 64 0) xs X (by simp) hx (by omega) (by omega) h1 h2 gr hgr
  have HI : Hid (∀ (X : World) q, BytesIn X (some ⟨q, 0, none⟩) (64 + behindN n) (List.replicate 64 0 ++ behindL xs) → BytesIn X (some ⟨q, 64, none⟩) (behindN n) (behindL xs)) := by
    intro X q hq _
    obtain ⟨b, o, e1, e2⟩ := hq (by omega)
    simp only [Option.some.injEq, Addr.mk.injEq, and_true] at e1
    obtain ⟨rfl, rfl⟩ := e1
    refine ⟨_, _, rfl, fun i hi => ?_⟩
    have := e2 (64 + i) (by omega)
    rw [Nat.zero_add] at this
    rw [this, List.getD_eq_getElem?_getD, List.getD_eq_getElem?_getD, List.getElem?_append_right (by simp), List.length_replicate, Nat.add_sub_cancel_left]
  have hmk0 : ∀ W : World, (Instr.makeSlice 22 (.int .i64 64) (.int .i64 64)).run Tryd.prog W = .ok (.slice (some ⟨W.heap.size, 0, none⟩) 64 64) (W.alloc (.cells (madeCells #[.int .u8 0] 64) 5)) := by
    intro W
    have := run_makeSlice (P := Tryd.prog) W 22 5 i0 (.int .u8 0) Tryd.underlying22 hi hz0 .i64 .i64 64 64 (by omega) (by omega) (by rw [hz1]; simp) (by rw [hz2]; omega) (by omega)
    rw [hz1] at this
    exact this
  have hin0 := in_zeros w 5 64
  obtain ⟨Zc, hZc⟩ : ∃ Zc, Zc = madeCells #[Value.int .u8 0] 64 := ⟨_, rfl⟩
  rw [← hZc] at hin0
  simp only [← hZc] at hmk0
  clear hZc hb1 hb2
  generalize List.replicate 64 (0 : Int) = R64 at C CC HI hin0
  generalize behindN n = M at C HI hb3 hb4 hbl ⊢
  generalize behindL xs = BL at C HI hbl ⊢
  have ba : Below w.heap.size w (w.alloc (.cells Zc 5)) := (Below.refl _ _).alloc (Nat.le_refl _) _
  have hin1 := in_below h ba
  go_enter Tryd.func82, Tryd.ntmps82
  go_wp2_with (fail)
  refine (CC _ _ hin0 hin1 _ (by simp)).mono ?_
  rintro e w1 ⟨p1, c1, rfl, r1, b1⟩
  clear CC hmk0 hin0 hin1
  go_wp2_with (fail)
  refine (C _ _ _ r1.bytes).mono ?_
  rintro e w2 ⟨p2, c2, rfl, r2, b2⟩
  have hcap := r2.cap
  have hs1 := b1.size
  have hsa := ba.size
  have hown := r2.1
  obtain ⟨g, rfl⟩ := owns_at hown (by omega)
  have hlt := hown.lt g rfl
  have i2 : ¬ c2 = 64 := by omega
  have i3 : (64 : Int) ≤ 64 + (M : Int) := by omega
  clear C
  go_wp2
  go_ret
  exact ⟨g, c2 - 64, rfl, by omega, by omega, HI.out _ _ r2.bytes, below_on (below_on ba b1) b2⟩

end Go.Proofs.YtdjdanpicbaieaaDoor
