/-
  What the program's filled, Padded, slices.Clone and Unpadded answer at whatever bytes. Conditions: bytes all; for Unpadded a capacity that is not less than the length.
-/
import Derived.Test.YtaijemajolgmfaaSpecUnnote
import Derived.Test.YtaijemajolgmfaaNoughts
namespace Go.Proofs.Ytaijemajolgmfaa
open Go.RowKit
set_option maxRecDepth 100000

theorem noteStep_any (n : Nat) (w : World) (hn : n ≤ 200) :
    Calls Try.prog 34 #[.int .i64 n] w fun e w' => e = .returned (.int .i64 (if n ≤ 94 then 32 else 96)) ∧ w' = w := by
  by_cases h : n ≤ 94
  · rw [if_pos h]
    have c0 : (2 : Int) + (n : Int) ≤ 96 := by omega
    go_enter Try.func34, Try.ntmps34
    go_wp2
    go_ret
    exact ⟨rfl, rfl⟩
  · rw [if_neg h]
    have c0 : ¬ (2 : Int) + (n : Int) ≤ 96 := by omega
    go_enter Try.func34, Try.ntmps34
    go_wp2
    go_ret
    exact ⟨rfl, rfl⟩

set_option maxHeartbeats 4000000 in
theorem filled_any (s : Int) (gr m : Nat) (Pf : Nat → Option Addr) (nf cf : Nat → Nat) (xf : Nat → List Int) (Z : Nat) (w : World) (hs2 : s = 32 ∨ s = 96) (hZ : (s - ((sumN nf m : Nat) : Int) % s) % s = (Z : Int)) (hm : m ≤ 1000) (hcell : ∀ k, k < m → w.cell? ⟨gr, k, none⟩ = some (.slice (Pf k) (nf k) (cf k)))
    (hlen : ∀ k, k < m → (xf k).length = nf k) (hin : ∀ k, k < m → BytesIn w (Pf k) (nf k) (xf k)) (h0 : 0 < sumN nf m) (hs : sumN nf m ≤ 1073741824) :
    Calls Try.prog 33 #[.int .i64 s, .slice (some ⟨gr, 0, none⟩) m m] w fun e w' => ∃ p c, e = .returned (.slice p (sumN nf m + Z) c) ∧ Own 5 w' w.heap.size w'.heap.size (.slice p (sumN nf m + Z) c) (sumN nf m + Z) (catL xf m ++ List.replicate Z 0) ∧ Below w.heap.size w w' := by
  obtain ⟨i0, hi, hz0, hz1, hz2⟩ := info_parts infoByte
  have C := concat_any gr m Pf nf cf xf w hm hcell hlen hin h0 hs
  clear hcell hlen hin
  generalize sumN nf m = T at *
  generalize catL xf m = xs at *
  have lZ : Z ≤ 96 := by rcases hs2 with rfl | rfl <;> omega
  have ld : 0 ≤ s - (T : Int) % s ∧ s - (T : Int) % s ≤ 96 := by rcases hs2 with rfl | rfl <;> omega
  rcases hs2 with rfl | rfl
  all_goals
    go_enter Try.func33, Try.ntmps33
    go_wp2_with (fail)
    refine C.mono ?_
    rintro e w1 ⟨p1, c1, rfl, r1, b1⟩
    obtain ⟨p2, c2, w2, hrun, hown, hbel⟩ := run_append_noughts (P := Try.prog) (k := Z) 22 3 22 hi hz0 hz1 hz2 Try.underlying22 Try.underlying3 r1.1 (by omega) b1.size
    rw [← hZ] at hrun
    clear C hZ
    go_wp2_with (at_builtin; refine Lib.wpList_append_run _ rfl _ _ _ _ rfl _ _ rfl rfl _ _ hrun ?_)
    go_ret
    exact ⟨_, _, rfl, .of hown, b1.trans hbel⟩

theorem filled2 (s : Int) (p0 p1 : Option Addr) (n0 n1 c0 c1 Z : Nat) (xs0 xs1 : List Int) (w0 : World) (hs2 : s = 32 ∨ s = 96) (hZ : (s - ((n0 + n1 : Nat) : Int) % s) % s = (Z : Int)) (hx0 : xs0.length = n0) (hx1 : xs1.length = n1) (h0 : 0 < n0 + n1) (hs1 : n0 + n1 ≤ 1073741824) (i0 : BytesIn w0 p0 n0 xs0) (i1 : BytesIn w0 p1 n1 xs1) (gr : Nat) (hgr : w0.heap.size = gr) :
    Calls Try.prog 33 #[.int .i64 s, .slice (some ⟨gr, 0, none⟩) 2 2] (w0.alloc (.cells #[.slice p0 n0 c0, .slice p1 n1 c1] 22)) fun e w' =>
      ∃ p' c', e = .returned (.slice p' (n0 + n1 + Z) c') ∧ Own 5 w' w0.heap.size w'.heap.size (.slice p' (n0 + n1 + Z) c') (n0 + n1 + Z) (xs0 ++ xs1 ++ List.replicate Z 0) ∧ Below w0.heap.size w0 w' := by
  subst hgr
  have ba : Below w0.heap.size w0 (w0.alloc (.cells #[.slice p0 n0 c0, .slice p1 n1 c1] 22)) := (Below.refl _ _).alloc (Nat.le_refl _) _
  have hs : sumN (fun k => match k with | 0 => n0 | _ => n1) 2 = n0 + n1 := by simp [sumN]
  have hc : catL (fun k => match k with | 0 => xs0 | _ => xs1) 2 = xs0 ++ xs1 := by simp [catL]
  have h := filled_any s w0.heap.size 2 (fun k => match k with | 0 => p0 | _ => p1) (fun k => match k with | 0 => n0 | _ => n1) (fun k => match k with | 0 => c0 | _ => c1) (fun k => match k with | 0 => xs0 | _ => xs1) Z
    (w0.alloc (.cells #[.slice p0 n0 c0, .slice p1 n1 c1] 22)) hs2 (by rw [hs]; exact hZ) (by decide)
    (fun k hk => by
      rw [cell_of_row _ _ k _ _ _ (heap_alloc_new w0 _)]
      match k, hk with
      | 0, _ => rfl
      | 1, _ => rfl)
    (fun k hk => by
      match k, hk with
      | 0, _ => exact hx0
      | 1, _ => exact hx1)
    (fun k hk => by
      match k, hk with
      | 0, _ => exact in_below i0 ba
      | 1, _ => exact in_below i1 ba)
    (by rw [hs]; omega) (by rw [hs]; omega)
  rw [hs, hc] at h
  refine h.mono ?_
  rintro e w' ⟨p', c', rfl, r, b⟩
  exact ⟨p', c', rfl, ⟨owns_mono r.1 (by simp), r.2⟩, below_on ba b⟩

set_option maxHeartbeats 4000000 in
theorem implPadded_any (p : Option Addr) (n c : Nat) (xs : List Int) (w : World) (hx : xs.length = n) (h : BytesIn w p n xs) :
    Calls Try.prog 10 #[.slice p n c] w fun e w' => ∃ p' c', e = .returned (.slice p' (noteN n) c') ∧ Own 5 w' w.heap.size w'.heap.size (.slice p' (noteN n) c') (noteN n) (noteL xs) ∧ Below w.heap.size w w' := by
  unfold noteN noteL
  rw [hx]
  by_cases hn : n ≤ 200
  · rw [if_pos hn, if_pos hn]
    have C := fun w => implGreat_any (n : Int) 2 w (by omega)
    rw [(great2 hn).1, (great2 hn).2] at C
    have S := fun w => noteStep_any n w hn
    have c0 : ¬ (200 : Int) < (n : Int) := by omega
    obtain ⟨s, hs, hs2⟩ : ∃ s : Int, s = (if n ≤ 94 then 32 else 96) ∧ (s = 32 ∨ s = 96) := ⟨_, rfl, by split <;> simp⟩
    have hM := noteM_le n
    have hZ : (s - ((2 + n : Nat) : Int) % s) % s = ((noteM n - (n + 2) : Nat) : Int) := by
      unfold noteM at hM ⊢
      by_cases h94 : n ≤ 94
      · rw [if_pos h94] at hM hs ⊢
        subst hs
        omega
      · rw [if_neg h94] at hM hs ⊢
        subst hs
        omega
    simp only [← hs] at S
    clear hs
    have hM2 : noteM n = 2 + n + (noteM n - (n + 2)) := by omega
    have F := fun p0 c0 w0 i0 i1 gr hgr => filled2 s p0 p 2 n c0 c _ [0, (n : Int)] xs w0 hs2 hZ rfl hx (by omega) (by omega) i0 i1 gr hgr
    rw [hM2]
    generalize noteM n - (n + 2) = Z at F
    rw [show 2 + n + Z - (n + 2) = Z by omega]
    clear hM hM2 hZ hs2
    go_enter Try.func10, Try.ntmps10
    go_wp2_with (fail)
    refine (S _).mono ?_
    rintro e w1 ⟨rfl, rfl⟩
    go_wp2_with (fail)
    refine (C _).mono ?_
    rintro e w1 ⟨p1, c1, rfl, r1, b1⟩
    have h1 := in_below h b1
    have i0 := r1.bytes
    clear C S h r1
    go_wp2_with (fail)
    refine (F p1 c1 w1 i0 h1 _ rfl).mono ?_
    rintro e w2 ⟨p2, c2, rfl, r2, b2⟩
    clear F
    go_wp2_with (fail)
    go_ret
    exact ⟨_, _, rfl, .of (owns_mono r2.1 b1.size), below_on b1 b2⟩
  · rw [if_neg hn, if_neg hn]
    have c1 : (200 : Int) < (n : Int) := by omega
    clear h hx
    go_enter Try.func10, Try.ntmps10
    go_wp2
    go_ret
    exact ⟨none, 0, rfl, .of ⟨rfl, .inl ⟨rfl, rfl⟩⟩, Below.refl _ _⟩

set_option maxHeartbeats 2400000 in
theorem clone_any (p : Option Addr) (n cp : Nat) (L : List Int) (w : World) (hn : n ≤ 1048576) (hL : L.length = n) (h : BytesIn w p n L) :
    Calls Try.prog 38 #[.slice p n cp] w fun e w' => ∃ p' c', e = .returned (.slice p' n c') ∧ Own 5 w' w.heap.size w'.heap.size (.slice p' n c') n L ∧ Below w.heap.size w w' := by
  obtain ⟨i0, hi, hz0, hz1, hz2⟩ := info_parts infoByte
  have hown0 : (w.alloc (.cells #[] 5)).ownsRow w.heap.size 5 1 (.slice (some ⟨w.heap.size, 0, none⟩) 0 0) 0 (([] : List Int).map (Value.int .u8)) := World.ownsRow_made w #[] 0 (Nat.le_refl _) (by unfold maxLen; omega) rfl
  have hb0 : Below w.heap.size w (w.alloc (.cells #[] 5)) := (Below.refl _ _).alloc (Nat.le_refl _) _
  have h1 := in_below h hb0
  have hq := fun w => Lib.run_eql_slice_nil (P := Try.prog) w 22 5 p n cp 0 0 Try.underlying22
  cases p with
  | none =>
    have hn0 : n = 0 := by
      rcases Nat.eq_zero_or_pos n with h0 | h0
      · exact h0
      · obtain ⟨b, o, hp, _⟩ := h h0
        cases hp
    subst hn0
    obtain rfl : L = [] := List.eq_nil_of_length_eq_zero hL
    simp only [Option.isNone_none] at hq
    clear hown0 hb0 h1 h
    go_enter Try.func38, Try.ntmps38
    go_wp2_with (fail)
    go_ret
    exact ⟨none, 0, rfl, .of ⟨rfl, .inl ⟨rfl, rfl⟩⟩, Below.refl _ _⟩
  | some ad =>
    simp only [Option.isNone_some] at hq
    clear h
    go_enter Try.func38, Try.ntmps38
    go_wp2_with (at_builtin; refine list_spreadA hi hz0 hz1 hz2 (.tmp 5) (.tmp 6) 22 Try.underlying22 hown0 h1 hL (by omega) (by omega) (by simp) (by rfl) (by rfl) (by rfl) (by rfl) ?_; intro p1 cap1 w1 ho1 hb1; simp only [Nat.zero_add, List.nil_append] at ho1 ⊢)
    go_ret
    exact ⟨_, _, rfl, .of ho1, hb0.trans hb1⟩

end Go.Proofs.Ytaijemajolgmfaa
