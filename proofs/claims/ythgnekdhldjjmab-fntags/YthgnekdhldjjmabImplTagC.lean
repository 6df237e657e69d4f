/-
  The program's numbers of a tag: what times makes of two of them: a product, alike by p, whose parts are below 2 to the 57th. Condition: small parts.
-/
import Derived.Test.YthgnekdhldjjmabImplTagB
namespace Go.Proofs.Ythgnekdhldjjmab
open Go.RowKit

theorem five_of {S : List Nat} (h : S.length = 5) : ∃ a b c d e, S = [a, b, c, d, e] := by
  match S, h with
  | [a, b, c, d, e], _ => exact ⟨a, b, c, d, e, rfl⟩
theorem index5 (S : List Nat) (h : S.length = 5) (k : Nat) (hk : k < 5) (w : World) : (Instr.index 38 (.agg (u64L S).toArray) (.int .i64 (k : Int))).run Try.prog w = .ok (.int .u64 ((S.getD k 0 : Nat) : Int)) w := by
  obtain ⟨a, b, c, d, e, rfl⟩ := five_of h
  have h0 : (Instr.index 38 (.agg (u64L [a, b, c, d, e]).toArray) (.int .i64 0)).run Try.prog w = .ok (.int .u64 (a : Int)) w := by kernel_rfl
  have h1 : (Instr.index 38 (.agg (u64L [a, b, c, d, e]).toArray) (.int .i64 1)).run Try.prog w = .ok (.int .u64 (b : Int)) w := by kernel_rfl
  have h2 : (Instr.index 38 (.agg (u64L [a, b, c, d, e]).toArray) (.int .i64 2)).run Try.prog w = .ok (.int .u64 (c : Int)) w := by kernel_rfl
  have h3 : (Instr.index 38 (.agg (u64L [a, b, c, d, e]).toArray) (.int .i64 3)).run Try.prog w = .ok (.int .u64 (d : Int)) w := by kernel_rfl
  have h4 : (Instr.index 38 (.agg (u64L [a, b, c, d, e]).toArray) (.int .i64 4)).run Try.prog w = .ok (.int .u64 (e : Int)) w := by kernel_rfl
  have hc : k = 0 ∨ k = 1 ∨ k = 2 ∨ k = 3 ∨ k = 4 := by omega
  rcases hc with rfl | rfl | rfl | rfl | rfl
  · exact h0
  · exact h1
  · exact h2
  · exact h3
  · exact h4
theorem zero_u64 (w : World) : (zeroValue 36).run Try.prog w = .ok (.int .u64 0) w := by kernel_rfl

theorem NumIs.made (w : World) (a b c d e : Nat) : NumIs (w.alloc (.cells #[.int .u64 (a : Int), .int .u64 (b : Int), .int .u64 (c : Int), .int .u64 (d : Int), .int .u64 (e : Int)] 38)) w.heap.size w.heap.size [a, b, c, d, e] :=
  ⟨rfl, rfl, .inr ⟨w.heap.size, 5, _, rfl, Nat.le_refl _, heap_alloc_new w _, Nat.le_refl _, by unfold maxLen; omega, rfl, rfl⟩⟩
theorem numPut {lo e g n c : Nat} (vs : List Value) : ∀ (o : Nat) (w : World) (xs : List Value), o + vs.length = n → xs.length = n → w.ownsRow lo e 1 (.slice (some ⟨g, 0, none⟩) n c) n xs →
    (w.setCells g o vs).ownsRow lo e 1 (.slice (some ⟨g, 0, none⟩) n c) n (xs.take o ++ vs) ∧ w.grownBy (w.setCells g o vs) (some g) := by
  induction vs with
  | nil =>
    intro o w xs h1 h2 h
    rw [List.append_nil, List.take_of_length_le (by simp at h1; omega)]
    exact ⟨h, World.grownBy.refl _ _⟩
  | cons v r ih =>
    intro o w xs h1 h2 h
    have k1 := h.stored o v
    have k2 := ih (o + 1) _ _ (by simp at h1; omega) (by simpa using h2) k1.1
    have e : (xs.set o v).take (o + 1) = xs.take o ++ [v] := by
      rw [List.take_succ_eq_append_getElem (by simp at h1 ⊢; omega), List.take_set_of_le (Nat.le_refl _)]
      simp
    rw [e, List.append_assoc] at k2
    exact ⟨k2.1, grown_trans k1.2 k2.2⟩
theorem NumIs.put {w : World} {lo g : Nat} {S S' : List Nat} (h : NumIs w lo g S) (h' : S'.length = 5) : NumIs (w.setCells g 0 (u64L S')) lo g S' ∧ w.grownBy (w.setCells g 0 (u64L S')) (some g) := by
  have k := numPut (u64L S') 0 w (u64L S) (by rw [u64L_length]; omega) (by rw [u64L_length, h.1]) h.2
  exact ⟨⟨h', by simpa using k.1⟩, k.2⟩
def zero5 : List Nat := [0, 0, 0, 0, 0]
theorem zero5_less : lessP 1 zero5 := by
  refine ⟨rfl, fun i => ?_⟩
  match i with
  | 0 => decide
  | 1 => decide
  | 2 => decide
  | 3 => decide
  | 4 => decide
  | n + 5 => exact Nat.zero_lt_one
theorem val5_zero : val5 zero5 = 0 := by decide
theorem tag_grown {a w : World} {r : Option Nat} (h : Below a.heap.size a w) : a.grownBy w r := ⟨h.os, h.tape, h.output, h.size, fun k hk _ => h.block k hk⟩

set_option maxRecDepth 100000 in
set_option maxHeartbeats 4000000 in
theorem times_any (lo g lo' g' : Nat) (S R : List Nat) (w : World) (hS : lessP 67108864 S) (hR : lessP 67108864 R) (h : NumIs w lo g S) (h' : NumIs w lo' g' R) (hne : g' ≠ g) :
    Calls Try.prog 18 #[.pointer (some ⟨g, 0, none⟩), .pointer (some ⟨g', 0, none⟩)] w fun e w' => e = .returned (.tuple #[]) ∧ (∃ T, NumIs w' lo g T ∧ lessP 1152921504606846976 T ∧ alike (val5 T) (val5 S * val5 R)) ∧ w.grownBy w' (some g) := by
  have c0 := h.cell 0 (by decide)
  have c1 := h.cell 1 (by decide)
  have c2 := h.cell 2 (by decide)
  have c3 := h.cell 3 (by decide)
  have c4 := h.cell 4 (by decide)
  have HI : Hid (∀ k : Nat, k < 5 → ∀ w : World, (Instr.index 38 (.agg (u64L S).toArray) (.int .i64 (k : Int))).run Try.prog w = .ok (.int .u64 ((S.getD k 0 : Nat) : Int)) w) := index5 S hS.1
  obtain ⟨a0, a1, a2, a3, a4, hSe⟩ := five_of hS.1
  have hag : (u64L S).toArray = #[.int .u64 (a0 : Int), .int .u64 (a1 : Int), .int .u64 (a2 : Int), .int .u64 (a3 : Int), .int .u64 (a4 : Int)] := by rw [hSe]; rfl
  rw [hag] at HI
  have f0 : S.getD 0 0 = a0 := by rw [hSe]; rfl
  have f1 : S.getD 1 0 = a1 := by rw [hSe]; rfl
  have f2 : S.getD 2 0 = a2 := by rw [hSe]; rfl
  have f3 : S.getD 3 0 = a3 := by rw [hSe]; rfl
  have f4 : S.getD 4 0 = a4 := by rw [hSe]; rfl
  rw [f0] at c0
  rw [f1] at c1
  rw [f2] at c2
  rw [f3] at c3
  rw [f4] at c4
  obtain ⟨wa, hwa⟩ : ∃ wa, wa = w.alloc (.cells #[.int .u64 (a0 : Int), .int .u64 (a1 : Int), .int .u64 (a2 : Int), .int .u64 (a3 : Int), .int .u64 (a4 : Int)] 38) := ⟨_, rfl⟩
  have bb : Below w.heap.size w wa := by rw [hwa]; exact (Below.refl _ _).alloc (Nat.le_refl _) _
  have nc : NumIs wa w.heap.size w.heap.size S := by rw [hwa, hSe]; exact NumIs.made w a0 a1 a2 a3 a4
  have hga : w.grownBy wa (some g) := tag_grown bb
  have hlg := h.lt.2
  have na := h.below bb
  have nr := h'.below bb
  have hcl : ∀ ty, (Builtin.clear_ #[52] ty #[.slice (some ⟨g, 0, none⟩) 5 5]).run Try.prog wa = .ok (.tuple #[]) (wa.setCells g 0 (u64L zero5)) :=
    fun ty => Lib.run_clear_slice wa 52 36 ty (.int .u64 0) Try.underlying52 zero_u64 rfl rfl g 0 5 5 (by decide) (fun j hj => by rw [Nat.zero_add, na.cell j hj]; rfl) (fun j hj => by rw [Nat.zero_add]; exact na.frozen j)
  have pz := na.put (S' := zero5) rfl
  obtain ⟨wb, hwb⟩ : ∃ wb, wb = wa.setCells g 0 (u64L zero5) := ⟨_, rfl⟩
  rw [← hwb] at pz hcl
  have nc2 := nc.kept pz.2 (by omega)
  have nr2 := nr.kept pz.2 hne
  have hgb := grown_trans hga pz.2
  have nz := pz.1
  have d0 := nc2.cell 0 (by decide)
  have d1 := nc2.cell 1 (by decide)
  have d2 := nc2.cell 2 (by decide)
  have d3 := nc2.cell 3 (by decide)
  have d4 := nc2.cell 4 (by decide)
  rw [f0] at d0
  rw [f1] at d1
  rw [f2] at d2
  rw [f3] at d3
  rw [f4] at d4
  have HSl : Hid (∀ i, S.getD i 0 < 67108864) := hS.2
  have HRl : Hid (∀ i, R.getD i 0 < 67108864) := hR.2
  clear f0 f1 f2 f3 f4 hSe hag bb nc na nr hga h h' hwb pz nc2
  go_enter Try.func18, Try.ntmps18
  go_wp2_with (fail)
  rw [← hwa]
  simp only [hcl]
  clear hcl hwa c0 c1 c2 c3 c4
  go_wp2_with (fail)
  clear d0 d1 d2 d3 d4
  go_loopw [16] (fun v wr => ∃ (i : Nat) (T : List Nat), i ≤ 5 ∧ v = .int .i64 i ∧ NumIs wr lo g T ∧ lessP (5 * i * 22517998136852480 + 1) T ∧ Hid (alike (val5 T) (valP S i * val5 R)) ∧ NumIs wr lo' g' R ∧ w.grownBy wr (some g))
    (fun v _ => 5 - (intOf v).toNat)
  case atStart => exact ⟨0, zero5, by omega, rfl, nz, by simpa using zero5_less, by rw [val5_zero, valP, Nat.zero_mul]; rfl, nr2, hgb⟩
  case round =>
    clear nz nr2 hgb
    obtain ⟨i, T, hi, rfl, hn, hT, hal, hr, hg⟩ := hrel
    by_cases hlt : i < 5
    · have hlt' : (i : Int) < 5 := by omega
      have ix := HI.out i hlt
      have hx := HSl.out i
      have hw1 : Hid (valP S (i + 1) = valP S i + S.getD i 0 * 67108864 ^ i) := rfl
      generalize S.getD i 0 = x at ix hx hw1
      go_wp2_with (fail)
      clear ix
      go_loopw [21] (fun v wr => ∃ (j : Nat) (T : List Nat), j ≤ 5 ∧ v = .int .i64 j ∧ NumIs wr lo g T ∧ lessP ((5 * i + j) * 22517998136852480 + 1) T ∧ Hid (alike (val5 T) (valP S i * val5 R + x * 67108864 ^ i * valP R j)) ∧ NumIs wr lo' g' R ∧ w.grownBy wr (some g))
        (fun v _ => 5 - (intOf v).toNat)
      case atStart => exact ⟨0, T, by omega, rfl, hn, hT, by rw [valP, Nat.mul_zero, Nat.add_zero]; exact hal, hr, hg⟩
      case round =>
        clear hn hT hal hr hg
        obtain ⟨j, T, hj, rfl, hn, hT, hal, hr, hg⟩ := hrel
        by_cases hltj : j < 5
        · have hltj' : (j : Int) < 5 := by omega
          have ey := hr.cell j hltj
          have hy := HRl.out j
          have hw2 : Hid (valP R (j + 1) = valP R j + R.getD j 0 * 67108864 ^ j) := rfl
          generalize R.getD j 0 = y at ey hy hw2
          have hxy := part_prod hx hy
          obtain ⟨s, hs⟩ : ∃ s, s = i + j := ⟨_, rfl⟩
          have es : (i : Int) + (j : Int) = (s : Int) := by omega
          go_wp2_with (fail)
          go_quiet (fail)
          obtain ⟨w5, hw5⟩ : ∃ w5, w5 = wr.drewN nq := ⟨_, rfl⟩
          rw [← hw5]
          have b5 : Below wr.heap.size wr w5 := by rw [hw5]; exact below_drewN (Below.refl _ _) _
          clear hw5 ey
          replace hn := hn.below b5
          replace hr := hr.below b5
          replace hg := grown_trans hg (tag_grown (r := some g) b5)
          clear b5
          by_cases hs5 : s < 5
          · have hs5' : (s : Int) < 5 := by omega
            obtain ⟨m, hm⟩ : ∃ m, m = x * y := ⟨_, rfl⟩
            have em : (x : Int) * (y : Int) = (m : Int) := by rw [hm]; simp
            have hml : m ≤ 4503599627370496 := by rw [hm]; exact hxy
            have et := hn.cell s hs5
            have hfr := hn.frozen s
            have ht := hT.2 s
            have st := hn.set s (T.getD s 0 + m)
            have HA : Hid (alike (val5 (T.set s (T.getD s 0 + m))) (valP S i * val5 R + x * 67108864 ^ i * valP R (j + 1))) := by
              rw [hs, hm, times_low T hT.1 i j x y (by omega), hw2.out, Nat.mul_add, ← Nat.add_assoc]
              exact (Hid.out hal).add (alike.refl _)
            have hT' : lessP ((5 * i + (j + 1)) * 22517998136852480 + 1) (T.set s (T.getD s 0 + m)) := lessP_set hT _ _ (by omega) (by omega)
            obtain ⟨u, hu⟩ : ∃ u, u = T.getD s 0 + m := ⟨_, rfl⟩
            rw [← hu] at st HA hT'
            generalize T.getD s 0 = t at et ht hu
            have eu : (t : Int) + (m : Int) = (u : Int) := by omega
            have u1 : (u : Int) < 18446744073709551616 := by omega
            have u2 : (m : Int) < 18446744073709551616 := by omega
            have hg' := grown_trans hg st.2
            have hn' := st.1
            have hr' := hr.kept st.2 hne
            generalize T.set s u = T' at HA hT' hn'
            clear st hn hT hal hr hg hu hw2 hs hxy hm
            go_wp2_with (fail)
            go_region
            all_goals
              go_wp2
              go_roundw
              case rel => exact ⟨j + 1, T', by omega, by go_num, hn', hT', HA, hr', ⟨hg'.os, hg'.tape, hg'.output, hg'.size, hg'.block⟩⟩
              case measure => simp [intOf]; omega
          · obtain ⟨s', hs'⟩ : ∃ s', s' = s - 5 := ⟨_, rfl⟩
            have hs5' : ¬ (s : Int) < 5 := by omega
            have es' : (s : Int) - 5 = (s' : Int) := by omega
            have hss : s' < 5 := by omega
            have hss' : (s' : Int) < 5 := by omega
            obtain ⟨x5, hx5⟩ : ∃ x5, x5 = 5 * x := ⟨_, rfl⟩
            have ex5 : (5 : Int) * (x : Int) = (x5 : Int) := by omega
            have x5l : (x5 : Int) < 18446744073709551616 := by omega
            obtain ⟨m5, hm5⟩ : ∃ m5, m5 = 5 * x * y := ⟨_, rfl⟩
            have em5 : (x5 : Int) * (y : Int) = (m5 : Int) := by rw [hm5, hx5]; simp
            have hm5l : m5 ≤ 22517998136852480 := by rw [hm5, Nat.mul_assoc]; omega
            have et := hn.cell s' hss
            have hfr := hn.frozen s'
            have ht := hT.2 s'
            have st := hn.set s' (T.getD s' 0 + m5)
            have HA : Hid (alike (val5 (T.set s' (T.getD s' 0 + m5))) (valP S i * val5 R + x * 67108864 ^ i * valP R (j + 1))) := by
              rw [hs', hs, hm5, hw2.out, Nat.mul_add, ← Nat.add_assoc]
              exact (times_high T hT.1 i j x y (by omega) hlt hltj).trans ((Hid.out hal).add (alike.refl _))
            have hT' : lessP ((5 * i + (j + 1)) * 22517998136852480 + 1) (T.set s' (T.getD s' 0 + m5)) := lessP_set hT _ _ (by omega) (by omega)
            obtain ⟨u, hu⟩ : ∃ u, u = T.getD s' 0 + m5 := ⟨_, rfl⟩
            rw [← hu] at st HA hT'
            generalize T.getD s' 0 = t at et ht hu
            have eu : (t : Int) + (m5 : Int) = (u : Int) := by omega
            have u1 : (u : Int) < 18446744073709551616 := by omega
            have u2 : (m5 : Int) < 18446744073709551616 := by omega
            have hg' := grown_trans hg st.2
            have hn' := st.1
            have hr' := hr.kept st.2 hne
            generalize T.set s' u = T' at HA hT' hn'
            clear st hn hT hal hr hg hu hw2 hs hxy hs' hx5 hm5
            go_wp2_with (fail)
            go_region
            all_goals
              go_wp2
              go_roundw
              case rel => exact ⟨j + 1, T', by omega, by go_num, hn', hT', HA, hr', ⟨hg'.os, hg'.tape, hg'.output, hg'.size, hg'.block⟩⟩
              case measure => simp [intOf]; omega
        · obtain rfl : j = 5 := by omega
          go_wp2
          go_roundw
          case rel => exact ⟨i + 1, T, by omega, by go_num, hn, hT, by rw [hw1.out, Nat.add_mul]; exact hal, hr, hg⟩
          case measure => simp [intOf]; omega
    · obtain rfl : i = 5 := by omega
      go_wp2
      go_end0
      exact ⟨rfl, ⟨T, hn, hT.mono (by decide), hal⟩, hg⟩

end Go.Proofs.Ythgnekdhldjjmab
