/-
  What LetterBytes of both sides answers at any letter. Conditions: bytes that lie there.
-/
import Derived.Test.YtaijemajolgmfaaImplLetterB
namespace Go.Proofs.Ytaijemajolgmfaa
open Go.RowKit
set_option maxRecDepth 100000

theorem slice_35 (b j m cc : Nat) (h : 35 < m) (hc : m ≤ cc) : ∀ W, (Instr.slice 22 (.slice (some ⟨b, j, none⟩) m cc) (some (.int .i64 35)) none none).run Try.prog W = .ok (.slice (some ⟨b, j + 35, none⟩) (m - 35) (cc - 35)) W := fun W => by
  have ht' : Try.prog.underlying 22 = some (.slice (Try.prog.elem 22)) := by simp [Program.elem, Try.underlying22]
  have he : Try.prog.elem 22 = 5 := by simp [Program.elem, Try.underlying22]
  obtain ⟨i0, hi, hz0, hz1, hz2⟩ := info_parts infoByte
  have := run_slice_l W 22 (some ⟨b, j, none⟩) m cc ht' .i64 35 (by omega) (by omega)
  refine this.trans ?_
  rw [he]
  have e : ¬ cc = 35 := by omega
  simp [sizeOf, typeInfo, hi, hz1, sliced, Addr.add, e]

set_option maxHeartbeats 4000000 in
theorem implLetterBytes_yes (e : Int) (p q : Option Addr) (n c m d : Nat) (xs ys : List Int) (w : World) (hok : letOk e n m) (hx : xs.length = n) (hy : ys.length = m) (h : BytesIn w p n xs) (h' : BytesIn w q m ys) :
    Calls Try.prog 26 #[.agg #[.int .i64 e, .slice p n c, .slice q m d]] w fun z w' => ∃ p' c', z = .returned (.slice p' (35 + m) c') ∧ Own 5 w' w.heap.size w'.heap.size (.slice p' (35 + m) c') (35 + m) (headL e xs ++ ys) ∧ Below w.heap.size w w' := by
  obtain ⟨i0, hi, hz0, hz1, hz2⟩ := info_parts infoByte
  have hs5 : (Try.prog.info? 5).map (·.size) = some 1 := by rw [hi]; simp [hz1]
  have hH : headN e n = 35 := headN_ok hok
  have hm1 : 16 ≤ m := hok.2.2.2.1
  have hm2 : m ≤ 1516 := hok.2.2.2.2
  have he : e ≤ 9223372036854775807 := by have := hok.2.1; omega
  have hn : n ≤ 1048576 := by have := hok.2.2.1; omega
  have CO := fun X => implLetterOk_any e p q n c m d X (by omega)
  rw [decide_eq_true hok] at CO
  have CH := fun X (hX : BytesIn X p n xs) => letterHead_any e p q n c m d xs X he hn hx hX
  rw [hH] at CH
  have hHl : (headL e xs).length = 35 := by rw [headL_length, hx, hH]
  clear hok hH
  generalize headL e xs = HL at CH hHl ⊢
  obtain ⟨S, hS⟩ : ∃ S : Nat, S = 35 + m := ⟨_, rfl⟩
  have hSi : (35 : Int) + (m : Int) = (S : Int) := by omega
  rw [← hS]
  have hmk := fun W => makeM S (by omega) W
  rw [madeM] at hmk
  obtain ⟨Z, hZ⟩ : ∃ Z, Z = noughtV S := ⟨_, rfl⟩
  have hZl : Z.length = S := by rw [hZ, noughtV_length]
  rw [← hZ] at hmk
  obtain ⟨V, hV⟩ : ∃ V, V = HL.map (Value.int .u8) := ⟨_, rfl⟩
  obtain ⟨U, hU⟩ : ∃ U, U = ys.map (Value.int .u8) := ⟨_, rfl⟩
  have hVl : V.length = 35 := by rw [hV]; simpa using hHl
  have hUl : U.length = m := by rw [hU]; simpa using hy
  have hVo : ∀ v ∈ V, v.oneCell' = true := by rw [hV]; exact u8_one _
  have hUo : ∀ v ∈ U, v.oneCell' = true := by rw [hU]; exact u8_one _
  have hpV : ∀ X (pp : Option Addr), BytesIn X pp 35 HL → 0 < V.length → ∃ ad, pp = some ad ∧ ∀ j v, V[j]? = some v → X.cell? (ad.add j) = some v := fun X pp hX h0 => by rw [hV] at h0 ⊢; exact in_cells hX hHl h0
  have hpU : ∀ X, Below w.heap.size w X → 0 < U.length → ∃ ad, q = some ad ∧ ∀ j v, U[j]? = some v → X.cell? (ad.add j) = some v := fun X hX h0 => by rw [hU] at h0 ⊢; exact in_cells (in_below h' hX) hy h0
  have hfin : Hid (splice (splice Z 0 V) 35 U = (HL ++ ys).map (Value.int .u8)) := by
    have e1 : splice Z 0 V = V ++ Z.drop 35 := by rw [splice, List.take_zero, List.nil_append, Nat.zero_add, hVl]
    show splice (splice Z 0 V) 35 U = _
    rw [e1, splice, hUl, ← hVl, List.take_left, List.drop_of_length_le (by rw [List.length_append, List.length_drop]; omega), List.append_nil, List.map_append, hV, hU]
  clear hV hU hZ hi hz0 hz1 hz2
  go_enter Try.func26, Try.ntmps26
  go_wp2_with (fail)
  refine (CO _).mono ?_
  rintro z w1 ⟨rfl, b1⟩
  have C1 := (Cells.made w _ _).on b1
  have k1 := made_below _ _ b1
  have bz : Below w1.heap.size w1 (w1.alloc (.cells Z.toArray 5)) := made_below _ _ (Below.refl _ _)
  have C2 := C1.on bz
  have k2 := below_on k1 bz
  have l0 : w1.cell? ⟨w.heap.size, 2, none⟩ = some (.slice q m d) := (C1.2 2).1
  have m0 : (w1.alloc (.cells Z.toArray 5)).cell? ⟨w.heap.size, 0, none⟩ = some (.int .i64 e) := (C2.2 0).1
  have m1 : (w1.alloc (.cells Z.toArray 5)).cell? ⟨w.heap.size, 1, none⟩ = some (.slice p n c) := (C2.2 1).1
  have m2 : (w1.alloc (.cells Z.toArray 5)).cell? ⟨w.heap.size, 2, none⟩ = some (.slice q m d) := (C2.2 2).1
  clear b1 CO
  replace hS : Hid (S = 35 + m) := hS
  go_wp2_with (fail)
  refine (CH _ (in_below h k2)).mono ?_
  rintro z w3 ⟨ph, ch, rfl, rh, b3⟩
  have hrow : w3.heap[w1.heap.size]? = some (.cells Z.toArray 5 (0, 0)) := (b3.block _ (by simp)).trans (heap_made _ _)
  have k3 : Below w1.heap.size w1 w3 := made_below _ _ b3
  have hlt := C1.1
  clear CH m0 m1 m2 l0 C2 k2 bz
  go_wp2_with (refine wpList_copy_splice (by rfl) (.tmp 12) (.tmp 14) 22 22 (by rfl) 5 Try.underlying22 hs5 (some ⟨w1.heap.size, 0, none⟩) ph S S 35 ch (by rfl) (by rfl) w1.heap.size 0 Z 5 hrow V (by rw [hVl]; have := hS.out; exact (Nat.min_eq_left (by omega)).symm) (fun h0 => ⟨rfl, hpV _ _ rh.bytes h0⟩) (by have := hS.out; omega) hVo w1.heap.size w1 k3 (Nat.le_refl _) ?_; intro w4 hg4 hb4)
  have C4 := C1.on hb4
  have l2 : w4.cell? ⟨w.heap.size, 2, none⟩ = some (.slice q m d) := (C4.2 2).1
  have k4 : Below w.heap.size w w4 := below_on k1 hb4
  have hsl : ∀ W, (Instr.slice 22 (.slice (some ⟨w1.heap.size, 0, none⟩) S S) (some (.int .i64 35)) none none).run Try.prog W = .ok (.slice (some ⟨w1.heap.size, 35, none⟩) m m) W := fun W => by
    have := slice_35 w1.heap.size 0 S S (by have := hS.out; omega) (Nat.le_refl _) W
    rw [show S - 35 = m by have := hS.out; omega, Nat.zero_add] at this
    exact this
  have hd4 : w4.drew.heap[w1.heap.size]? = some (.cells (splice Z 0 V).toArray 5 (0, 0)) := hg4.out
  obtain ⟨Y, hY⟩ : ∃ Y, Y = splice Z 0 V := ⟨_, rfl⟩
  have hYl : Y.length = S := by rw [hY, length_splice _ _ _ (by have := hS.out; omega), hZl]
  have hfin' : Hid (splice Y 35 U = (HL ++ ys).map (Value.int .u8)) := by rw [hY]; exact hfin
  rw [← hY] at hd4
  have bd4 : Below w1.heap.size w1 w4.drew := hb4.drew
  have hpU' := hpU _ k4.drew
  clear hY hg4 hfin C4 hrow rh b3 k3 hpV hpU hmk C1
  go_region_law (refine step_copy_splice (by rfl) (.tmp 17) (.tmp 19) 22 22 (by rfl) 5 Try.underlying22 hs5 (some ⟨w1.heap.size, 35, none⟩) q m m m d (by rfl) (by rfl) w1.heap.size 35 Y 5 hd4 U (by rw [hUl]; exact (Nat.min_self m).symm) (fun h0 => ⟨rfl, hpU' h0⟩) (by have := hS.out; omega) hUo w1.heap.size w1 bd4 (Nat.le_refl _) ?_; intro w5 hg5 hb5)
  all_goals
    go_wp2
    go_ret
    have hg6 := hg5.out
    rw [hfin'.out] at hg6
    refine ⟨_, _, rfl, ?_, below_on k1 hb5⟩
    exact row_own hg6 (by omega) (by rw [List.length_append, hHl, hy]; exact hS.out.symm) (by have := hS.out; omega)

set_option maxHeartbeats 2000000 in
theorem implLetterBytes_no (e : Int) (p q : Option Addr) (n c m d : Nat) (w : World) (hm : m ≤ 9223372036854775807) (hok : ¬ letOk e n m) :
    Calls Try.prog 26 #[.agg #[.int .i64 e, .slice p n c, .slice q m d]] w fun z w' => z = .returned (.slice none 0 0) ∧ Below w.heap.size w w' := by
  have CO := fun X => implLetterOk_any e p q n c m d X hm
  rw [decide_eq_false hok] at CO
  go_enter Try.func26, Try.ntmps26
  go_wp2_with (fail)
  refine (CO _).mono ?_
  rintro z w1 ⟨rfl, b1⟩
  have k1 := made_below _ _ b1
  go_wp2_with (fail)
  go_ret
  exact ⟨rfl, k1⟩

theorem implLetterBytes_any (e : Int) (p q : Option Addr) (n c m d : Nat) (xs ys : List Int) (w : World) (hm : m ≤ 9223372036854775807) (hx : xs.length = n) (hy : ys.length = m) (h : BytesIn w p n xs) (h' : BytesIn w q m ys) :
    Calls Try.prog 26 #[.agg #[.int .i64 e, .slice p n c, .slice q m d]] w fun z w' => ∃ p' c', z = .returned (.slice p' (lbN e n m) c') ∧ Own 5 w' w.heap.size w'.heap.size (.slice p' (lbN e n m) c') (lbN e n m) (lbL e xs ys) ∧ Below w.heap.size w w' := by
  rw [lbN, lbL, hx, hy]
  by_cases hok : letOk e n m
  · rw [if_pos hok, if_pos hok]
    exact implLetterBytes_yes e p q n c m d xs ys w hok hx hy h h'
  · rw [if_neg hok, if_neg hok]
    refine (implLetterBytes_no e p q n c m d w hm hok).mono ?_
    rintro z w' ⟨rfl, b⟩
    exact ⟨_, _, rfl, .of ⟨rfl, .inl ⟨rfl, rfl⟩⟩, b⟩

theorem one_own (w : World) : (w.alloc (.cells #[.int .u8 1] 5)).ownsRow w.heap.size 5 1 (.slice (some ⟨w.heap.size, 0, none⟩) 1 1) 1 (([1] : List Int).map (Value.int .u8)) := by
  have h := heap_made w (.cells #[.int .u8 1] 5)
  refine ⟨by simp, .inr ⟨w.heap.size, 1, _, rfl, Nat.le_refl _, h, Nat.le_refl _, by unfold maxLen; omega, by simp, by simp⟩⟩

set_option maxHeartbeats 4000000 in
theorem specLetterBytes_yes (e : Int) (p q : Option Addr) (n c m d : Nat) (xs ys : List Int) (w : World) (hok : letOk e n m) (hx : xs.length = n) (hy : ys.length = m) (h : BytesIn w p n xs) (h' : BytesIn w q m ys) :
    Calls Try.prog 25 #[.agg #[.int .i64 e, .slice p n c, .slice q m d]] w fun z w' => ∃ p' c', z = .returned (.slice p' (35 + m) c') ∧ Own 5 w' w.heap.size w'.heap.size (.slice p' (35 + m) c') (35 + m) (headL e xs ++ ys) ∧ Below w.heap.size w w' := by
  obtain ⟨i0, hi, hz0, hz1, hz2⟩ := info_parts infoByte
  have hm1 : 16 ≤ m := hok.2.2.2.1
  have hm2 : m ≤ 1516 := hok.2.2.2.2
  have he : e ≤ 9223372036854775807 := by have := hok.2.1; omega
  have hn : n = 32 := hok.2.2.1
  have CO := fun X => specLetterOk_any e p q n c m d X (by omega)
  rw [decide_eq_true hok] at CO
  have CG := fun X => specGreat_any e 2 X he
  have hFl : ((fitL e 2).reverse).length = 2 := by rw [List.length_reverse, fitL_length, fitN_two hok.1]
  rw [fitN_two hok.1] at CG
  obtain ⟨TL, hTL⟩ : ∃ TL, TL = headL e xs ++ ys := ⟨_, rfl⟩
  obtain ⟨TN, hTN⟩ : ∃ TN, TN = 35 + m := ⟨_, rfl⟩
  rw [← hTL, ← hTN]
  have HT : Hid (TL = [1] ++ (fitL e 2).reverse ++ xs ++ ys) := hTL
  have HN : Hid (TN = 1 + 2 + n + m) := by show _ = _; omega
  clear hTL hTN
  replace hn : n ≤ 1048576 := by omega
  clear hok
  generalize (fitL e 2).reverse = FL at CG hFl HT
  go_enter Try.func25, Try.ntmps25
  go_wp2_with (fail)
  refine (CO _).mono ?_
  rintro z w1 ⟨rfl, b1⟩
  have C1 := (Cells.made w _ _).on b1
  have k1 := made_below _ _ b1
  clear b1 CO
  have o1 := one_own w1
  have bo : Below w1.heap.size w1 (w1.alloc (.cells #[.int .u8 1] 5)) := made_below _ _ (Below.refl _ _)
  have l0 : (w1.alloc (.cells #[.int .u8 1] 5)).cell? ⟨w.heap.size, 0, none⟩ = some (.int .i64 e) := ((C1.on bo).2 0).1
  go_wp2_with (fail)
  refine (CG _).mono ?_
  rintro z w2 ⟨p2, c2, rfl, r2, b2⟩
  have o2 := owns_below o1 b2
  have k2 : Below w1.heap.size w1 w2 := made_below _ _ b2
  have hin2 := r2.bytes
  have hsz2 := k2.size
  clear o1 bo l0 CG r2 b2
  obtain ⟨L3, hL3⟩ : ∃ L3, [1] ++ FL = L3 := ⟨_, rfl⟩
  obtain ⟨L4, hL4⟩ : ∃ L4, L3 ++ xs = L4 := ⟨_, rfl⟩
  obtain ⟨N4, hN4⟩ : ∃ N4, 3 + n = N4 := ⟨_, rfl⟩
  have hN4' : N4 ≤ 2000000 := by omega
  replace hL3 : Hid ([1] ++ FL = L3) := hL3
  replace hL4 : Hid (L3 ++ xs = L4) := hL4
  replace hN4 : Hid (3 + n = N4) := hN4
  go_wp2_with (first
    | (at_builtin; refine list_spreadA hi hz0 hz1 hz2 (.tmp 8) (.tmp 11) 22 Try.underlying22 o2 hin2 hFl (by omega) (by omega) hsz2 (by rfl) (by rfl) (by rfl) (by rfl) ?_; intro p3 c3 w3 o3 b3; rw [hL3.out, show (1 + 2 : Nat) = 3 from rfl] at o3; rw [show (1 + 2 : Nat) = 3 from rfl]; have k3 := k2.trans b3; have hsz3 := k3.size; have l1 : w3.cell? ⟨w.heap.size, 1, none⟩ = some (.slice p n c) := ((C1.on k3).2 1).1; have hin3 := in_below h (below_on k1 k3); clear o2 hin2 b3)
    | (at_builtin; refine list_spreadA hi hz0 hz1 hz2 (.tmp 13) (.tmp 15) 22 Try.underlying22 o3 hin3 hx (by omega) (by omega) hsz3 (by rfl) (by rfl) (by rfl) (by rfl) ?_; intro p4 c4 w4 o4 b4; rw [hL4.out, hN4.out] at o4; rw [hN4.out]; have k4 := k3.trans b4; have hsz4 := k4.size; have l2 : w4.cell? ⟨w.heap.size, 2, none⟩ = some (.slice q m d) := ((C1.on k4).2 2).1; have hin4 := in_below h' (below_on k1 k4); clear o3 hin3 b4)
    | (at_builtin; refine list_spreadA hi hz0 hz1 hz2 (.tmp 17) (.tmp 19) 22 Try.underlying22 o4 hin4 hy (by omega) (by omega) hsz4 (by rfl) (by rfl) (by rfl) (by rfl) ?_; intro p5 c5 w5 o5 b5; rw [← hL4.out, ← hL3.out, ← HT.out, show N4 + m = TN by have := hN4.out; have := HN.out; omega] at o5; rw [show N4 + m = TN by have := hN4.out; have := HN.out; omega]; have k5 := k4.trans b5; clear o4 hin4 b5))
  go_ret
  exact ⟨_, _, rfl, .of (owns_mono o5 k1.size), below_on k1 k5⟩

set_option maxHeartbeats 2000000 in
theorem specLetterBytes_no (e : Int) (p q : Option Addr) (n c m d : Nat) (w : World) (hm : m ≤ 9223372036854775807) (hok : ¬ letOk e n m) :
    Calls Try.prog 25 #[.agg #[.int .i64 e, .slice p n c, .slice q m d]] w fun z w' => ∃ p' c', z = .returned (.slice p' 0 c') ∧ Own 5 w' w.heap.size w'.heap.size (.slice p' 0 c') 0 [] ∧ Below w.heap.size w w' := by
  have CO := fun X => specLetterOk_any e p q n c m d X hm
  rw [decide_eq_false hok] at CO
  go_enter Try.func25, Try.ntmps25
  go_wp2_with (fail)
  refine (CO _).mono ?_
  rintro z w1 ⟨rfl, b1⟩
  have k1 := made_below _ _ b1
  have o1 : (w1.alloc (.cells #[] 5)).ownsRow w1.heap.size 5 1 (.slice (some ⟨w1.heap.size, 0, none⟩) 0 0) 0 (([] : List Int).map (Value.int .u8)) := World.ownsRow_made w1 #[] 0 (Nat.le_refl _) (by unfold maxLen; omega) rfl
  have bo : Below w1.heap.size w1 (w1.alloc (.cells #[] 5)) := made_below _ _ (Below.refl _ _)
  go_wp2_with (fail)
  go_ret
  exact ⟨_, _, rfl, .of (owns_mono o1 k1.size), below_on k1 bo⟩

theorem specLetterBytes_any (e : Int) (p q : Option Addr) (n c m d : Nat) (xs ys : List Int) (w : World) (hm : m ≤ 9223372036854775807) (hx : xs.length = n) (hy : ys.length = m) (h : BytesIn w p n xs) (h' : BytesIn w q m ys) :
    Calls Try.prog 25 #[.agg #[.int .i64 e, .slice p n c, .slice q m d]] w fun z w' => ∃ p' c', z = .returned (.slice p' (lbN e n m) c') ∧ Own 5 w' w.heap.size w'.heap.size (.slice p' (lbN e n m) c') (lbN e n m) (lbL e xs ys) ∧ Below w.heap.size w w' := by
  rw [lbN, lbL, hx, hy]
  by_cases hok : letOk e n m
  · rw [if_pos hok, if_pos hok]
    exact specLetterBytes_yes e p q n c m d xs ys w hok hx hy h h'
  · rw [if_neg hok, if_neg hok]
    exact specLetterBytes_no e p q n c m d w hm hok

end Go.Proofs.Ytaijemajolgmfaa
