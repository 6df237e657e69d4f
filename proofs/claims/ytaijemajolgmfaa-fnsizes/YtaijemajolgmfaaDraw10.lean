/-
  What the draws of chapter 10's law answer: some bytes, at most 1000.
-/
import Derived.Test.YtaijemajolgmfaaBelow
import Derived.Test.YtaijemajolgmfaaSpecNote
import Derived.Test.YtaijemajolgmfaaNoughts
import Derived.Test.YtaijemajolgmfaaMakeB
namespace Go.Proofs.Ytaijemajolgmfaa
open Go.RowKit
set_option maxRecDepth 100000

set_option maxHeartbeats 4000000 in
theorem l10DrawNote_any (a : Nat) (p : Option Addr) (n c : Nat) (xs : List Int) (w : World) (hcur : Cur w a p n c xs) :
    Calls Try.prog 31 #[.pointer (some ⟨a, 0, none⟩)] w fun e w' => ∃ g k c' ys, e = .returned (.slice (some ⟨g, 0, none⟩) k c') ∧ k ≤ 1000 ∧ Own 5 w' w.heap.size w'.heap.size (.slice (some ⟨g, 0, none⟩) k c') k ys ∧ (∀ y ∈ ys, 0 ≤ y ∧ y < 256) ∧ Cur w' a p n c xs ∧ w.grownBy w' (some a) := by
  go_enter Try.func31, Try.ntmps31
  go_wp2_with (fail)
  refine (l1Below_any a p n c xs 20 _ (by omega) (by omega) hcur).mono ?_
  rintro e w1 ⟨x, rfl, hx0, hx1, hc1, g1⟩
  by_cases h0 : x = 0
  · subst h0
    go_wp2_with (fail)
    refine (l1Below_any a p n c xs 2 _ (by omega) (by omega) hc1).mono ?_
    rintro e w2 ⟨y, rfl, hy0, hy1, hc2, g2⟩
    obtain ⟨Z, hZ⟩ : ∃ Z : Nat, 200 + y = (Z : Int) := ⟨(200 + y).toNat, by omega⟩
    have hmk := makeB Z (by omega)
    have g3 := grown_trans g1 g2
    have ho := madeB_own w2 w.heap.size Z g3.size (by omega)
    have hb : Below w2.heap.size w2 (w2.alloc (.cells (madeCells #[.int .u8 0] Z) 5)) := (Below.refl _ _).alloc (Nat.le_refl _) _
    go_wp2_with (fail)
    go_ret
    exact ⟨_, Z, _, _, rfl, by omega, .of ho, nought_byte Z, hc2.below hb hc2.lt hc2.code_lt, grown_below g3 (hb.mono g3.size)⟩
  · by_cases h1 : x = 1
    · subst h1
      go_wp2_with (fail)
      refine (l1Below_any a p n c xs 5 _ (by omega) (by omega) hc1).mono ?_
      rintro e w2 ⟨y, rfl, hy0, hy1, hc2, g2⟩
      obtain ⟨Z, hZ⟩ : ∃ Z : Nat, 92 + y = (Z : Int) := ⟨(92 + y).toNat, by omega⟩
      have hmk := makeB Z (by omega)
      have g3 := grown_trans g1 g2
      have ho := madeB_own w2 w.heap.size Z g3.size (by omega)
      have hb : Below w2.heap.size w2 (w2.alloc (.cells (madeCells #[.int .u8 0] Z) 5)) := (Below.refl _ _).alloc (Nat.le_refl _) _
      go_wp2_with (fail)
      go_ret
      exact ⟨_, Z, _, _, rfl, by omega, .of ho, nought_byte Z, hc2.below hb hc2.lt hc2.code_lt, grown_below g3 (hb.mono g3.size)⟩
    · have d0 : (x == 0) = false := by simpa using h0
      have d1 : (x == 1) = false := by simpa using h1
      go_wp2_with (fail)
      refine (l1DrawBytes_any a p n c xs 40 _ (by omega) (by omega) hc1).mono ?_
      rintro e w2 ⟨g, k, c', ys, rfl, hk, o2, hys, hc2, g2⟩
      go_wp2_with (fail)
      go_ret
      exact ⟨g, k, c', ys, rfl, by omega, o2.mono g1.size (Nat.le_refl _), hys, hc2, grown_trans g1 g2⟩

set_option maxHeartbeats 2000000 in
theorem dPadded (p : Option Addr) (n c : Nat) (xs : List Int) (w : World) (hn : n ≤ 1048576) (hx : xs.length = n) (hb : BytesIn w p n xs) (hr : ∀ x ∈ xs, 0 ≤ x ∧ x < 256) :
    Calls Try.prog 9 #[.slice p n c] w fun e w' => ∃ g k c' ys, e = .returned (.slice g k c') ∧ (k ≤ 1000 ∧ ∀ y ∈ ys, 0 ≤ y ∧ y < 256) ∧ Own 5 w' w.heap.size w'.heap.size (.slice g k c') k ys ∧ Below w.heap.size w w' := by
  go_enter Try.func9, Try.ntmps9
  go_wp2_with (fail)
  refine (l1New_any p n c xs _ hn hx hb hr).mono ?_
  rintro e w1 ⟨a, rfl, ha, ha1, hc1, b1⟩
  go_wp2_with (fail)
  refine (l10DrawNote_any a p n c xs _ hc1).mono ?_
  rintro e w2 ⟨g, k, c', ys, rfl, hk, ho, hys, hc2, g2⟩
  have bel2 := below_cur b1 g2 ha
  go_wp2_with (fail)
  go_ret
  exact ⟨_, k, c', ys, rfl, ⟨hk, hys⟩, .of (owns_mono ho.1 b1.size), bel2⟩

theorem xor1_byte : ∀ v : Nat, v < 256 → 0 ≤ bits .xor .u8 (v : Int) 1 ∧ bits .xor .u8 (v : Int) 1 < 256 := by decide

set_option maxHeartbeats 8000000 in
theorem dUnpadded (p : Option Addr) (n c : Nat) (xs : List Int) (w : World) (hn : n ≤ 1048576) (hx : xs.length = n) (hb : BytesIn w p n xs) (hr : ∀ x ∈ xs, 0 ≤ x ∧ x < 256) :
    Calls Try.prog 11 #[.slice p n c] w fun e w' => ∃ g k c' ys, e = .returned (.slice g k c') ∧ (k ≤ 1000 ∧ ∀ y ∈ ys, 0 ≤ y ∧ y < 256) ∧ Own 5 w' w.heap.size w'.heap.size (.slice g k c') k ys ∧ Below w.heap.size w w' := by
  obtain ⟨i0, hi, hz0, hz1, hz2⟩ := info_parts infoByte
  go_enter Try.func11, Try.ntmps11
  go_wp2_with (fail)
  refine (l1New_any p n c xs _ hn hx hb hr).mono ?_
  rintro e w1 ⟨a, rfl, ha, ha1, hc1, b1⟩
  go_wp2_with (fail)
  refine (l10DrawNote_any a p n c xs _ hc1).mono ?_
  rintro e w2 ⟨g, k, c', ys, rfl, hk, ho, hys, hc2, g2⟩
  have bel2 := below_cur b1 g2 ha
  have CP := specPadded_any (some ⟨g, 0, none⟩) k c' ys w2 (by omega) ho.len ho.bytes
  have hV := noteL_byte hys
  have lV := noteN_le k
  generalize noteN k = K at CP lV
  generalize noteL ys = V at CP hV
  clear ho hys g2 hx hb hr
  go_wp2_with (fail)
  refine CP.mono ?_
  rintro e w3 ⟨p3, c3, rfl, o3, b3⟩
  have z2 := bel2.size
  have bel3 := below_on bel2 b3
  have hc3 := hc2.below b3 hc2.lt hc2.code_lt
  have ha3 := hc2.lt
  clear CP hc2 bel2 b1 hc1 ha1 hk b3
  go_wp2_with (fail)
  refine (l1Below_any a p n c xs 6 _ (by omega) (by omega) hc3).mono ?_
  rintro e w4 ⟨x, rfl, hx0, hx1, hc4, g4⟩
  have bel4 := below_cur bel3 g4 ha
  have o4 := o3.cur g4 ha3
  clear o3 hc3 bel3 g4
  have hcap := owns_cap o4.1
  by_cases h0 : x = 0
  · subst h0
    have hnil : p3 = none → c3 = 0 := by
      intro e
      rcases o4.1.2 with ⟨hv, _⟩ | ⟨g, cap, cur, hv, _⟩
      · simp only [Value.slice.injEq] at hv; exact hv.2.2
      · simp only [Value.slice.injEq] at hv; rw [e] at hv; cases hv.1
    have CB := l1BelowG_any a p n c xs ((K : Int) + 1) w4 (by omega) (by omega) hc4
    go_wp2_with (fail)
    refine CB.mono ?_
    rintro e w5 ⟨y, rfl, hy0, hy1, hc5, g5⟩
    obtain ⟨Y, rfl⟩ : ∃ Y : Nat, y = (Y : Int) := ⟨y.toNat, by omega⟩
    have hY : Y ≤ K := by omega
    have hsl := slice_to p3 K c3 Y (by omega) hnil
    have bel5 := below_cur bel4 g5 ha
    have o5 := (o4.cur g5 ha3).take hY
    clear CB hy1 o4
    go_wp2_with (fail)
    go_ret
    exact ⟨p3, Y, c3, _, rfl, ⟨by omega, fun y hy => hV y (List.mem_of_mem_take hy)⟩, .of (owns_mono o5.1 z2), bel5⟩
  · by_cases h1 : x = 1
    · subst h1
      by_cases hK : 0 < K
      · have hK' : (0 : Int) < (K : Int) := by omega
        obtain ⟨g3, rfl⟩ := owns_at o4.1 hK
        obtain ⟨j, hj⟩ : ∃ j : Nat, j = K - 1 := ⟨_, rfl⟩
        have ej : (K : Int) - 1 = (j : Int) := by omega
        have lj : (j : Int) < (K : Int) := by omega
        have lj' : j < K := by omega
        have hl := o4.len
        have cj : w4.cell? ⟨g3, j, none⟩ = some (.int .u8 (V.getD j 0)) := by
          rw [o4.1.cellAt j (by omega), List.getElem?_map, List.getElem?_eq_getElem (by omega)]
          simp [List.getElem?_eq_getElem (show j < V.length by omega)]
        obtain ⟨u, hu⟩ : ∃ u, u = V.getD j 0 := ⟨_, rfl⟩
        rw [← hu] at cj
        have ub : 0 ≤ u ∧ u < 256 := by
          rw [hu]
          exact hV _ (by simp [List.getElem?_eq_getElem (show j < V.length by omega)])
        have fj := o4.1.frozenAt j
        obtain ⟨v, hv⟩ : ∃ v, v = bits .xor .u8 u 1 := ⟨_, rfl⟩
        have hv' : bits .xor .u8 u 1 = v := hv.symm
        have vb : 0 ≤ v ∧ v < 256 := by
          have := xor1_byte u.toNat (by omega)
          rw [show ((u.toNat : Nat) : Int) = u by omega] at this
          rw [hv]; exact this
        have st := o4.1.stored j (.int .u8 v)
        rw [← List.map_set] at st
        have hlt := o4.1.lt g3 rfl
        have b5 := bel4.grown st.2 bel4.size (fun k hk => by cases hk; omega)
        have s5 := st.1
        clear st hj hu hv o4
        go_wp2_with (fail)
        go_ret
        refine ⟨_, K, c3, _, rfl, ⟨by omega, fun y hy => ?_⟩, .of (owns_mono s5 z2), b5⟩
        rcases List.mem_or_eq_of_mem_set hy with h | h
        · exact hV y h
        · rw [h]; exact vb
      · have hK' : ¬ (0 : Int) < (K : Int) := by omega
        go_wp2_with (fail)
        go_ret
        exact ⟨p3, K, c3, V, rfl, ⟨by omega, hV⟩, .of (owns_mono o4.1 z2), bel4⟩
    · have d0 : (x == 0) = false := by simpa using h0
      have d1 : (x == 1) = false := by simpa using h1
      by_cases h2 : x = 2
      · subst h2
        obtain ⟨p5, c5, w5, hrun, hown, hbel⟩ := run_append_noughts (P := Try.prog) (k := 32) 22 3 22 hi hz0 hz1 hz2 Try.underlying22 Try.underlying3 (owns_mono o4.1 z2) (by omega) bel4.size
        go_wp2_with (at_builtin; refine Lib.wpList_append_run _ rfl _ _ _ _ rfl _ _ rfl rfl _ _ hrun ?_)
        go_ret
        refine ⟨p5, K + 32, c5, _, rfl, ⟨by omega, fun y hy => ?_⟩, .of hown, bel4.trans hbel⟩
        rcases List.mem_append.1 hy with h | h
        · exact hV y h
        · exact nought_byte 32 y h
      · have d2 : (x == 2) = false := by simpa using h2
        go_wp2_with (fail)
        go_ret
        exact ⟨p3, K, c3, V, rfl, ⟨by omega, hV⟩, .of (owns_mono o4.1 z2), bel4⟩

end Go.Proofs.Ytaijemajolgmfaa
