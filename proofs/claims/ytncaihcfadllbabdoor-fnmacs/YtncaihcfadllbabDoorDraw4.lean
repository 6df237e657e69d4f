/-
  What the laws' draws of chapter 4 make of any code: keys, texts and infos of their own, and how many bytes are asked for. Condition: the code is of bytes, at most 2^20.
-/
import Derived.Test.YtncaihcfadllbabDoorDraw3
import Derived.Deep.RegionHeld3
import Derived.OwnWalk
namespace Go.Proofs.YtncaihcfadllbabDoor
open Go.RowKit

theorem results_tmp4 {fn : Func} {t u v x : Tmp} (h : fn.results = #[.tmp t, .tmp u, .tmp v, .tmp x]) (tmps : Array Value) (P : Program) (w : World) :
    (results fn tmps).run P w = .ok (.tuple #[tmps.getD t undef, tmps.getD u undef, tmps.getD v undef, tmps.getD x undef]) w := by
  simp [results, h]

set_option maxHeartbeats 2000000 in
theorem l4DrawKey_any (a : Nat) (p : Option Addr) (n c : Nat) (xs : List Int) (w : World) (hcur : Cur w a p n c xs) :
    Calls Tryd.prog 55 #[.pointer (some ⟨a, 0, none⟩)] w fun e w' => ∃ g k c' ys, e = .returned (.slice (some ⟨g, 0, none⟩) k c') ∧ k ≤ 1000 ∧ Own 5 w' w.heap.size w'.heap.size (.slice (some ⟨g, 0, none⟩) k c') k ys ∧ (∀ y ∈ ys, 0 ≤ y ∧ y < 256) ∧ Cur w' a p n c xs ∧ w.grownBy w' (some a) := by
  obtain ⟨i0, hi, hz0, hz1, hz2⟩ := info_parts infoByte
  go_enter Tryd.func55, Tryd.ntmps55
  go_wp2_with (fail)
  refine (l1Below_any a p n c xs 20 _ (by omega) (by omega) hcur).mono ?_
  rintro e w1 ⟨x, rfl, hx0, hx1, hc1, g1⟩
  by_cases h0 : x = 0
  · subst h0
    go_wp2_with (fail)
    refine (l1Below_any a p n c xs 4 _ (by omega) (by omega) hc1).mono ?_
    rintro e w2 ⟨y, rfl, hy0, hy1, hc2, g2⟩
    obtain ⟨z, rfl⟩ : ∃ z : Nat, y = (z : Int) := ⟨y.toNat, by omega⟩
    have CJ := l1DrawJust_any a p n c xs (63 + z) w2 (by omega) hc2
    rw [show ((63 + z : Nat) : Int) = 63 + (z : Int) by omega] at CJ
    go_wp2_with (fail)
    refine CJ.mono ?_
    rintro e w3 ⟨g, k, c', ys, rfl, hk, o3, hys, hc3, g3⟩
    have gg := grown_trans g1 g2
    go_wp2_with (fail)
    go_ret
    exact ⟨g, k, c', ys, rfl, hk, o3.mono gg.size (Nat.le_refl _), hys, hc3, grown_trans gg g3⟩
  · by_cases h1 : x = 1
    · subst h1
      go_wp2_with (fail)
      refine (l1Below_any a p n c xs 3 _ (by omega) (by omega) hc1).mono ?_
      rintro e w2 ⟨y, rfl, hy0, hy1, hc2, g2⟩
      obtain ⟨z, rfl⟩ : ∃ z : Nat, y = (z : Int) := ⟨y.toNat, by omega⟩
      have hs := (grown_trans g1 g2).size
      go_wp2_with (at_make; refine wpList_make_full _ rfl _ _ 22 rfl w.heap.size 5 i0 (.int .u8 0) 1 Tryd.underlying22 hi hz0 hz1 _ _ _ _ (399 + z) rfl rfl (by simp) (by simp) (by rw [hz2]; omega) (by unfold maxLen; omega) hs ?_; intro w3 ho3 hg3)
      go_ret
      obtain ⟨q1, q2, q3, q4⟩ := zeros_own (grown_trans g1 g2) hc2 ho3 hg3
      exact ⟨_, _, _, _, rfl, by omega, q1, q2, q3, q4⟩
    · have d0 : (x == 0) = false := by simpa using h0
      have d1 : (x == 1) = false := by simpa using h1
      go_wp2_with (fail)
      refine (l1DrawBytes_any a p n c xs 40 _ (by omega) (by omega) hc1).mono ?_
      rintro e w2 ⟨g, k, c', ys, rfl, hk, o2, hys, hc2, g2⟩
      go_wp2_with (fail)
      go_ret
      exact ⟨g, k, c', ys, rfl, by omega, o2.mono g1.size (Nat.le_refl _), hys, hc2, grown_trans g1 g2⟩

theorem l4DrawMany_any (a : Nat) (p : Option Addr) (n c : Nat) (xs : List Int) (w : World) (hcur : Cur w a p n c xs) :
    Calls Tryd.prog 59 #[.pointer (some ⟨a, 0, none⟩)] w fun e w' => ∃ z : Int, e = .returned (.int .i64 z) ∧ Cur w' a p n c xs ∧ w.grownBy w' (some a) := by
  have ha := hcur.lt
  have hcl := hcur.code_lt
  have hb0 : Below w.heap.size w (w.alloc (.cells ([1, 32, 33, 44, 70, 0, -1, 8160, 8161].map (Value.int .i64)).toArray 3)) := (Below.refl _ _).alloc (Nat.le_refl _) _
  have hc1 := hcur.below hb0 ha hcl
  have C := l1PickInt_any a p n c xs w.heap.size 9 [1, 32, 33, 44, 70, 0, -1, 8160, 8161] _ (by omega) (by omega) rfl (lit_ints w [1, 32, 33, 44, 70, 0, -1, 8160, 8161] 3) (by omega) hc1
  have gg : w.grownBy (w.alloc (.cells ([1, 32, 33, 44, 70, 0, -1, 8160, 8161].map (Value.int .i64)).toArray 3)) (some a) := World.grownBy_alloc w _ _
  go_enter Tryd.func59, Tryd.ntmps59
  go_wp2_with (fail)
  refine C.mono ?_
  rintro e w2 ⟨z, _, rfl, hc2, g2⟩
  go_wp2_with (fail)
  go_ret
  exact ⟨z, rfl, hc2, grown_trans gg g2⟩

set_option maxHeartbeats 2000000 in
theorem drawMac_any (p : Option Addr) (n c : Nat) (xs : List Int) (w : World) (hn : n ≤ 1048576) (hx : xs.length = n) (hb : BytesIn w p n xs) (hr : ∀ x ∈ xs, 0 ≤ x ∧ x < 256) :
    Calls Tryd.prog 19 #[.slice p n c] w fun e w' => ∃ g1 k1 c1 ys g2 k2 c2 zs, e = .returned (.tuple #[.slice (some ⟨g1, 0, none⟩) k1 c1, .slice (some ⟨g2, 0, none⟩) k2 c2]) ∧ k1 ≤ 1000 ∧ k2 ≤ 4000 ∧ Own 5 w' w.heap.size w'.heap.size (.slice (some ⟨g1, 0, none⟩) k1 c1) k1 ys ∧ Own 5 w' w.heap.size w'.heap.size (.slice (some ⟨g2, 0, none⟩) k2 c2) k2 zs ∧ (∀ y ∈ ys, 0 ≤ y ∧ y < 256) ∧ (∀ y ∈ zs, 0 ≤ y ∧ y < 256) ∧ Below w.heap.size w w' := by
  obtain ⟨i0, hi, hz0, hz1, hz2⟩ := info_parts infoByte
  go_enter Tryd.func19, Tryd.ntmps19
  go_wp2_with (fail)
  refine (l1New_any p n c xs _ hn hx hb hr).mono ?_
  rintro e w1 ⟨a, rfl, ha, ha1, hc1, b1⟩
  go_wp2_with (fail)
  refine (l4DrawKey_any a p n c xs _ hc1).mono ?_
  rintro e w2 ⟨g, k, ck, ys, rfl, hk, o2, hys, hc2, g2⟩
  have bel2 := below_cur b1 g2 ha
  go_wp2_with (fail)
  refine (l1Once_any a p n c xs 40 _ (by omega) (by omega) hc2).mono ?_
  rintro e w3 ⟨on, rfl, hc3, g3⟩
  have o3 := o2.cur g3 ha1
  have bel3 := below_cur bel2 g3 ha
  have hs1 := b1.size
  clear o2 hc2 g3 bel2 hc1
  cases on
  · go_wp2_with (fail)
    refine (l1DrawBytes_any a p n c xs 40 _ (by omega) (by omega) hc3).mono ?_
    rintro e w4 ⟨g4, k4, c4, zs, rfl, hk4, o4, hzs, hc4, gg4⟩
    have o3' := o3.cur gg4 ha1
    have bel4 := below_cur bel3 gg4 ha
    have hs2 := gg4.size
    have hs3 := bel3.size
    have hh := o3'.2
    go_wp2_with (fail)
    go_ret2
    exact ⟨_, _, _, _, _, _, _, _, rfl, hk, by omega, Own.of (owns_mono o3'.1 hs1), o4.mono hs3 (Nat.le_refl _), hys, hzs, bel4⟩
  · have hmk : ∀ (z : Nat), z ≤ 4000 → ∀ W : World, (Instr.makeSlice 22 (.int .i64 (z : Int)) (.int .i64 (z : Int))).run Tryd.prog W = .ok (.slice (some ⟨W.heap.size, 0, none⟩) z z) (W.alloc (.cells (madeCells #[.int .u8 0] z) 5)) := by
      intro z hz W
      have := run_makeSlice (P := Tryd.prog) W 22 5 i0 (.int .u8 0) Tryd.underlying22 hi hz0 .i64 .i64 z z (by omega) (by omega) (by rw [hz1]; simp; omega) (by rw [hz2]; omega) (by omega)
      simpa [hz1, Value.cells] using this
    go_wp2_with (fail)
    refine wp_region_noPanic ?_
    refine wp_region_held_drew (S := fun _ => True) (by kernel_rfl) trivial (fun hHeld => ?_)
    refine wpAnyH_take (i := 0) (v := .slice (some ⟨g, 0, none⟩) k ck) rfl (by kernel_rfl) (by kernel_rfl) (by kernel_rfl) (fun _ _ _ h => h) (Or.inl ⟨by rfl, fun w hSw => by (try dsimp only at hSw); go_simp⟩) hHeld ?_
    simp only [Act.put, List.getElem_toArray, List.getElem_cons_zero, List.setIfInBounds_toArray, List.set_cons_zero, List.set_cons_succ]
    refine wpAnyH_take (i := 1) (v := .pointer (some ⟨a, 0, none⟩)) rfl (by kernel_rfl) (by kernel_rfl) (by kernel_rfl) (fun _ _ _ h => h) (Or.inl ⟨by rfl, fun w hSw => by (try dsimp only at hSw); go_simp⟩) hHeld ?_
    simp only [Act.put, List.getElem_toArray, List.getElem_cons_zero, List.getElem_cons_succ, List.setIfInBounds_toArray, List.set_cons_zero, List.set_cons_succ]
    have bd : Below w3.heap.size w3 w3.drew := (Below.refl _ _).drew
    have hcd := hc3.below bd hc3.lt hc3.code_lt
    have od := o3.on bd
    have beld := below_on bel3 bd
    generalize w3.drew = wd at bd hcd od beld ⊢
    refine wpAnyH_ready (rs := [2]) (by kernel_rfl) (by simp) ?_
    refine AllReadyH.cons rfl (fun K hK => ?_) AllReadyH.nil
    go_simp
    refine (l1Below_any a p n c xs 2 _ (by omega) (by omega) hcd).mono ?_
    rintro e w4 ⟨y, rfl, hy0, hy1, hc4, g4⟩
    obtain ⟨z, hz⟩ : ∃ z : Nat, 3936 + y = (z : Int) := ⟨(3936 + y).toNat, by omega⟩
    have hwz : IntKind.i64.wrap (z : Int) = (z : Int) := by rw [IntKind.wrap_i64]; omega
    have o4 := od.cur g4 ha1
    have bel4 := below_cur beld g4 ha
    go_wp2_with (fail)
    refine hK.out _ _ trivial (fun hHeld => ?_)
    clear hK K
    refine wpAnyH_take (i := 3) (v := .int .i64 (z : Int)) rfl (by kernel_rfl) (by kernel_rfl) (by kernel_rfl) (fun _ _ _ h => h) (Or.inl ⟨by rfl, fun w hSw => by (try dsimp only at hSw); go_simp⟩) hHeld ?_
    simp only [Act.put, List.getElem_toArray, List.getElem_cons_zero, List.getElem_cons_succ, List.setIfInBounds_toArray, List.set_cons_zero, List.set_cons_succ]
    refine wpAnyH_take (i := 5) (v := .slice (some ⟨g, 0, none⟩) k ck) rfl (by kernel_rfl) (by kernel_rfl) (by kernel_rfl) (fun _ _ _ h => h) (Or.inl ⟨by rfl, fun w hSw => by (try dsimp only at hSw); go_simp⟩) hHeld ?_
    simp only [Act.put, List.getElem_toArray, List.getElem_cons_zero, List.getElem_cons_succ, List.setIfInBounds_toArray, List.set_cons_zero, List.set_cons_succ]
    have hmz := hmk z (by omega) w4
    refine wpAnyH_ready (rs := [4]) (by kernel_rfl) (by simp) ?_
    refine AllReadyH.cons rfl (fun K hK => ?_) AllReadyH.nil
    go_simp
    have be : Below w4.heap.size w4 (w4.alloc (.cells (madeCells #[.int .u8 0] z) 5)) := (Below.refl _ _).alloc (Nat.le_refl _) _
    have oe := o4.on be
    have ne : (w4.alloc (.cells (madeCells #[.int .u8 0] z) 5)).ownsRow w4.heap.size 5 1 (.slice (some ⟨w4.heap.size, 0, none⟩) z z) z ((List.replicate z (0 : Int)).map (Value.int .u8)) := by
      refine ⟨by simp, .inr ⟨w4.heap.size, z, _, rfl, Nat.le_refl _, heap_alloc_new w4 _, Nat.le_refl _, by unfold maxLen; omega, ?_, ?_⟩⟩
      · rw [← Array.length_toList, toList_madeCells_one]; simp
      · rw [zeros_made, List.take_of_length_le (by simp)]
    have bele := below_on bel4 be
    have hs4 := bel4.size
    have yz : ∀ y ∈ List.replicate z (0 : Int), 0 ≤ y ∧ y < 256 := fun y hy => by
      have := List.eq_of_mem_replicate hy
      omega
    generalize List.replicate z (0 : Int) = ZL at ne yz
    generalize w4.alloc (.cells (madeCells #[.int .u8 0] z) 5) = we at oe ne bele ⊢
    refine hK.out _ _ trivial (fun hHeld => ?_)
    clear hK K be
    refine wpAnyH_take (i := 6) (v := .slice (some ⟨w4.heap.size, 0, none⟩) z z) rfl (by kernel_rfl) (by kernel_rfl) (by kernel_rfl) (fun _ _ _ h => h) (Or.inl ⟨by rfl, fun w hSw => by (try dsimp only at hSw); go_simp⟩) hHeld ?_
    simp only [Act.put, List.getElem_toArray, List.getElem_cons_zero, List.getElem_cons_succ, List.setIfInBounds_toArray, List.set_cons_zero, List.set_cons_succ]
    refine wpAnyH_done (by kernel_rfl) ?_ _
    refine NoPanic.normal ?_
    go_wp2_with (fail)
    go_ret2
    exact ⟨_, _, _, _, _, _, _, _, rfl, hk, by omega, Own.of (owns_mono oe.1 hs1), Own.of (owns_mono ne hs4), hys, yz, bele⟩

theorem drawExtract_any (p : Option Addr) (n c : Nat) (xs : List Int) (w : World) (hn : n ≤ 1048576) (hx : xs.length = n) (hb : BytesIn w p n xs) (hr : ∀ x ∈ xs, 0 ≤ x ∧ x < 256) :
    Calls Tryd.prog 21 #[.slice p n c] w fun e w' => ∃ g1 k1 c1 ys g2 k2 c2 zs, e = .returned (.tuple #[.slice (some ⟨g1, 0, none⟩) k1 c1, .slice (some ⟨g2, 0, none⟩) k2 c2]) ∧ k1 ≤ 1000 ∧ k2 ≤ 4000 ∧ Own 5 w' w.heap.size w'.heap.size (.slice (some ⟨g1, 0, none⟩) k1 c1) k1 ys ∧ Own 5 w' w.heap.size w'.heap.size (.slice (some ⟨g2, 0, none⟩) k2 c2) k2 zs ∧ (∀ y ∈ ys, 0 ≤ y ∧ y < 256) ∧ (∀ y ∈ zs, 0 ≤ y ∧ y < 256) ∧ Below w.heap.size w w' := by
  go_enter Tryd.func21, Tryd.ntmps21
  go_wp2_with (fail)
  refine (drawMac_any p n c xs _ hn hx hb hr).mono ?_
  rintro e w1 ⟨g1, k1, c1, ys, g2, k2, c2, zs, rfl, h1, h2, o1, o2, y1, y2, b1⟩
  go_wp2_with (fail)
  go_ret2
  exact ⟨_, _, _, _, _, _, _, _, rfl, h1, h2, o1, o2, y1, y2, b1⟩

set_option maxHeartbeats 2000000 in
theorem drawExpand_any (p : Option Addr) (n c : Nat) (xs : List Int) (w : World) (hn : n ≤ 1048576) (hx : xs.length = n) (hb : BytesIn w p n xs) (hr : ∀ x ∈ xs, 0 ≤ x ∧ x < 256) :
    Calls Tryd.prog 22 #[.slice p n c] w fun e w' => ∃ g1 k1 c1 ys g2 k2 c2 zs z, e = .returned (.tuple #[.slice (some ⟨g1, 0, none⟩) k1 c1, .slice (some ⟨g2, 0, none⟩) k2 c2, .int .i64 z]) ∧ k1 ≤ 1000 ∧ k2 ≤ 4000 ∧ Own 5 w' w.heap.size w'.heap.size (.slice (some ⟨g1, 0, none⟩) k1 c1) k1 ys ∧ Own 5 w' w.heap.size w'.heap.size (.slice (some ⟨g2, 0, none⟩) k2 c2) k2 zs ∧ (∀ y ∈ ys, 0 ≤ y ∧ y < 256) ∧ (∀ y ∈ zs, 0 ≤ y ∧ y < 256) ∧ Below w.heap.size w w' := by
  go_enter Tryd.func22, Tryd.ntmps22
  go_wp2_with (fail)
  refine (l1New_any p n c xs _ hn hx hb hr).mono ?_
  rintro e w1 ⟨a, rfl, ha, ha1, hc1, b1⟩
  go_wp2_with (fail)
  refine (l4DrawKey_any a p n c xs _ hc1).mono ?_
  rintro e w2 ⟨g, k, ck, ys, rfl, hk, o2, hys, hc2, g2⟩
  have bel2 := below_cur b1 g2 ha
  go_wp2_with (fail)
  refine (l1DrawBytes_any a p n c xs 12 _ (by omega) (by omega) hc2).mono ?_
  rintro e w3 ⟨g3, k3, c3, zs, rfl, hk3, o3, hzs, hc3, gg3⟩
  have o2' := o2.cur gg3 ha1
  have bel3 := below_cur bel2 gg3 ha
  have ha2 : a < w2.heap.size := hc2.lt
  go_wp2_with (fail)
  refine (l4DrawMany_any a p n c xs _ hc3).mono ?_
  rintro e w4 ⟨z, rfl, hc4, gg4⟩
  have o2'' := o2'.cur gg4 ha1
  have o3' := o3.cur gg4 ha2
  have bel4 := below_cur bel3 gg4 ha
  have hs1 := b1.size
  have hs2 := bel2.size
  go_wp2_with (fail)
  go_ret3
  exact ⟨_, _, _, _, _, _, _, _, _, rfl, hk, by omega, Own.of (owns_mono o2''.1 hs1), Own.of (owns_mono o3'.1 hs2), hys, hzs, bel4⟩

set_option maxHeartbeats 2000000 in
theorem drawDerive_any (p : Option Addr) (n c : Nat) (xs : List Int) (w : World) (hn : n ≤ 1048576) (hx : xs.length = n) (hb : BytesIn w p n xs) (hr : ∀ x ∈ xs, 0 ≤ x ∧ x < 256) :
    Calls Tryd.prog 24 #[.slice p n c] w fun e w' => ∃ g1 k1 c1 ys g2 k2 c2 zs g3 k3 c3 us z, e = .returned (.tuple #[.slice (some ⟨g1, 0, none⟩) k1 c1, .slice (some ⟨g2, 0, none⟩) k2 c2, .slice (some ⟨g3, 0, none⟩) k3 c3, .int .i64 z]) ∧ k1 ≤ 1000 ∧ k2 ≤ 4000 ∧ k3 ≤ 4000 ∧ Own 5 w' w.heap.size w'.heap.size (.slice (some ⟨g1, 0, none⟩) k1 c1) k1 ys ∧ Own 5 w' w.heap.size w'.heap.size (.slice (some ⟨g2, 0, none⟩) k2 c2) k2 zs ∧ Own 5 w' w.heap.size w'.heap.size (.slice (some ⟨g3, 0, none⟩) k3 c3) k3 us ∧ (∀ y ∈ ys, 0 ≤ y ∧ y < 256) ∧ (∀ y ∈ zs, 0 ≤ y ∧ y < 256) ∧ (∀ y ∈ us, 0 ≤ y ∧ y < 256) ∧ Below w.heap.size w w' := by
  go_enter Tryd.func24, Tryd.ntmps24
  go_wp2_with (fail)
  refine (l1New_any p n c xs _ hn hx hb hr).mono ?_
  rintro e w1 ⟨a, rfl, ha, ha1, hc1, b1⟩
  go_wp2_with (fail)
  refine (l4DrawKey_any a p n c xs _ hc1).mono ?_
  rintro e w2 ⟨g, k, ck, ys, rfl, hk, o2, hys, hc2, g2⟩
  have bel2 := below_cur b1 g2 ha
  go_wp2_with (fail)
  refine (l1DrawBytes_any a p n c xs 40 _ (by omega) (by omega) hc2).mono ?_
  rintro e w3 ⟨g3, k3, c3, zs, rfl, hk3, o3, hzs, hc3, gg3⟩
  have o2' := o2.cur gg3 ha1
  have bel3 := below_cur bel2 gg3 ha
  have ha2 : a < w2.heap.size := hc2.lt
  go_wp2_with (fail)
  refine (l1DrawBytes_any a p n c xs 12 _ (by omega) (by omega) hc3).mono ?_
  rintro e w4 ⟨g4, k4, c4, us, rfl, hk4, o4, hus, hc4, gg4⟩
  have o2'' := o2'.cur gg4 ha1
  have o3' := o3.cur gg4 ha2
  have bel4 := below_cur bel3 gg4 ha
  have ha3 : a < w3.heap.size := hc3.lt
  go_wp2_with (fail)
  refine (l4DrawMany_any a p n c xs _ hc4).mono ?_
  rintro e w5 ⟨z, rfl, hc5, gg5⟩
  have p2 := o2''.cur gg5 ha1
  have p3 := o3'.cur gg5 ha2
  have p4 := o4.cur gg5 ha3
  have bel5 := below_cur bel4 gg5 ha
  have hs1 := b1.size
  have hs2 := bel2.size
  have hs3 := bel3.size
  go_wp2_with (fail)
  (try simp only [Exit.inBlock, Exit.then])
  refine bodyPost_ret (results_tmp4 rfl _ _ _) rfl ?_
  exact ⟨_, _, _, _, _, _, _, _, _, _, _, _, _, rfl, hk, by omega, by omega, Own.of (owns_mono p2.1 hs1), Own.of (owns_mono p3.1 hs2), Own.of (owns_mono p4.1 hs3), hys, hzs, hus, bel5⟩

end Go.Proofs.YtncaihcfadllbabDoor
