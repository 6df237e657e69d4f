/-
  FnTags returns true for any code, and writes nothing that was there; conditions: the code is of bytes, the program's Tag answers the tag (a code of more than 1048576 bytes is passed by).
-/
import Derived.Test.YthgnekdhldjjmabTagFacts
import Derived.Test.YthgnekdhldjjmabRegionT
import Derived.Test.YthgnekdhldjjmabDraw6
import Derived.Test.YthgnekdhldjjmabSame
import Derived.Test.YthgnekdhldjjmabBig
import Derived.BigRegion
namespace Go.Proofs.Ythgnekdhldjjmab
open Go.RowKit

theorem zeros16_own (X : World) (lo : Nat) (hlo : lo ≤ X.heap.size) : (X.alloc (.cells (madeCells #[.int .u8 0] 16) 5)).ownsRow lo 5 1 (.slice (some ⟨X.heap.size, 0, none⟩) 16 16) 16 ((List.replicate 16 (0 : Int)).map (Value.int .u8)) := by
  have e := zeros_made 16
  have hs : (madeCells #[Value.int .u8 0] 16).size = 16 := by rw [← Array.length_toList, e]; simp
  refine ⟨by simp, .inr ⟨X.heap.size, 16, _, rfl, hlo, heap_alloc_new X _, Nat.le_refl _, by unfold maxLen; omega, by simp [hs], ?_⟩⟩
  rw [← e, List.take_of_length_le (by simp [hs])]

set_option maxRecDepth 100000 in
set_option maxHeartbeats 8000000 in
theorem fnTags_small (p : Option Addr) (n c : Nat) (xs : List Int) (w : World) (hn : n ≤ 1048576) (hx : xs.length = n) (h : BytesIn w p n xs) (hr : ∀ x ∈ xs, 0 ≤ x ∧ x < 256) (hT : TagIs 7) :
    Calls Try.prog 3 #[.slice p n c] w fun e w' => e = .returned (.bool true) ∧ Below w.heap.size w w' := by
  go_enter Try.func3, Try.ntmps3
  go_wp2_with (fail)
  refine (big_small p n c _ hn).mono ?_
  rintro e w1 ⟨rfl, b1⟩
  have k1 : Below w.heap.size w w1 := below_on (Below.refl _ _) b1
  have z1 := b1.size
  go_wp2_with (fail)
  refine (drawTag_any p n c xs _ hn hx (in_below h k1) hr).mono ?_
  rintro e w2 ⟨g1', k1', c1', y1, g2', k2', c2', y2, rfl, hk1, hk2, s1, s2, hy1, hy2, b2⟩
  have k2 : Below w.heap.size w w2 := below_on k1 b2
  have z2 := b2.size
  go_wp2_with (fail)
  refine (hT (some ⟨g1', 0, none⟩) (some ⟨g2', 0, none⟩) k1' k2' c1' c2' y1 y2 _ s1.len s2.len s1.bytes s2.bytes hy1 hy2 s1.cap s2.cap).mono ?_
  rintro e w3 ⟨pr1, cr1, rfl, r1, b3⟩
  have k3 : Below w.heap.size w w3 := below_on k2 b3
  have z3 := b3.size
  replace s1 := s1.on b3
  replace s2 := s2.on b3
  go_wp2_with (fail)
  refine (specTag_any (some ⟨g1', 0, none⟩) (some ⟨g2', 0, none⟩) k1' k2' c1' c2' y1 y2 _ s1.len s2.len s1.bytes s2.bytes hy1 hy2 s1.cap s2.cap).mono ?_
  rintro e w4 ⟨pr2, cr2, rfl, r2, b4⟩
  have k4 : Below w.heap.size w w4 := below_on k3 b4
  have z4 := b4.size
  replace s1 := s1.on b4
  replace s2 := s2.on b4
  replace r1 := r1.on b4
  go_wp2_with (fail)
  refine (implSame_any pr1 pr2 (tagN k1' k2') (tagN k1' k2') cr1 cr2 (tagL y1 y2) (tagL y1 y2) _ r1.len r2.len r1.bytes r2.bytes).mono ?_
  rintro e w5 ⟨rfl, b5⟩
  have k5 : Below w.heap.size w w5 := below_on k4 b5
  have z5 := b5.size
  replace s1 := s1.on b5
  replace s2 := s2.on b5
  replace r1 := r1.on b5
  replace r2 := r2.on b5
  clear r2
  by_cases t0 : k1' = 32
  rotate_left
  · have z0 : ((k1' : Int) != 32) = true := by simp; omega
    have eN : tagN k1' k2' = 0 := if_neg (fun h => t0 h.1)
    rw [eN]
    go_wp2_with (fail)
    go_ret
    exact ⟨rfl, k5⟩
  subst t0
  have eN : tagN 32 k2' = 16 := if_pos ⟨rfl, by omega⟩
  rw [eN] at r1
  rw [eN]
  have n4 : ¬ (4000 : Int) < (k2' : Int) := by omega
  have hcap := s1.cap
  have hly := s1.len
  have hlz := s2.len
  obtain ⟨i0, hi, hz0, hz1, hz2⟩ := info_parts infoByte
  have hd16 : (y1.drop 16).length = 16 := by simp [hly]
  have hmk : ∀ X : World, (Instr.makeSlice 22 (.int .i64 16) (.int .i64 16)).run Try.prog X = .ok (.slice (some ⟨X.heap.size, 0, none⟩) 16 16) (X.alloc (.cells (madeCells #[.int .u8 0] 16) 5)) := fun X => by
    have := run_makeSlice (P := Try.prog) X 22 5 i0 (.int .u8 0) Try.underlying22 hi hz0 .i64 .i64 16 16 (by omega) (by omega) (by rw [hz1]; simp) (by rw [hz2]; omega) (by omega)
    rw [hz1] at this
    simpa [Value.cells] using this
  have hbz : Below w5.heap.size w5 (w5.drew.alloc (.cells (madeCells #[.int .u8 0] 16) 5)) := (Below.refl _ _).drew.alloc (by simp) _
  have hzo : (w5.drew.alloc (.cells (madeCells #[.int .u8 0] 16) 5)).ownsRow w5.heap.size 5 1 (.slice (some ⟨w5.heap.size, 0, none⟩) 16 16) 16 ((List.replicate 16 (0 : Int)).map (Value.int .u8)) :=
    zeros16_own w5.drew w5.heap.size (by simp)
  have hin16 : BytesIn (w5.drew.alloc (.cells (madeCells #[.int .u8 0] 16) 5)) (some ⟨g1', 16, none⟩) 16 (y1.drop 16) := by
    intro _
    obtain ⟨bb, oo, e1, e2⟩ := (s1.on hbz).bytes (by decide)
    simp only [Option.some.injEq, Addr.mk.injEq, and_true] at e1
    obtain ⟨rfl, rfl⟩ := e1
    refine ⟨_, _, rfl, fun i hi => ?_⟩
    have := e2 (16 + i) (by omega)
    rw [Nat.zero_add] at this
    rw [this]
    simp [List.getD]
  go_wp2_with (fail)
  refine wp_region_noPanic ?_
  refine wp_region_T 5 (fun _ => True) (fun _ => True) (by kernel_rfl) ?_
  refine anyT_takeT (i := 1) (v := .slice (some ⟨g1', 0, none⟩) 32 c1') rfl (by kernel_rfl) (by kernel_rfl) (by kernel_rfl) (by kernel_rfl) (fun _ _ _ h => h) (Or.inl ⟨by rfl, fun X _ => by (go_simp <;> omega)⟩) trivial (fun _ => trivial) ?_
  simp only [Act.put, List.getElem_toArray, List.getElem_cons_zero, List.getElem_cons_succ, List.setIfInBounds_toArray, List.set_cons_zero, List.set_cons_succ]
  refine anyT_takeT (i := 2) (v := .slice (some ⟨g1', 16, none⟩) 16 (c1' - 16)) rfl (by kernel_rfl) (by kernel_rfl) (by kernel_rfl) (by kernel_rfl) (fun _ _ _ h => h) (Or.inl ⟨by rfl, fun X _ => by (go_simp <;> omega)⟩) trivial (fun _ => trivial) ?_
  simp only [Act.put, List.getElem_toArray, List.getElem_cons_zero, List.getElem_cons_succ, List.setIfInBounds_toArray, List.set_cons_zero, List.set_cons_succ]
  refine anyT_one (i := 0) (by kernel_rfl) rfl (fun K hK => ?_)
  go_simp
  refine hK.out _ _ trivial (fun _ => trivial) ?_
  clear hK K
  refine anyT_one (i := 3) (by kernel_rfl) rfl (fun K hK => ?_)
  refine step_spread hi hz0 hz1 hz2 (.tmp 34) (.tmp 36) 22 Try.underlying22 (base := w5.heap.size) hzo hin16 hd16 (by decide) (by omega) (by omega) (by simp) (by rfl) (by rfl) (by rfl) (by rfl) ?_
  intro gn cn wn ho hgn hbn
  refine hK.out _ _ trivial (fun _ => trivial) ?_
  clear hK K
  refine anyT_takeT (i := 4) (v := .slice (some ⟨gn, 0, none⟩) 32 cn) rfl (by kernel_rfl) (by kernel_rfl) (by kernel_rfl) (by kernel_rfl) (fun _ _ _ h => h) (Or.inl ⟨by rfl, fun X _ => by (go_simp <;> omega)⟩) trivial (fun _ => trivial) ?_
  simp only [Act.put, List.getElem_toArray, List.getElem_cons_zero, List.getElem_cons_succ, List.setIfInBounds_toArray, List.set_cons_zero, List.set_cons_succ]
  refine anyT_done (by kernel_rfl) ?_ _
  refine NoPanic.normal ?_
  have kn : Below w5.heap.size w5 wn := hbz.trans hbn
  have rn : Own 5 wn w5.heap.size wn.heap.size (.slice (some ⟨gn, 0, none⟩) 32 cn) 32 (List.replicate 16 0 ++ y1.drop 16) := .of ho
  replace s1 := s1.on kn
  replace s2 := s2.on kn
  replace r1 := r1.on kn
  have kw := below_on k5 kn
  clear ho hbn hgn hzo hin16 hbz hmk kn
  have hyn : ∀ x ∈ List.replicate 16 (0 : Int) ++ y1.drop 16, 0 ≤ x ∧ x < 256 := by
    intro x hx
    rcases List.mem_append.1 hx with h | h
    · rw [(List.mem_replicate.1 h).2]; decide
    · exact bytes_drop hy1 16 x h
  have eT0 := tag_zero (bs := y2) hy1 hly (by omega)
  have eT1 := tag_none hy1 hly
  have eN0 : tagN 32 0 = 16 := if_pos ⟨rfl, by omega⟩
  have CT0 := hT (some ⟨gn, 0, none⟩) (some ⟨g2', 0, none⟩) 32 k2' cn c2' (List.replicate 16 0 ++ y1.drop 16) y2
  rw [eN, eT0] at CT0
  have CT1 := hT (some ⟨g1', 0, none⟩) none 32 0 c1' 0 y1 []
  rw [eN0, eT1] at CT1
  have H16 : Hid (∀ X, BytesIn X (some ⟨g1', 0, none⟩) 32 y1 → BytesIn X (some ⟨g1', 16, none⟩) 16 (y1.drop 16)) := fun X hX _ => by
    obtain ⟨bb, oo, e1, e2⟩ := hX (by decide)
    simp only [Option.some.injEq, Addr.mk.injEq, and_true] at e1
    obtain ⟨rfl, rfl⟩ := e1
    refine ⟨_, _, rfl, fun i hi => ?_⟩
    have := e2 (16 + i) (by omega)
    rw [Nat.zero_add] at this
    rw [this]
    simp [List.getD]
  obtain ⟨Y, hY⟩ : ∃ Y, Y = y1.drop 16 := ⟨_, rfl⟩
  rw [← hY] at hd16
  simp only [← hY] at CT0 CT1 H16 rn hyn
  clear hY eT0 eT1
  go_wp2_with (fail)
  refine wp_region_noPanic ?_
  refine wp_region_T 19 (fun _ => True) (fun _ => True) (by kernel_rfl) ?_
  obtain ⟨wd, hwd⟩ : ∃ wd, wd = wn.drew := ⟨_, rfl⟩
  have bd : Below wn.heap.size wn wd := by rw [hwd]; exact (Below.refl _ _).drew
  rw [← hwd]
  replace s1 := s1.on bd
  replace s2 := s2.on bd
  replace rn := rn.on bd
  replace kw := below_on kw bd
  clear hwd bd
  refine anyT_takeT (i := 0) (v := .slice pr1 16 cr1) rfl (by kernel_rfl) (by kernel_rfl) (by kernel_rfl) (by kernel_rfl) (fun _ _ _ h => h) (Or.inl ⟨by rfl, fun X _ => by (go_simp <;> omega)⟩) trivial (fun _ => trivial) ?_
  simp only [Act.put, List.getElem_toArray, List.getElem_cons_zero, List.setIfInBounds_toArray, List.set_cons_zero, List.set_cons_succ]
  refine anyT_takeT (i := 1) (v := .int .i64 16) rfl (by kernel_rfl) (by kernel_rfl) (by kernel_rfl) (by kernel_rfl) (fun _ _ _ h => h) (Or.inl ⟨by rfl, fun X _ => by (go_simp <;> omega)⟩) trivial (fun _ => trivial) ?_
  simp only [Act.put, List.getElem_toArray, List.getElem_cons_zero, List.getElem_cons_succ, List.setIfInBounds_toArray, List.set_cons_zero, List.set_cons_succ]
  refine anyT_takeT (i := 2) (v := .bool true) rfl (by kernel_rfl) (by kernel_rfl) (by kernel_rfl) (by kernel_rfl) (fun _ _ _ h => h) (Or.inl ⟨by rfl, fun X _ => by (go_simp <;> omega)⟩) trivial (fun _ => trivial) ?_
  simp only [Act.put, List.getElem_toArray, List.getElem_cons_zero, List.getElem_cons_succ, List.setIfInBounds_toArray, List.set_cons_zero, List.set_cons_succ]
  refine anyT_takeT (i := 3) (v := .bool true) rfl (by kernel_rfl) (by kernel_rfl) (by kernel_rfl) (by kernel_rfl) (fun _ _ _ h => h) (Or.inl ⟨by rfl, fun X _ => by (go_simp <;> omega)⟩) trivial (fun _ => trivial) ?_
  simp only [Act.put, List.getElem_toArray, List.getElem_cons_zero, List.getElem_cons_succ, List.setIfInBounds_toArray, List.set_cons_zero, List.set_cons_succ]
  refine anyT_takeT (i := 4) (v := .slice (some ⟨gn, 0, none⟩) 32 cn) rfl (by kernel_rfl) (by kernel_rfl) (by kernel_rfl) (by kernel_rfl) (fun _ _ _ h => h) (Or.inl ⟨by rfl, fun X _ => by (go_simp <;> omega)⟩) trivial (fun _ => trivial) ?_
  simp only [Act.put, List.getElem_toArray, List.getElem_cons_zero, List.getElem_cons_succ, List.setIfInBounds_toArray, List.set_cons_zero, List.set_cons_succ]
  refine anyT_takeT (i := 5) (v := .slice (some ⟨g2', 0, none⟩) k2' c2') rfl (by kernel_rfl) (by kernel_rfl) (by kernel_rfl) (by kernel_rfl) (fun _ _ _ h => h) (Or.inl ⟨by rfl, fun X _ => by (go_simp <;> omega)⟩) trivial (fun _ => trivial) ?_
  simp only [Act.put, List.getElem_toArray, List.getElem_cons_zero, List.getElem_cons_succ, List.setIfInBounds_toArray, List.set_cons_zero, List.set_cons_succ]
  refine anyT_takeT (i := 7) (v := .slice (some ⟨g1', 0, none⟩) 32 c1') rfl (by kernel_rfl) (by kernel_rfl) (by kernel_rfl) (by kernel_rfl) (fun _ _ _ h => h) (Or.inl ⟨by rfl, fun X _ => by (go_simp <;> omega)⟩) trivial (fun _ => trivial) ?_
  simp only [Act.put, List.getElem_toArray, List.getElem_cons_zero, List.getElem_cons_succ, List.setIfInBounds_toArray, List.set_cons_zero, List.set_cons_succ]
  refine anyT_takeT (i := 8) (v := .slice (some ⟨g1', 16, none⟩) 16 (c1' - 16)) rfl (by kernel_rfl) (by kernel_rfl) (by kernel_rfl) (by kernel_rfl) (fun _ _ _ h => h) (Or.inl ⟨by rfl, fun X _ => by (go_simp <;> omega)⟩) trivial (fun _ => trivial) ?_
  simp only [Act.put, List.getElem_toArray, List.getElem_cons_zero, List.getElem_cons_succ, List.setIfInBounds_toArray, List.set_cons_zero, List.set_cons_succ]
  refine anyT_one (i := 6) (by kernel_rfl) rfl (fun K hK => ?_)
  go_simp
  refine (CT0 wd rn.len s2.len rn.bytes s2.bytes hyn hy2 rn.cap s2.cap).mono ?_
  rintro e w6 ⟨p6, c6, rfl, r6, b6⟩
  go_simp
  refine hK.out _ _ trivial (fun _ => trivial) ?_
  clear hK K
  replace s1 := s1.on b6
  replace kw := below_on kw b6
  clear CT0 rn s2
  refine anyT_one (i := 9) (by kernel_rfl) rfl (fun K hK => ?_)
  go_simp
  refine (implSame_any p6 (some ⟨g1', 16, none⟩) 16 16 c6 (c1' - 16) Y Y w6 hd16 hd16 r6.bytes (H16.out _ s1.bytes)).mono ?_
  rintro e w7 ⟨rfl, b7⟩
  go_simp
  refine hK.out _ _ trivial (fun _ => trivial) ?_
  clear hK K
  replace s1 := s1.on b7
  replace kw := below_on kw b7
  clear r6 b6 b7
  refine anyT_takeT (i := 10) (v := .bool true) rfl (by kernel_rfl) (by kernel_rfl) (by kernel_rfl) (by kernel_rfl) (fun _ _ _ h => h) (Or.inl ⟨by rfl, fun X _ => by (go_simp <;> omega)⟩) trivial (fun _ => trivial) ?_
  simp only [Act.put, List.getElem_toArray, List.getElem_cons_zero, List.getElem_cons_succ, List.setIfInBounds_toArray, List.set_cons_zero, List.set_cons_succ]
  refine anyT_takeT (i := 11) (v := .bool true) rfl (by kernel_rfl) (by kernel_rfl) (by kernel_rfl) (by kernel_rfl) (fun _ _ _ h => h) (Or.inl ⟨by rfl, fun X _ => by (go_simp <;> omega)⟩) trivial (fun _ => trivial) ?_
  simp only [Act.put, List.getElem_toArray, List.getElem_cons_zero, List.getElem_cons_succ, List.setIfInBounds_toArray, List.set_cons_zero, List.set_cons_succ]
  refine anyT_takeT (i := 12) (v := .slice (some ⟨g1', 0, none⟩) 32 c1') rfl (by kernel_rfl) (by kernel_rfl) (by kernel_rfl) (by kernel_rfl) (fun _ _ _ h => h) (Or.inl ⟨by rfl, fun X _ => by (go_simp <;> omega)⟩) trivial (fun _ => trivial) ?_
  simp only [Act.put, List.getElem_toArray, List.getElem_cons_zero, List.getElem_cons_succ, List.setIfInBounds_toArray, List.set_cons_zero, List.set_cons_succ]
  refine anyT_takeT (i := 14) (v := .slice (some ⟨g1', 0, none⟩) 32 c1') rfl (by kernel_rfl) (by kernel_rfl) (by kernel_rfl) (by kernel_rfl) (fun _ _ _ h => h) (Or.inl ⟨by rfl, fun X _ => by (go_simp <;> omega)⟩) trivial (fun _ => trivial) ?_
  simp only [Act.put, List.getElem_toArray, List.getElem_cons_zero, List.getElem_cons_succ, List.setIfInBounds_toArray, List.set_cons_zero, List.set_cons_succ]
  refine anyT_takeT (i := 15) (v := .slice (some ⟨g1', 16, none⟩) 16 (c1' - 16)) rfl (by kernel_rfl) (by kernel_rfl) (by kernel_rfl) (by kernel_rfl) (fun _ _ _ h => h) (Or.inl ⟨by rfl, fun X _ => by (go_simp <;> omega)⟩) trivial (fun _ => trivial) ?_
  simp only [Act.put, List.getElem_toArray, List.getElem_cons_zero, List.getElem_cons_succ, List.setIfInBounds_toArray, List.set_cons_zero, List.set_cons_succ]
  refine anyT_one (i := 13) (by kernel_rfl) rfl (fun K hK => ?_)
  go_simp
  refine (CT1 w7 s1.len rfl s1.bytes (fun h => absurd h (by decide)) hy1 (fun _ h => by cases h) s1.cap (by decide)).mono ?_
  rintro e w8 ⟨p8, c8, rfl, r8, b8⟩
  go_simp
  refine hK.out _ _ trivial (fun _ => trivial) ?_
  clear hK K
  replace s1 := s1.on b8
  replace kw := below_on kw b8
  clear CT1
  refine anyT_one (i := 16) (by kernel_rfl) rfl (fun K hK => ?_)
  go_simp
  refine (implSame_any p8 (some ⟨g1', 16, none⟩) 16 16 c8 (c1' - 16) Y Y w8 hd16 hd16 r8.bytes (H16.out _ s1.bytes)).mono ?_
  rintro e w9 ⟨rfl, b9⟩
  go_simp
  refine hK.out _ _ trivial (fun _ => trivial) ?_
  clear hK K
  replace kw := below_on kw b9
  refine anyT_takeT (i := 17) (v := .bool true) rfl (by kernel_rfl) (by kernel_rfl) (by kernel_rfl) (by kernel_rfl) (fun _ _ _ h => h) (Or.inl ⟨by rfl, fun X _ => by (go_simp <;> omega)⟩) trivial (fun _ => trivial) ?_
  simp only [Act.put, List.getElem_toArray, List.getElem_cons_zero, List.getElem_cons_succ, List.setIfInBounds_toArray, List.set_cons_zero, List.set_cons_succ]
  refine anyT_takeT (i := 18) (v := .bool true) rfl (by kernel_rfl) (by kernel_rfl) (by kernel_rfl) (by kernel_rfl) (fun _ _ _ h => h) (Or.inl ⟨by rfl, fun X _ => by (go_simp <;> omega)⟩) trivial (fun _ => trivial) ?_
  simp only [Act.put, List.getElem_toArray, List.getElem_cons_zero, List.getElem_cons_succ, List.setIfInBounds_toArray, List.set_cons_zero, List.set_cons_succ]
  refine anyT_done (by kernel_rfl) ?_ _
  refine NoPanic.normal ?_
  go_wp2_with (fail)
  go_ret
  exact ⟨rfl, kw⟩

theorem fnTags_law (p : Option Addr) (n c : Nat) (xs : List Int) (w : World) (hx : xs.length = n) (h : BytesIn w p n xs) (hr : ∀ x ∈ xs, 0 ≤ x ∧ x < 256) (hT : TagIs 7) :
    Calls Try.prog 3 #[.slice p n c] w fun e w' => e = .returned (.bool true) ∧ Below w.heap.size w w' := by
  by_cases hn : n ≤ 1048576
  · exact fnTags_small p n c xs w hn hx h hr hT
  · go_enter Try.func3, Try.ntmps3
    go_wp2_with (fail)
    refine (big_great p n c _ hn).mono ?_
    rintro e w1 ⟨rfl, b1⟩
    go_wp2_with (fail)
    go_ret
    exact ⟨rfl, b1⟩

end Go.Proofs.Ythgnekdhldjjmab
