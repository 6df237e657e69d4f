/-
  What the program's take makes of a hash that the call owns and a block of bytes: the words of the hash behind that block. Conditions: words and bytes; what the hash holds of its last block is what that is spread to; the table of the rounds' numbers is as its text says.
-/
import Derived.Test.YthfnechcddmjkaaGreatDoorParf09
import Derived.ChangeKeysEq
namespace Go.Proofs.YthfnechcddmjkaaGreatDoor
open Go.RowKit

theorem eqItems_bytes {P : Program} (w : World) (d : Nat) {e : TypeId} (he : P.underlying e = some (.int .u8)) (hc : P.cellsOf e = 1) (hag : ∀ w, (isAgg e).run P w = .ok false w) (xs ys : List Int) : ∀ (is : List Nat), (∀ i ∈ is, i < xs.length ∧ i < ys.length) →
    (Op.eqItems (d + 1) e (P.cellsOf e) (u8L xs).toArray (u8L ys).toArray is).run P w = .ok (is.all fun i => xs.getD i 0 == ys.getD i 0) w
  | [], _ => by simp [Op.eqItems]
  | i :: is, h => by
    have h1 := h i (by simp)
    have p1 : ∀ zs : List Int, i < zs.length → (part e (u8L zs).toArray (i * 1)).run P w = .ok (.int .u8 (zs.getD i 0)) w := by
      intro zs hz
      simp [part, hag, u8L, List.getElem?_eq_getElem hz]
    have ih := eqItems_bytes w d he hc hag xs ys is (fun j hj => h j (by simp [hj]))
    rw [hc] at ih ⊢
    simp only [Op.eqItems, Sem.run_bind, p1 xs h1.1, p1 ys h1.2, Result.andThen_ok, run_equalIn_int w d e .u8 .u8 _ _ he, List.all_cons]
    simp only [List.getD_eq_getElem?_getD] at ih ⊢
    by_cases hq : xs[i]?.getD 0 = ys[i]?.getD 0
    · simp [hq, ih]
    · simp [hq]

theorem bytes_all {xs ys : List Int} {n : Nat} (hx : xs.length = n) (hy : ys.length = n) : ((List.range n).all fun i => xs.getD i 0 == ys.getD i 0) = decide (xs = ys) := by
  by_cases h : xs = ys
  · subst h
    simp
  · rw [decide_eq_false h]
    rw [Bool.eq_false_iff]
    intro hall
    apply h
    apply List.ext_getElem (by omega)
    intro i h1 h2
    simp only [List.all_eq_true, List.mem_range, beq_iff_eq] at hall
    have := hall i (by omega)
    simpa [List.getElem?_eq_getElem h1, List.getElem?_eq_getElem h2] using this

theorem blkEq (xs ys : List Int) (hx : xs.length = 64) (hy : ys.length = 64) (w : World) : (Op.equalIn 10000 134 (.agg (u8L xs).toArray) (.agg (u8L ys).toArray)).run Tryz.prog w = .ok (decide (xs = ys)) w := by
  obtain ⟨i0, hi, _, hz1, _⟩ := info_parts infoByte
  have hc : Tryz.prog.cellsOf 5 = 1 := by kernel_rfl
  rw [show (10000 : Nat) = 9998 + 1 + 1 from rfl, run_equalIn_array w (9998 + 1) _ _ Tryz.underlying134 hi, eqItems_bytes w 9998 Tryz.underlying5 hc (fun w => by simp [isAgg, run_underlying Tryz.underlying5]) xs ys _ (fun i hi => by rw [List.mem_range] at hi; omega), bytes_all hx hy]

theorem infoBlk : (Tryz.prog.info? 134).map (·.size) = some 64 := by kernel_rfl

section
variable {ty n o : Nat} {A B : List Value} {w : World} {lo g : Nat} {S : List Nat} {L : List Int} {W : List Nat}
theorem HashIn.lastAt (h : HashIn ty n o A B w lo g S L W) : w.rangeAt g (o + 8) (u8L L) := by
  have h1 := h.1
  have h2 := h.2.1
  intro j v hv
  have hj : j < 64 := by have := (List.getElem?_eq_some_iff.1 hv).1; simp [u8L] at this; omega
  rw [Nat.add_assoc, h.cell (8 + j) (by omega), hashC, List.getElem?_append_right (by simp [u32L]; omega), List.getElem?_append_left (by simp [u32L, u8L]; omega), show 8 + j - (u32L S).length = j by simp [u32L]; omega, hv]
theorem HashIn.there (h : HashIn ty n o A B w lo g S L W) (q m : Nat) (hn : q + m ≤ 136) : w.there g (o + q) m := by
  intro j hj
  have hl : (hashC S L W).length = 136 := hashC_length h.1 h.2.1 h.2.2.1
  rw [Nat.add_assoc, h.cell (q + j) (by omega), List.getElem?_eq_getElem (by omega)]
  exact ⟨rfl, h.frozen _⟩
end
theorem u8L_one (l : List Int) : ∀ v ∈ u8L l, v.oneCell' = true := by
  intro v hv
  simp only [u8L, List.mem_map] at hv
  obtain ⟨n, _, rfl⟩ := hv
  rfl
section
variable {ty n o : Nat} {A B : List Value} {w : World} {lo g : Nat} {S : List Nat} {L L' : List Int} {W W' : List Nat}
theorem HashIn.putLast (h : HashIn ty n o A B w lo g S L W) (hL : L'.length = 64) : HashIn ty n o A B (w.setCells g (o + 8) (u8L L')) lo g S L' W ∧ w.grownBy (w.setCells g (o + 8) (u8L L')) (some g) := by
  obtain ⟨h1, h2, h3, h5, h4⟩ := h
  have h6 := owns_put (u8L L') (o + 8) w _ h4
  have e := putL_mid (A ++ u32L S) (u8L L) (u32L W ++ B) (u8L L') (by simp [u8L, hL, h2])
  rw [show (A ++ u32L S).length = o + 8 by simp [u32L, h1, h5]] at e
  simp only [hashC, List.append_assoc] at e h6
  rw [e] at h6
  refine ⟨⟨h1, hL, h3, h5, ?_⟩, h6.2⟩
  simp only [hashC, List.append_assoc]
  exact h6.1
theorem HashIn.putSpread (h : HashIn ty n o A B w lo g S L W) (hW : W'.length = 64) : HashIn ty n o A B (w.setCells g (o + 72) (u32L W')) lo g S L W' ∧ w.grownBy (w.setCells g (o + 72) (u32L W')) (some g) := by
  obtain ⟨h1, h2, h3, h5, h4⟩ := h
  have h6 := owns_put (u32L W') (o + 72) w _ h4
  have e := putL_mid (A ++ (u32L S ++ u8L L)) (u32L W) B (u32L W') (by simp [u32L, hW, h3])
  rw [show (A ++ (u32L S ++ u8L L)).length = o + 72 by simp [u32L, u8L, h1, h2, h5]] at e
  simp only [hashC, List.append_assoc] at e h6
  rw [e] at h6
  refine ⟨⟨h1, h2, hW, h5, ?_⟩, h6.2⟩
  simp only [hashC, List.append_assoc]
  exact h6.1
end
theorem range_below {w w' : World} {b o B : Nat} {cs : List Value} (h : w.rangeAt b o cs) (hb : Below B w w') (hB : b < B) : w'.rangeAt b o cs := fun j v hv => (hb.cell (p := ⟨b, o + j, none⟩) hB).trans (h j v hv)
theorem range_alloc (w : World) (ty : Nat) (xs : List Int) : (w.alloc (.cells (u8L xs).toArray ty)).rangeAt w.heap.size 0 (u8L xs) := by
  intro j v hv
  rw [Nat.zero_add, cell_of_row _ _ _ _ _ _ (heap_alloc_new w _)]
  simpa using hv

set_option maxRecDepth 100000 in
set_option maxHeartbeats 2400000 in
theorem take_any (ty n o : Nat) (A B : List Value) (lo g : Nat) (S : List Nat) (L xs : List Int) (w : World) (hS : ∀ x ∈ S, x < 4294967296) (hLb : ∀ x ∈ L, 0 ≤ x ∧ x < 256) (hx : xs.length = 64) (hb : ∀ x ∈ xs, 0 ≤ x ∧ x < 256) (h : HashIn ty n o A B w lo g S L (spreadN (wsOf L))) (hK : KeysIs w) (hlo : 1 < lo) :
    Calls Tryz.prog 137 #[.pointer (some ⟨g, o, none⟩), .agg (u8L xs).toArray] w fun e w' => e = .returned (.tuple #[]) ∧ HashIn ty n o A B w' lo g (blockN (wsOf xs) S) xs (spreadN (wsOf xs)) ∧ w.grownBy w' (some g) := by
  have hy := h.2.1
  have heq := blkEq xs L hx hy
  have hg := h.lt
  have hsz : (Tryz.prog.info? 134).map (·.size) = some (u8L xs).length := by rw [infoBlk]; simp [u8L, hx]
  have hsz' : (Tryz.prog.info? 134).map (·.size) = some (u8L L).length := by rw [infoBlk]; simp [u8L, hy]
  have hgd : Tryz.prog.eqGuardType Tryz.prog.depth 134 = false := by kernel_rfl
  go_enter Tryz.func137, Tryz.ntmps137
  go_wp2_with (fail)
  have ba : Below w.heap.size w (w.alloc (.cells (u8L xs).toArray 134)) := (Below.refl _ _).alloc (Nat.le_refl _) _
  have ra := range_alloc w 134 xs
  generalize w.alloc (.cells (u8L xs).toArray 134) = wa at ba ra ⊢
  have rb := (h.below ba).lastAt
  have rS : wa.drew.rangeAt w.heap.size 0 (u8L xs) ∧ wa.drew.rangeAt g (o + 8) (u8L L) := by simp only [World.rangeAt_drew]; exact ⟨ra, rb⟩
  refine wp_region_noPanic ?_
  refine wp_region_held_drew (S := fun w' => w'.rangeAt w.heap.size 0 (u8L xs) ∧ w'.rangeAt g (o + 8) (u8L L)) (by kernel_rfl) rS (fun hHeld => ?_)
  refine wpAnyH_take (i := 0) rfl (by kernel_rfl) (by kernel_rfl) (by kernel_rfl) (fun _ _ _ h => h) (yieldsIf_load_mid (by rfl) _ _ rfl _ _ rfl (u8L xs) _ (fun _ hw => hw.1) Tryz.underlying134 rfl hsz) hHeld ?_
  simp only [Act.put, List.getElem_toArray, List.getElem_cons_zero, List.setIfInBounds_toArray, List.set_cons_zero, List.set_cons_succ]
  refine wpAnyH_take (i := 1) (v := .pointer (some ⟨g, o, none⟩)) rfl (by kernel_rfl) (by kernel_rfl) (by kernel_rfl) (fun _ _ _ h => h) (Or.inl ⟨by rfl, fun w hSw => by (try dsimp only at hSw); go_simp⟩) hHeld ?_
  simp only [Act.put, List.getElem_toArray, List.getElem_cons_zero, List.getElem_cons_succ, List.setIfInBounds_toArray, List.set_cons_zero, List.set_cons_succ]
  refine wpAnyH_take (i := 2) (v := .pointer (some ⟨g, o, none⟩)) rfl (by kernel_rfl) (by kernel_rfl) (by kernel_rfl) (fun _ _ _ h => h) (Or.inl ⟨by rfl, fun w hSw => by (try dsimp only at hSw); go_simp⟩) hHeld ?_
  simp only [Act.put, List.getElem_toArray, List.getElem_cons_zero, List.getElem_cons_succ, List.setIfInBounds_toArray, List.set_cons_zero, List.set_cons_succ]
  refine wpAnyH_take (i := 3) (v := .pointer (some ⟨g, o + 8, none⟩)) rfl (by kernel_rfl) (by kernel_rfl) (by kernel_rfl) (fun _ _ _ h => h) (Or.inl ⟨by rfl, fun w hSw => by (try dsimp only at hSw); go_simp⟩) hHeld ?_
  simp only [Act.put, List.getElem_toArray, List.getElem_cons_zero, List.getElem_cons_succ, List.setIfInBounds_toArray, List.set_cons_zero, List.set_cons_succ]
  refine wpAnyH_take (i := 4) rfl (by kernel_rfl) (by kernel_rfl) (by kernel_rfl) (fun _ _ _ h => h) (yieldsIf_load_mid (by rfl) _ _ rfl _ _ rfl (u8L L) _ (fun _ hw => hw.2) Tryz.underlying134 rfl hsz') hHeld ?_
  simp only [Act.put, List.getElem_toArray, List.getElem_cons_zero, List.getElem_cons_succ, List.setIfInBounds_toArray, List.set_cons_zero, List.set_cons_succ]
  refine wpAnyH_take (i := 5) (v := .bool (!decide (xs = L))) rfl (by kernel_rfl) (by kernel_rfl) (by kernel_rfl) (fun _ _ _ h => h) (Or.inl ⟨by rfl, fun w hSw => by (try dsimp only at hSw); go_simp⟩) hHeld ?_
  simp only [Act.put, List.getElem_toArray, List.getElem_cons_zero, List.getElem_cons_succ, List.setIfInBounds_toArray, List.set_cons_zero, List.set_cons_succ]
  refine wpAnyH_done (by kernel_rfl) ?_ _
  refine NoPanic.normal ?_
  have bd : Below w.heap.size w wa.drew := ba.drew
  have hKX : ∀ X, Below w.heap.size w X → KeysIs X := fun X hX t ht => (hX.cell (p := ⟨1, t, none⟩) (show 1 < w.heap.size by omega)).trans (hK t ht)
  by_cases hxl : xs = L
  · subst hxl
    have hd : (!decide (xs = xs)) = false := by simp
    rw [hd]
    go_wp2_with (fail)
    refine (mix_any ty n o A B lo g S xs _ _ hS (spreadN_lt (wsOf_lt hb)) (h.below bd) (hKX _ bd) hlo).mono ?_
    rintro e w2 ⟨rfl, h2, g2⟩
    go_wp2
    go_end0
    exact ⟨rfl, h2, grown_trans (below_grown bd) g2⟩
  · have hd : (!decide (xs = L)) = true := by simp [hxl]
    rw [hd]
    go_wp2_with (fail)
    have hd2 : Below wa.heap.size wa wa.drew := (Below.refl _ _).drew
    generalize wa.drew = wd at bd rS hd2 ⊢
    have rS2 : wd.drew.rangeAt w.heap.size 0 (u8L xs) := by simp only [World.rangeAt_drew]; exact rS.1
    refine wp_region_noPanic ?_
    refine wp_region_held_drew (S := fun w' => w'.rangeAt w.heap.size 0 (u8L xs) ∧ True) (by kernel_rfl) ⟨rS2, trivial⟩ (fun hHeld => ?_)
    refine wpAnyH_take (i := 0) (v := .pointer (some ⟨g, o, none⟩)) rfl (by kernel_rfl) (by kernel_rfl) (by kernel_rfl) (fun _ _ _ h => h) (Or.inl ⟨by rfl, fun w hSw => by (try dsimp only at hSw); go_simp⟩) hHeld ?_
    simp only [Act.put, List.getElem_toArray, List.getElem_cons_zero, List.setIfInBounds_toArray, List.set_cons_zero, List.set_cons_succ]
    refine wpAnyH_take (i := 1) (v := .pointer (some ⟨g, o, none⟩)) rfl (by kernel_rfl) (by kernel_rfl) (by kernel_rfl) (fun _ _ _ h => h) (Or.inl ⟨by rfl, fun w hSw => by (try dsimp only at hSw); go_simp⟩) hHeld ?_
    simp only [Act.put, List.getElem_toArray, List.getElem_cons_zero, List.getElem_cons_succ, List.setIfInBounds_toArray, List.set_cons_zero, List.set_cons_succ]
    refine wpAnyH_take (i := 2) rfl (by kernel_rfl) (by kernel_rfl) (by kernel_rfl) (fun _ _ _ h => h) (yieldsIf_load_mid (by rfl) _ _ rfl _ _ rfl (u8L xs) _ (fun _ hw => hw.1) Tryz.underlying134 rfl hsz) hHeld ?_
    simp only [Act.put, List.getElem_toArray, List.getElem_cons_zero, List.getElem_cons_succ, List.setIfInBounds_toArray, List.set_cons_zero, List.set_cons_succ]
    refine wpAnyH_take (i := 3) rfl (by kernel_rfl) (by kernel_rfl) (by kernel_rfl) (fun _ _ _ h => h) (yieldsIf_load_mid (by rfl) _ _ rfl _ _ rfl (u8L xs) _ (fun _ hw => hw.1) Tryz.underlying134 rfl hsz) hHeld ?_
    simp only [Act.put, List.getElem_toArray, List.getElem_cons_zero, List.getElem_cons_succ, List.setIfInBounds_toArray, List.set_cons_zero, List.set_cons_succ]
    have e0 : Below wd.heap.size wd wd.drew := (Below.refl _ _).drew
    have ls : w.heap.size < wd.heap.size := World.block_lt_of_cell? wd ⟨w.heap.size, 0 + 0, none⟩ (rS.1 0 (.int .u8 (xs.getD 0 0)) (by simp [u8L, List.getElem?_eq_getElem (show 0 < xs.length by omega)]))
    obtain ⟨W', hW'⟩ : ∃ W', W' = spreadN (wsOf xs) := ⟨_, rfl⟩
    have hWl : W'.length = 64 := by rw [hW']; exact spreadN_length (wsOf_length xs)
    have hWt : ∀ x ∈ W', x < 4294967296 := by rw [hW']; exact spreadN_lt (wsOf_lt hb)
    have CS := fun w => spread_any xs w hx hb
    rw [← hW'] at CS
    replace hW' : Hid (W' = spreadN (wsOf xs)) := hW'
    refine wpAnyH_ready (rs := [4]) (by kernel_rfl) (by simp) ?_
    refine AllReadyH.cons rfl (fun K hK => ?_) AllReadyH.nil
    go_simp
    refine (CS _).mono ?_
    rintro e w1 ⟨rfl, b1⟩
    have b1' : Below wd.heap.size wd w1 := below_on e0 b1
    go_wp2_with (fail)
    refine hK.out _ _ ⟨range_below rS.1 b1' ls, trivial⟩ (fun hHeld => ?_)
    clear hK K
    refine wpAnyH_take (i := 5) (v := .pointer (some ⟨g, o, none⟩)) rfl (by kernel_rfl) (by kernel_rfl) (by kernel_rfl) (fun _ _ _ h => h) (Or.inl ⟨by rfl, fun w hSw => by (try dsimp only at hSw); go_simp⟩) hHeld ?_
    simp only [Act.put, List.getElem_toArray, List.getElem_cons_zero, List.getElem_cons_succ, List.setIfInBounds_toArray, List.set_cons_zero, List.set_cons_succ]
    refine wpAnyH_take (i := 6) (v := .pointer (some ⟨g, o + 8, none⟩)) rfl (by kernel_rfl) (by kernel_rfl) (by kernel_rfl) (fun _ _ _ h => h) (Or.inl ⟨by rfl, fun w hSw => by (try dsimp only at hSw); go_simp⟩) hHeld ?_
    simp only [Act.put, List.getElem_toArray, List.getElem_cons_zero, List.getElem_cons_succ, List.setIfInBounds_toArray, List.set_cons_zero, List.set_cons_succ]
    have hH := (h.below bd).below b1'
    have hp := hH.putLast hx
    have ht1 : w1.there g (o + 8) (u8L xs).toArray.size := by rw [show (u8L xs).toArray.size = 64 by simp [u8L, hx]]; exact hH.there 8 64 (by omega)
    have hi1 : (Tryz.prog.info? 134).map (·.size) = some (u8L xs).toArray.size := by rw [infoBlk]; simp [u8L, hx]
    obtain ⟨w2, hw2⟩ : ∃ w2, w2 = w1.setCells g (o + 8) (u8L xs) := ⟨_, rfl⟩
    rw [← hw2] at hp
    have hS2 : w2.rangeAt w.heap.size 0 (u8L xs) := by rw [hw2]; exact World.rangeAt_setCells_apart hHeld.1 _ _ _ (.inl (by omega))
    have hq := hp.1.putSpread hWl
    have hS3 : (w2.setCells g (o + 72) (u32L W')).rangeAt w.heap.size 0 (u8L xs) := World.rangeAt_setCells_apart hS2 _ _ _ (.inl (by omega))
    have ht2 : w2.there g (o + 72) (u32L W').toArray.size := by rw [show (u32L W').toArray.size = 64 by simp [u32L, hWl]]; exact hp.1.there 72 64 (by omega)
    have hi2 : (Tryz.prog.info? 135).map (·.size) = some (u32L W').toArray.size := by rw [infoW64]; simp [u32L, hWl]
    refine wpAnyH_ready (rs := [7]) (by kernel_rfl) (by simp) ?_
    refine AllReadyH.cons rfl (fun K hK => ?_) AllReadyH.nil
    rw [if_pos (by rfl)]
    refine wp_store_mid _ _ _ rfl g (o + 8) (u8L xs).toArray rfl rfl ht1 hi1 (all_oneCell_toArray (u8L_one xs)) ?_
    change K _ (w1.setCells g (o + 8) (u8L xs))
    rw [← hw2]
    clear hw2
    refine hK.out _ _ ⟨hS2, trivial⟩ (fun hHeld2 => ?_)
    clear hK K
    simp only [Act.put, List.getElem_toArray, List.getElem_cons_zero, List.getElem_cons_succ]
    refine wpAnyH_take (i := 8) (v := .pointer (some ⟨g, o, none⟩)) rfl (by kernel_rfl) (by kernel_rfl) (by kernel_rfl) (fun _ _ _ h => h) (Or.inl ⟨by rfl, fun w hSw => by (try dsimp only at hSw); go_simp⟩) hHeld2 ?_
    simp only [Act.put, List.getElem_toArray, List.getElem_cons_zero, List.getElem_cons_succ, List.setIfInBounds_toArray, List.set_cons_zero, List.set_cons_succ]
    refine wpAnyH_take (i := 9) (v := .pointer (some ⟨g, o + 72, none⟩)) rfl (by kernel_rfl) (by kernel_rfl) (by kernel_rfl) (fun _ _ _ h => h) (Or.inl ⟨by rfl, fun w hSw => by (try dsimp only at hSw); go_simp⟩) hHeld2 ?_
    simp only [Act.put, List.getElem_toArray, List.getElem_cons_zero, List.getElem_cons_succ, List.setIfInBounds_toArray, List.set_cons_zero, List.set_cons_succ]
    refine wpAnyH_ready (rs := [10]) (by kernel_rfl) (by simp) ?_
    refine AllReadyH.cons rfl (fun K hK => ?_) AllReadyH.nil
    rw [if_pos (by rfl)]
    refine wp_store_mid _ _ _ rfl g (o + 72) (u32L W').toArray rfl rfl ht2 hi2 (all_oneCell_toArray (u32L_one _)) ?_
    change K _ (w2.setCells g (o + 72) (u32L W'))
    refine hK.out _ _ ⟨hS3, trivial⟩ (fun _ => ?_)
    clear hK K
    simp only [Act.put, List.getElem_toArray, List.getElem_cons_zero, List.getElem_cons_succ]
    refine wpAnyH_done (by kernel_rfl) ?_ _
    refine NoPanic.normal ?_
    have hgr : w.grownBy (w2.setCells g (o + 72) (u32L W')) (some g) := grown_trans (below_grown (below_on bd b1')) (grown_trans hp.2 hq.2)
    have hHq := hq.1
    generalize w2.setCells g (o + 72) (u32L W') = w5 at hgr hHq ⊢
    have hK5 : KeysIs w5 := fun t ht => by
      have hk0 := hK t ht
      have hblk := hgr.block 1 (show 1 < w.heap.size by omega) (by simp; omega)
      rw [← hk0]
      simp only [World.cell?, hblk]
    clear hp hq ht1 ht2 hH hHeld hHeld2 hS2 hS3
    go_wp2_with (fail)
    refine (mix_any ty n o A B lo g S xs _ _ hS hWt hHq hK5 hlo).mono ?_
    rintro e w6 ⟨rfl, h6, g6⟩
    go_wp2
    go_end0
    refine ⟨rfl, ?_, grown_trans hgr g6⟩
    unfold blockN
    rw [← hW'.out]
    exact h6

end Go.Proofs.YthfnechcddmjkaaGreatDoor
