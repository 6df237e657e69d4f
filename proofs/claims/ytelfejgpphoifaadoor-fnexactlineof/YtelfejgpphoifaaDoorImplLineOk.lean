/-
  Whether a line is right, by the program. Conditions: lengths that a law hands over, bytes that lie there.
-/
import Derived.Test.YtelfejgpphoifaaDoorSpecLineOk
namespace Go.Proofs.YtelfejgpphoifaaDoor
open Go.RowKit
set_option maxRecDepth 100000

theorem str_nums_none (xs : List Int) : ((strOfNums xs).toList == (strOfNums []).toList) = decide (xs.length = 0) := by
  cases xs with
  | nil => simp
  | cons x r =>
    rw [decide_eq_false (by simp)]
    simp [strOfNums, ByteArray.toList_eq]

set_option maxHeartbeats 16000000 in
theorem implLineOk_any (kd : Int) (s : ByteArray) (t d : Int) (p : Option Addr) (n c : Nat) (xs : List Int) (w : World) (hs : s.size ≤ 1048576) (hx : xs.length = n) (h : BytesIn w p n xs) :
    Calls Tryd.prog 40 #[.agg #[.int .i64 kd, .string s, .int .i64 t, .int .i64 d, .slice p n c]] w fun z w' => z = .returned (.bool (lnB kd s t d n)) ∧ Below w.heap.size w w' := by
  obtain ⟨W, hW⟩ : ∃ W, W = w.alloc (.cells #[.int .i64 kd, .string s, .int .i64 t, .int .i64 d, .slice p n c] 24) := ⟨_, rfl⟩
  have kA : Below w.heap.size w W := by rw [hW]; exact made_below _ _ (Below.refl _ _)
  have CB : Cells W w.heap.size #[.int .i64 kd, .string s, .int .i64 t, .int .i64 d, .slice p n c] := by rw [hW]; exact Cells.made _ _ _
  replace hW : Hid (w.alloc (.cells #[.int .i64 kd, .string s, .int .i64 t, .int .i64 d, .slice p n c] 24) = W) := hW.symm
  obtain ⟨B0, hB0⟩ : ∃ B0, B0 = w.heap.size := ⟨_, rfl⟩
  rw [← hB0] at CB
  replace h := in_below h kA
  have h0 : ∀ X : World, BytesIn X none 0 [] := fun X k => absurd k (Nat.lt_irrefl _)
  obtain ⟨R, hR⟩ : ∃ R : Bool, R = lnB kd s t d n := ⟨_, rfl⟩
  rw [← hR]
  replace hR : Hid (R = lnB kd s t d n) := hR
  unfold lnB at hR
  have l0 : W.cell? ⟨w.heap.size, 0, none⟩ = some (.int .i64 kd) := by rw [← hB0]; exact (CB.2 0).1
  have l1 : W.cell? ⟨w.heap.size, 1, none⟩ = some (.string s) := by rw [← hB0]; exact (CB.2 1).1
  have l2 : W.cell? ⟨w.heap.size, 2, none⟩ = some (.int .i64 t) := by rw [← hB0]; exact (CB.2 2).1
  have l3 : W.cell? ⟨w.heap.size, 3, none⟩ = some (.int .i64 d) := by rw [← hB0]; exact (CB.2 3).1
  have l4 : W.cell? ⟨w.heap.size, 4, none⟩ = some (.slice p n c) := by rw [← hB0]; exact (CB.2 4).1
  by_cases h1 : kd = 1
  · subst h1
    rw [if_pos rfl] at hR
    have F := fits1
    have CF := fun X => putFits s t d p n c X hs
    generalize itB s t d n = R0 at CF hR
    go_enter Tryd.func40, Tryd.ntmps40
    go_wp2_with (rw [hW.out])
    refine (ofKind1 s t d p n c _).mono ?_
    rintro z w1 ⟨rfl, b1⟩
    rw [← hB0]
    clear l0 l1 l2 l3 l4 hB0
    replace CB := CB.on b1
    have k1 := below_on kA b1
    have HK : ∀ w', Below w1.heap.size w1 w' → w'.cell? ⟨B0, 0, none⟩ = some (.int .i64 1) ∧ w'.cell? ⟨B0, 1, none⟩ = some (.string s) ∧ w'.cell? ⟨B0, 2, none⟩ = some (.int .i64 t) ∧ w'.cell? ⟨B0, 3, none⟩ = some (.int .i64 d) ∧ w'.cell? ⟨B0, 4, none⟩ = some (.slice p n c) := fun w' hV => ⟨((CB.on hV).2 0).1, ((CB.on hV).2 1).1, ((CB.on hV).2 2).1, ((CB.on hV).2 3).1, ((CB.on hV).2 4).1⟩
    have bdr : Below w1.heap.size w1 w1.drew := (Below.refl _ _).drew
    cases R0
    · have hr : R = false := hR.out
      subst hr
      clear hR
      go_wp2_with (fail)
      refine wp_region_noPanic ?_
      refine wp_region_held_drew (S := fun w' => w'.cell? ⟨B0, 0, none⟩ = some (.int .i64 1) ∧ w'.cell? ⟨B0, 1, none⟩ = some (.string s) ∧ w'.cell? ⟨B0, 2, none⟩ = some (.int .i64 t) ∧ w'.cell? ⟨B0, 3, none⟩ = some (.int .i64 d) ∧ w'.cell? ⟨B0, 4, none⟩ = some (.slice p n c)) (by kernel_rfl) (HK _ (by repeat (with_reducible (first | exact Below.refl _ _ | refine below_drewL ?_ | refine below_on ?_ bq1 | refine below_on ?_ bq2 | refine below_on ?_ bq3)))) (fun hHeld => ?_)
      refine wpAnyH_take (i := 0) rfl (by kernel_rfl) (by kernel_rfl) (by kernel_rfl) (fun _ _ _ h => h) (Or.inl ⟨by rfl, fun X hSw => by ((try dsimp only at hSw); go_simp; try with_reducible rfl)⟩) hHeld ?_
      try simp only [Act.put, List.getElem_toArray, List.getElem_cons_zero, List.setIfInBounds_toArray, List.set_cons_zero, List.set_cons_succ]
      refine wpAnyH_take (i := 1) rfl (by kernel_rfl) (by kernel_rfl) (by kernel_rfl) (fun _ _ _ h => h) (Or.inl ⟨by rfl, fun X hSw => by ((try dsimp only at hSw); go_simp; try with_reducible rfl)⟩) hHeld ?_
      try simp only [Act.put, List.getElem_toArray, List.getElem_cons_zero, List.getElem_cons_succ, List.setIfInBounds_toArray, List.set_cons_zero, List.set_cons_succ]
      refine wpAnyH_take (i := 2) rfl (by kernel_rfl) (by kernel_rfl) (by kernel_rfl) (fun _ _ _ h => h) (Or.inl ⟨by rfl, fun X hSw => by ((try dsimp only at hSw); go_simp; try with_reducible rfl)⟩) hHeld ?_
      try simp only [Act.put, List.getElem_toArray, List.getElem_cons_zero, List.getElem_cons_succ, List.setIfInBounds_toArray, List.set_cons_zero, List.set_cons_succ]
      refine wpAnyH_take (i := 3) rfl (by kernel_rfl) (by kernel_rfl) (by kernel_rfl) (fun _ _ _ h => h) (Or.inl ⟨by rfl, fun X hSw => by ((try dsimp only at hSw); go_simp; try with_reducible rfl)⟩) hHeld ?_
      try simp only [Act.put, List.getElem_toArray, List.getElem_cons_zero, List.getElem_cons_succ, List.setIfInBounds_toArray, List.set_cons_zero, List.set_cons_succ]
      refine wpAnyH_ready (rs := [4]) (by kernel_rfl) (by simp) ?_
      refine AllReadyH.cons rfl (fun K hK => ?_) AllReadyH.nil
      go_simp
      refine (CF _).mono ?_
      rintro z wq1 ⟨rfl, bq1⟩
      go_wp2_with (fail)
      refine hK.out _ _ (HK _ (by repeat (with_reducible (first | exact Below.refl _ _ | refine below_drewL ?_ | refine below_on ?_ bq1 | refine below_on ?_ bq2 | refine below_on ?_ bq3)))) (fun hHeld => ?_)
      clear hK K
      try simp only [Act.put, List.getElem_toArray, List.getElem_cons_zero, List.getElem_cons_succ, List.setIfInBounds_toArray, List.set_cons_zero, List.set_cons_succ]
      refine wpAnyH_take (i := 5) rfl (by kernel_rfl) (by kernel_rfl) (by kernel_rfl) (fun _ _ _ h => h) (Or.inl ⟨by rfl, fun X hSw => by ((try dsimp only at hSw); go_simp; try with_reducible rfl)⟩) hHeld ?_
      try simp only [Act.put, List.getElem_toArray, List.getElem_cons_zero, List.getElem_cons_succ, List.setIfInBounds_toArray, List.set_cons_zero, List.set_cons_succ]
      refine wpAnyH_take (i := 6) rfl (by kernel_rfl) (by kernel_rfl) (by kernel_rfl) (fun _ _ _ h => h) (Or.inl ⟨by rfl, fun X hSw => by ((try dsimp only at hSw); go_simp; try with_reducible rfl)⟩) hHeld ?_
      try simp only [Act.put, List.getElem_toArray, List.getElem_cons_zero, List.getElem_cons_succ, List.setIfInBounds_toArray, List.set_cons_zero, List.set_cons_succ]
      refine wpAnyH_take (i := 7) (v := undef) rfl (by kernel_rfl) (by kernel_rfl) (by kernel_rfl) (fun _ _ _ h => h) (Or.inr ⟨by rfl, rfl⟩) hHeld ?_
      try simp only [Act.put, List.getElem_toArray, List.getElem_cons_zero, List.getElem_cons_succ, List.setIfInBounds_toArray, List.set_cons_zero, List.set_cons_succ]
      refine wpAnyH_take (i := 8) (v := undef) rfl (by kernel_rfl) (by kernel_rfl) (by kernel_rfl) (fun _ _ _ h => h) (Or.inr ⟨by rfl, rfl⟩) hHeld ?_
      try simp only [Act.put, List.getElem_toArray, List.getElem_cons_zero, List.getElem_cons_succ, List.setIfInBounds_toArray, List.set_cons_zero, List.set_cons_succ]
      refine wpAnyH_take (i := 9) (v := undef) rfl (by kernel_rfl) (by kernel_rfl) (by kernel_rfl) (fun _ _ _ h => h) (Or.inr ⟨by rfl, rfl⟩) hHeld ?_
      try simp only [Act.put, List.getElem_toArray, List.getElem_cons_zero, List.getElem_cons_succ, List.setIfInBounds_toArray, List.set_cons_zero, List.set_cons_succ]
      refine wpAnyH_take (i := 10) (v := undef) rfl (by kernel_rfl) (by kernel_rfl) (by kernel_rfl) (fun _ _ _ h => h) (Or.inr ⟨by rfl, rfl⟩) hHeld ?_
      try simp only [Act.put, List.getElem_toArray, List.getElem_cons_zero, List.getElem_cons_succ, List.setIfInBounds_toArray, List.set_cons_zero, List.set_cons_succ]
      refine wpAnyH_take (i := 11) rfl (by kernel_rfl) (by kernel_rfl) (by kernel_rfl) (fun _ _ _ h => h) (Or.inl ⟨by rfl, fun X hSw => by ((try dsimp only at hSw); go_simp; try with_reducible rfl)⟩) hHeld ?_
      try simp only [Act.put, List.getElem_toArray, List.getElem_cons_zero, List.getElem_cons_succ, List.setIfInBounds_toArray, List.set_cons_zero, List.set_cons_succ]
      refine wpAnyH_take (i := 12) rfl (by kernel_rfl) (by kernel_rfl) (by kernel_rfl) (fun _ _ _ h => h) (Or.inl ⟨by rfl, fun X hSw => by ((try dsimp only at hSw); go_simp; try with_reducible rfl)⟩) hHeld ?_
      try simp only [Act.put, List.getElem_toArray, List.getElem_cons_zero, List.getElem_cons_succ, List.setIfInBounds_toArray, List.set_cons_zero, List.set_cons_succ]
      refine wpAnyH_done (by kernel_rfl) ?_ _
      refine NoPanic.normal ?_
      go_wp2_with (fail)
      go_ret
      exact ⟨rfl, below_on (below_on k1 bdr) bq1⟩
    · have CS := fun X (hX : BytesIn X p n xs) => sameLine_any 1 1 s s t t d d p p n c n c xs xs X hx hx hX hX
      have hEq : (decide ((1 : Int) = 1 ∧ s = s ∧ t = t ∧ d = d) && ((strOfNums xs).toList == (strOfNums xs).toList)) = true := by simp
      rw [hEq] at CS
      have hr := hR.out
      subst hr
      clear hR hEq
      go_wp2_with (fail)
      go_region_held3 (fun w' => w'.cell? ⟨B0, 0, none⟩ = some (.int .i64 1) ∧ w'.cell? ⟨B0, 1, none⟩ = some (.string s) ∧ w'.cell? ⟨B0, 2, none⟩ = some (.int .i64 t) ∧ w'.cell? ⟨B0, 3, none⟩ = some (.int .i64 d) ∧ w'.cell? ⟨B0, 4, none⟩ = some (.slice p n c)) (exact HK _ (by repeat (with_reducible (first | exact Below.refl _ _ | refine below_drewL ?_ | refine below_on ?_ bq1 | refine below_on ?_ bq2 | refine below_on ?_ bq3)))) (first | (go_at_call 73; refine (CF _).mono ?_; rintro z wq1 ⟨rfl, bq1⟩) | (go_at_call 18; refine (told1 s t d p n c _).mono ?_; rintro z wq2 ⟨rfl, bq2⟩) | (go_at_call 47; refine (CS _ (in_below h (below_on (below_on (below_on b1 bdr) bq1) bq2))).mono ?_; rintro z wq3 ⟨rfl, bq3⟩))
      all_goals
        go_wp2_with (fail)
        go_ret
        exact ⟨rfl, below_on (below_on (below_on (below_on k1 bdr) bq1) bq2) bq3⟩
  · rw [if_neg h1] at hR
    by_cases h2 : kd = 2
    · subst h2
      rw [if_pos rfl] at hR
      have F := fits2
      have CF := fun X => takeFits s X hs
      generalize rtB s = R0 at CF hR
      go_enter Tryd.func40, Tryd.ntmps40
      go_wp2_with (rw [hW.out])
      refine (ofKind2 s t d p n c _).mono ?_
      rintro z w1 ⟨rfl, b1⟩
      rw [← hB0]
      clear l0 l1 l2 l3 l4 hB0
      replace CB := CB.on b1
      have k1 := below_on kA b1
      have HK : ∀ w', Below w1.heap.size w1 w' → w'.cell? ⟨B0, 0, none⟩ = some (.int .i64 2) ∧ w'.cell? ⟨B0, 1, none⟩ = some (.string s) ∧ w'.cell? ⟨B0, 2, none⟩ = some (.int .i64 t) ∧ w'.cell? ⟨B0, 3, none⟩ = some (.int .i64 d) ∧ w'.cell? ⟨B0, 4, none⟩ = some (.slice p n c) := fun w' hV => ⟨((CB.on hV).2 0).1, ((CB.on hV).2 1).1, ((CB.on hV).2 2).1, ((CB.on hV).2 3).1, ((CB.on hV).2 4).1⟩
      have bdr : Below w1.heap.size w1 w1.drew := (Below.refl _ _).drew
      cases R0
      · have hr : R = false := by rw [hR.out]; simp
        subst hr
        clear hR
        go_wp2_with (fail)
        refine wp_region_noPanic ?_
        refine wp_region_held_drew (S := fun w' => w'.cell? ⟨B0, 0, none⟩ = some (.int .i64 2) ∧ w'.cell? ⟨B0, 1, none⟩ = some (.string s) ∧ w'.cell? ⟨B0, 2, none⟩ = some (.int .i64 t) ∧ w'.cell? ⟨B0, 3, none⟩ = some (.int .i64 d) ∧ w'.cell? ⟨B0, 4, none⟩ = some (.slice p n c)) (by kernel_rfl) (HK _ (by repeat (with_reducible (first | exact Below.refl _ _ | refine below_drewL ?_ | refine below_on ?_ bq1 | refine below_on ?_ bq2 | refine below_on ?_ bq3)))) (fun hHeld => ?_)
        refine wpAnyH_take (i := 0) rfl (by kernel_rfl) (by kernel_rfl) (by kernel_rfl) (fun _ _ _ h => h) (Or.inl ⟨by rfl, fun X hSw => by ((try dsimp only at hSw); go_simp; try with_reducible rfl)⟩) hHeld ?_
        try simp only [Act.put, List.getElem_toArray, List.getElem_cons_zero, List.setIfInBounds_toArray, List.set_cons_zero, List.set_cons_succ]
        refine wpAnyH_take (i := 1) rfl (by kernel_rfl) (by kernel_rfl) (by kernel_rfl) (fun _ _ _ h => h) (Or.inl ⟨by rfl, fun X hSw => by ((try dsimp only at hSw); go_simp; try with_reducible rfl)⟩) hHeld ?_
        try simp only [Act.put, List.getElem_toArray, List.getElem_cons_zero, List.getElem_cons_succ, List.setIfInBounds_toArray, List.set_cons_zero, List.set_cons_succ]
        refine wpAnyH_take (i := 2) rfl (by kernel_rfl) (by kernel_rfl) (by kernel_rfl) (fun _ _ _ h => h) (Or.inl ⟨by rfl, fun X hSw => by ((try dsimp only at hSw); go_simp; try with_reducible rfl)⟩) hHeld ?_
        try simp only [Act.put, List.getElem_toArray, List.getElem_cons_zero, List.getElem_cons_succ, List.setIfInBounds_toArray, List.set_cons_zero, List.set_cons_succ]
        refine wpAnyH_take (i := 3) rfl (by kernel_rfl) (by kernel_rfl) (by kernel_rfl) (fun _ _ _ h => h) (Or.inl ⟨by rfl, fun X hSw => by ((try dsimp only at hSw); go_simp; try with_reducible rfl)⟩) hHeld ?_
        try simp only [Act.put, List.getElem_toArray, List.getElem_cons_zero, List.getElem_cons_succ, List.setIfInBounds_toArray, List.set_cons_zero, List.set_cons_succ]
        refine wpAnyH_ready (rs := [4]) (by kernel_rfl) (by simp) ?_
        refine AllReadyH.cons rfl (fun K hK => ?_) AllReadyH.nil
        go_simp
        refine (CF _).mono ?_
        rintro z wq1 ⟨rfl, bq1⟩
        go_wp2_with (fail)
        refine hK.out _ _ (HK _ (by repeat (with_reducible (first | exact Below.refl _ _ | refine below_drewL ?_ | refine below_on ?_ bq1 | refine below_on ?_ bq2 | refine below_on ?_ bq3)))) (fun hHeld => ?_)
        clear hK K
        try simp only [Act.put, List.getElem_toArray, List.getElem_cons_zero, List.getElem_cons_succ, List.setIfInBounds_toArray, List.set_cons_zero, List.set_cons_succ]
        refine wpAnyH_take (i := 5) rfl (by kernel_rfl) (by kernel_rfl) (by kernel_rfl) (fun _ _ _ h => h) (Or.inl ⟨by rfl, fun X hSw => by ((try dsimp only at hSw); go_simp; try with_reducible rfl)⟩) hHeld ?_
        try simp only [Act.put, List.getElem_toArray, List.getElem_cons_zero, List.getElem_cons_succ, List.setIfInBounds_toArray, List.set_cons_zero, List.set_cons_succ]
        refine wpAnyH_take (i := 6) rfl (by kernel_rfl) (by kernel_rfl) (by kernel_rfl) (fun _ _ _ h => h) (Or.inl ⟨by rfl, fun X hSw => by ((try dsimp only at hSw); go_simp; try with_reducible rfl)⟩) hHeld ?_
        try simp only [Act.put, List.getElem_toArray, List.getElem_cons_zero, List.getElem_cons_succ, List.setIfInBounds_toArray, List.set_cons_zero, List.set_cons_succ]
        refine wpAnyH_take (i := 7) (v := undef) rfl (by kernel_rfl) (by kernel_rfl) (by kernel_rfl) (fun _ _ _ h => h) (Or.inr ⟨by rfl, rfl⟩) hHeld ?_
        try simp only [Act.put, List.getElem_toArray, List.getElem_cons_zero, List.getElem_cons_succ, List.setIfInBounds_toArray, List.set_cons_zero, List.set_cons_succ]
        refine wpAnyH_take (i := 8) (v := undef) rfl (by kernel_rfl) (by kernel_rfl) (by kernel_rfl) (fun _ _ _ h => h) (Or.inr ⟨by rfl, rfl⟩) hHeld ?_
        try simp only [Act.put, List.getElem_toArray, List.getElem_cons_zero, List.getElem_cons_succ, List.setIfInBounds_toArray, List.set_cons_zero, List.set_cons_succ]
        refine wpAnyH_take (i := 9) (v := undef) rfl (by kernel_rfl) (by kernel_rfl) (by kernel_rfl) (fun _ _ _ h => h) (Or.inr ⟨by rfl, rfl⟩) hHeld ?_
        try simp only [Act.put, List.getElem_toArray, List.getElem_cons_zero, List.getElem_cons_succ, List.setIfInBounds_toArray, List.set_cons_zero, List.set_cons_succ]
        refine wpAnyH_take (i := 10) (v := undef) rfl (by kernel_rfl) (by kernel_rfl) (by kernel_rfl) (fun _ _ _ h => h) (Or.inr ⟨by rfl, rfl⟩) hHeld ?_
        try simp only [Act.put, List.getElem_toArray, List.getElem_cons_zero, List.getElem_cons_succ, List.setIfInBounds_toArray, List.set_cons_zero, List.set_cons_succ]
        refine wpAnyH_take (i := 11) rfl (by kernel_rfl) (by kernel_rfl) (by kernel_rfl) (fun _ _ _ h => h) (Or.inl ⟨by rfl, fun X hSw => by ((try dsimp only at hSw); go_simp; try with_reducible rfl)⟩) hHeld ?_
        try simp only [Act.put, List.getElem_toArray, List.getElem_cons_zero, List.getElem_cons_succ, List.setIfInBounds_toArray, List.set_cons_zero, List.set_cons_succ]
        refine wpAnyH_take (i := 12) rfl (by kernel_rfl) (by kernel_rfl) (by kernel_rfl) (fun _ _ _ h => h) (Or.inl ⟨by rfl, fun X hSw => by ((try dsimp only at hSw); go_simp; try with_reducible rfl)⟩) hHeld ?_
        try simp only [Act.put, List.getElem_toArray, List.getElem_cons_zero, List.getElem_cons_succ, List.setIfInBounds_toArray, List.set_cons_zero, List.set_cons_succ]
        refine wpAnyH_done (by kernel_rfl) ?_ _
        refine NoPanic.normal ?_
        go_wp2_with (fail)
        go_ret
        exact ⟨rfl, below_on (below_on k1 bdr) bq1⟩
      · have CS := fun X (hX : BytesIn X p n xs) => sameLine_any 2 2 s s t 0 d 0 p none n c 0 0 xs [] X hx rfl hX (h0 _)
        have hEq : (decide ((2 : Int) = 2 ∧ s = s ∧ t = 0 ∧ d = 0) && ((strOfNums xs).toList == (strOfNums []).toList)) = (true && (decide (t = 0) && (decide (d = 0) && decide (n = 0)))) := by
          rw [str_nums_none, hx]
          by_cases e1 : t = 0 <;> by_cases e2 : d = 0 <;> simp [e1, e2]
        rw [hEq] at CS
        have hr := hR.out
        subst hr
        clear hR hEq
        go_wp2_with (fail)
        go_region_held3 (fun w' => w'.cell? ⟨B0, 0, none⟩ = some (.int .i64 2) ∧ w'.cell? ⟨B0, 1, none⟩ = some (.string s) ∧ w'.cell? ⟨B0, 2, none⟩ = some (.int .i64 t) ∧ w'.cell? ⟨B0, 3, none⟩ = some (.int .i64 d) ∧ w'.cell? ⟨B0, 4, none⟩ = some (.slice p n c)) (exact HK _ (by repeat (with_reducible (first | exact Below.refl _ _ | refine below_drewL ?_ | refine below_on ?_ bq1 | refine below_on ?_ bq2 | refine below_on ?_ bq3)))) (first | (go_at_call 77; refine (CF _).mono ?_; rintro z wq1 ⟨rfl, bq1⟩) | (go_at_call 18; refine (told2 s _).mono ?_; rintro z wq2 ⟨rfl, bq2⟩) | (go_at_call 47; refine (CS _ (in_below h (below_on (below_on (below_on b1 bdr) bq1) bq2))).mono ?_; rintro z wq3 ⟨rfl, bq3⟩))
        all_goals
          go_wp2_with (fail)
          go_ret
          exact ⟨rfl, below_on (below_on (below_on (below_on k1 bdr) bq1) bq2) bq3⟩
    · rw [if_neg h2] at hR
      by_cases h3 : kd = 3
      · subst h3
        rw [if_pos rfl] at hR
        have F := fits3
        have CF := fun X => timeFits d X
        generalize decide (0 ≤ d ∧ d ≤ 100000) = R0 at CF hR
        go_enter Tryd.func40, Tryd.ntmps40
        go_wp2_with (rw [hW.out])
        refine (ofKind3 s t d p n c _).mono ?_
        rintro z w1 ⟨rfl, b1⟩
        rw [← hB0]
        clear l0 l1 l2 l3 l4 hB0
        replace CB := CB.on b1
        have k1 := below_on kA b1
        have HK : ∀ w', Below w1.heap.size w1 w' → w'.cell? ⟨B0, 0, none⟩ = some (.int .i64 3) ∧ w'.cell? ⟨B0, 1, none⟩ = some (.string s) ∧ w'.cell? ⟨B0, 2, none⟩ = some (.int .i64 t) ∧ w'.cell? ⟨B0, 3, none⟩ = some (.int .i64 d) ∧ w'.cell? ⟨B0, 4, none⟩ = some (.slice p n c) := fun w' hV => ⟨((CB.on hV).2 0).1, ((CB.on hV).2 1).1, ((CB.on hV).2 2).1, ((CB.on hV).2 3).1, ((CB.on hV).2 4).1⟩
        have bdr : Below w1.heap.size w1 w1.drew := (Below.refl _ _).drew
        cases R0
        · have hr : R = false := by rw [hR.out]; simp
          subst hr
          clear hR
          go_wp2_with (fail)
          refine wp_region_noPanic ?_
          refine wp_region_held_drew (S := fun w' => w'.cell? ⟨B0, 0, none⟩ = some (.int .i64 3) ∧ w'.cell? ⟨B0, 1, none⟩ = some (.string s) ∧ w'.cell? ⟨B0, 2, none⟩ = some (.int .i64 t) ∧ w'.cell? ⟨B0, 3, none⟩ = some (.int .i64 d) ∧ w'.cell? ⟨B0, 4, none⟩ = some (.slice p n c)) (by kernel_rfl) (HK _ (by repeat (with_reducible (first | exact Below.refl _ _ | refine below_drewL ?_ | refine below_on ?_ bq1 | refine below_on ?_ bq2 | refine below_on ?_ bq3)))) (fun hHeld => ?_)
          refine wpAnyH_take (i := 0) rfl (by kernel_rfl) (by kernel_rfl) (by kernel_rfl) (fun _ _ _ h => h) (Or.inl ⟨by rfl, fun X hSw => by ((try dsimp only at hSw); go_simp; try with_reducible rfl)⟩) hHeld ?_
          try simp only [Act.put, List.getElem_toArray, List.getElem_cons_zero, List.setIfInBounds_toArray, List.set_cons_zero, List.set_cons_succ]
          refine wpAnyH_take (i := 1) rfl (by kernel_rfl) (by kernel_rfl) (by kernel_rfl) (fun _ _ _ h => h) (Or.inl ⟨by rfl, fun X hSw => by ((try dsimp only at hSw); go_simp; try with_reducible rfl)⟩) hHeld ?_
          try simp only [Act.put, List.getElem_toArray, List.getElem_cons_zero, List.getElem_cons_succ, List.setIfInBounds_toArray, List.set_cons_zero, List.set_cons_succ]
          refine wpAnyH_take (i := 2) rfl (by kernel_rfl) (by kernel_rfl) (by kernel_rfl) (fun _ _ _ h => h) (Or.inl ⟨by rfl, fun X hSw => by ((try dsimp only at hSw); go_simp; try with_reducible rfl)⟩) hHeld ?_
          try simp only [Act.put, List.getElem_toArray, List.getElem_cons_zero, List.getElem_cons_succ, List.setIfInBounds_toArray, List.set_cons_zero, List.set_cons_succ]
          refine wpAnyH_take (i := 3) rfl (by kernel_rfl) (by kernel_rfl) (by kernel_rfl) (fun _ _ _ h => h) (Or.inl ⟨by rfl, fun X hSw => by ((try dsimp only at hSw); go_simp; try with_reducible rfl)⟩) hHeld ?_
          try simp only [Act.put, List.getElem_toArray, List.getElem_cons_zero, List.getElem_cons_succ, List.setIfInBounds_toArray, List.set_cons_zero, List.set_cons_succ]
          refine wpAnyH_ready (rs := [4]) (by kernel_rfl) (by simp) ?_
          refine AllReadyH.cons rfl (fun K hK => ?_) AllReadyH.nil
          go_simp
          refine (CF _).mono ?_
          rintro z wq1 ⟨rfl, bq1⟩
          go_wp2_with (fail)
          refine hK.out _ _ (HK _ (by repeat (with_reducible (first | exact Below.refl _ _ | refine below_drewL ?_ | refine below_on ?_ bq1 | refine below_on ?_ bq2 | refine below_on ?_ bq3)))) (fun hHeld => ?_)
          clear hK K
          try simp only [Act.put, List.getElem_toArray, List.getElem_cons_zero, List.getElem_cons_succ, List.setIfInBounds_toArray, List.set_cons_zero, List.set_cons_succ]
          refine wpAnyH_take (i := 5) rfl (by kernel_rfl) (by kernel_rfl) (by kernel_rfl) (fun _ _ _ h => h) (Or.inl ⟨by rfl, fun X hSw => by ((try dsimp only at hSw); go_simp; try with_reducible rfl)⟩) hHeld ?_
          try simp only [Act.put, List.getElem_toArray, List.getElem_cons_zero, List.getElem_cons_succ, List.setIfInBounds_toArray, List.set_cons_zero, List.set_cons_succ]
          refine wpAnyH_take (i := 6) rfl (by kernel_rfl) (by kernel_rfl) (by kernel_rfl) (fun _ _ _ h => h) (Or.inl ⟨by rfl, fun X hSw => by ((try dsimp only at hSw); go_simp; try with_reducible rfl)⟩) hHeld ?_
          try simp only [Act.put, List.getElem_toArray, List.getElem_cons_zero, List.getElem_cons_succ, List.setIfInBounds_toArray, List.set_cons_zero, List.set_cons_succ]
          refine wpAnyH_take (i := 7) (v := undef) rfl (by kernel_rfl) (by kernel_rfl) (by kernel_rfl) (fun _ _ _ h => h) (Or.inr ⟨by rfl, rfl⟩) hHeld ?_
          try simp only [Act.put, List.getElem_toArray, List.getElem_cons_zero, List.getElem_cons_succ, List.setIfInBounds_toArray, List.set_cons_zero, List.set_cons_succ]
          refine wpAnyH_take (i := 8) (v := undef) rfl (by kernel_rfl) (by kernel_rfl) (by kernel_rfl) (fun _ _ _ h => h) (Or.inr ⟨by rfl, rfl⟩) hHeld ?_
          try simp only [Act.put, List.getElem_toArray, List.getElem_cons_zero, List.getElem_cons_succ, List.setIfInBounds_toArray, List.set_cons_zero, List.set_cons_succ]
          refine wpAnyH_take (i := 9) (v := undef) rfl (by kernel_rfl) (by kernel_rfl) (by kernel_rfl) (fun _ _ _ h => h) (Or.inr ⟨by rfl, rfl⟩) hHeld ?_
          try simp only [Act.put, List.getElem_toArray, List.getElem_cons_zero, List.getElem_cons_succ, List.setIfInBounds_toArray, List.set_cons_zero, List.set_cons_succ]
          refine wpAnyH_take (i := 10) (v := undef) rfl (by kernel_rfl) (by kernel_rfl) (by kernel_rfl) (fun _ _ _ h => h) (Or.inr ⟨by rfl, rfl⟩) hHeld ?_
          try simp only [Act.put, List.getElem_toArray, List.getElem_cons_zero, List.getElem_cons_succ, List.setIfInBounds_toArray, List.set_cons_zero, List.set_cons_succ]
          refine wpAnyH_take (i := 11) rfl (by kernel_rfl) (by kernel_rfl) (by kernel_rfl) (fun _ _ _ h => h) (Or.inl ⟨by rfl, fun X hSw => by ((try dsimp only at hSw); go_simp; try with_reducible rfl)⟩) hHeld ?_
          try simp only [Act.put, List.getElem_toArray, List.getElem_cons_zero, List.getElem_cons_succ, List.setIfInBounds_toArray, List.set_cons_zero, List.set_cons_succ]
          refine wpAnyH_take (i := 12) rfl (by kernel_rfl) (by kernel_rfl) (by kernel_rfl) (fun _ _ _ h => h) (Or.inl ⟨by rfl, fun X hSw => by ((try dsimp only at hSw); go_simp; try with_reducible rfl)⟩) hHeld ?_
          try simp only [Act.put, List.getElem_toArray, List.getElem_cons_zero, List.getElem_cons_succ, List.setIfInBounds_toArray, List.set_cons_zero, List.set_cons_succ]
          refine wpAnyH_done (by kernel_rfl) ?_ _
          refine NoPanic.normal ?_
          go_wp2_with (fail)
          go_ret
          exact ⟨rfl, below_on (below_on k1 bdr) bq1⟩
        · have CS := fun X (hX : BytesIn X p n xs) => sameLine_any 3 3 s { data := #[] } t 0 d d p none n c 0 0 xs [] X hx rfl hX (h0 _)
          have hEq : (decide ((3 : Int) = 3 ∧ s = { data := #[] } ∧ t = 0 ∧ d = d) && ((strOfNums xs).toList == (strOfNums []).toList)) = (decide (s = ByteArray.empty) && (decide (t = 0) && (true && decide (n = 0)))) := by
            rw [str_nums_none, hx]
            rw [show ({ data := #[] } : ByteArray) = ByteArray.empty from rfl]
            by_cases e1 : t = 0 <;> by_cases e2 : s = ByteArray.empty <;> simp [e1, e2]
          rw [hEq] at CS
          have hr := hR.out
          subst hr
          clear hR hEq
          go_wp2_with (fail)
          go_region_held3 (fun w' => w'.cell? ⟨B0, 0, none⟩ = some (.int .i64 3) ∧ w'.cell? ⟨B0, 1, none⟩ = some (.string s) ∧ w'.cell? ⟨B0, 2, none⟩ = some (.int .i64 t) ∧ w'.cell? ⟨B0, 3, none⟩ = some (.int .i64 d) ∧ w'.cell? ⟨B0, 4, none⟩ = some (.slice p n c)) (exact HK _ (by repeat (with_reducible (first | exact Below.refl _ _ | refine below_drewL ?_ | refine below_on ?_ bq1 | refine below_on ?_ bq2 | refine below_on ?_ bq3)))) (first | (go_at_call 78; refine (CF _).mono ?_; rintro z wq1 ⟨rfl, bq1⟩) | (go_at_call 18; refine (told3 d _).mono ?_; rintro z wq2 ⟨rfl, bq2⟩) | (go_at_call 47; refine (CS _ (in_below h (below_on (below_on (below_on b1 bdr) bq1) bq2))).mono ?_; rintro z wq3 ⟨rfl, bq3⟩))
          all_goals
            go_wp2_with (fail)
            go_ret
            exact ⟨rfl, below_on (below_on (below_on (below_on k1 bdr) bq1) bq2) bq3⟩
      · have q3 := h3
        rw [if_neg h3] at hR
        have hr := hR.out
        subst hr
        clear hR
        go_enter Tryd.func40, Tryd.ntmps40
        go_wp2_with (rw [hW.out])
        refine (ofKindNo kd s t d p n c _ h1 h2 h3).mono ?_
        rintro z w1 ⟨rfl, b1⟩
        rw [← hB0]
        clear l0 l1 l2 l3 l4 hB0
        replace CB := CB.on b1
        have k1 := below_on kA b1
        have HK : ∀ w', Below w1.heap.size w1 w' → w'.cell? ⟨B0, 0, none⟩ = some (.int .i64 kd) ∧ w'.cell? ⟨B0, 1, none⟩ = some (.string s) ∧ w'.cell? ⟨B0, 2, none⟩ = some (.int .i64 t) ∧ w'.cell? ⟨B0, 3, none⟩ = some (.int .i64 d) ∧ w'.cell? ⟨B0, 4, none⟩ = some (.slice p n c) := fun w' hV => ⟨((CB.on hV).2 0).1, ((CB.on hV).2 1).1, ((CB.on hV).2 2).1, ((CB.on hV).2 3).1, ((CB.on hV).2 4).1⟩
        have bdr : Below w1.heap.size w1 w1.drew := (Below.refl _ _).drew
        clear h1 h2 h3 q3
        go_wp2_with (fail)
        refine wp_region_noPanic ?_
        refine wp_region_held_drew (S := fun w' => w'.cell? ⟨B0, 0, none⟩ = some (.int .i64 kd) ∧ w'.cell? ⟨B0, 1, none⟩ = some (.string s) ∧ w'.cell? ⟨B0, 2, none⟩ = some (.int .i64 t) ∧ w'.cell? ⟨B0, 3, none⟩ = some (.int .i64 d) ∧ w'.cell? ⟨B0, 4, none⟩ = some (.slice p n c)) (by kernel_rfl) (HK _ (by repeat (with_reducible (first | exact Below.refl _ _ | refine below_drewL ?_ | refine below_on ?_ bq1 | refine below_on ?_ bq2 | refine below_on ?_ bq3)))) (fun hHeld => ?_)
        refine wpAnyH_take (i := 0) rfl (by kernel_rfl) (by kernel_rfl) (by kernel_rfl) (fun _ _ _ h => h) (Or.inl ⟨by rfl, fun X hSw => by ((try dsimp only at hSw); go_simp; try with_reducible rfl)⟩) hHeld ?_
        try simp only [Act.put, List.getElem_toArray, List.getElem_cons_zero, List.setIfInBounds_toArray, List.set_cons_zero, List.set_cons_succ]
        refine wpAnyH_take (i := 1) rfl (by kernel_rfl) (by kernel_rfl) (by kernel_rfl) (fun _ _ _ h => h) (Or.inl ⟨by rfl, fun X hSw => by ((try dsimp only at hSw); go_simp; try with_reducible rfl)⟩) hHeld ?_
        try simp only [Act.put, List.getElem_toArray, List.getElem_cons_zero, List.getElem_cons_succ, List.setIfInBounds_toArray, List.set_cons_zero, List.set_cons_succ]
        refine wpAnyH_take (i := 2) rfl (by kernel_rfl) (by kernel_rfl) (by kernel_rfl) (fun _ _ _ h => h) (Or.inl ⟨by rfl, fun X hSw => by ((try dsimp only at hSw); go_simp; try with_reducible rfl)⟩) hHeld ?_
        try simp only [Act.put, List.getElem_toArray, List.getElem_cons_zero, List.getElem_cons_succ, List.setIfInBounds_toArray, List.set_cons_zero, List.set_cons_succ]
        refine wpAnyH_take (i := 3) (v := undef) rfl (by kernel_rfl) (by kernel_rfl) (by kernel_rfl) (fun _ _ _ h => h) (Or.inr ⟨by rfl, rfl⟩) hHeld ?_
        try simp only [Act.put, List.getElem_toArray, List.getElem_cons_zero, List.getElem_cons_succ, List.setIfInBounds_toArray, List.set_cons_zero, List.set_cons_succ]
        refine wpAnyH_take (i := 4) (v := undef) rfl (by kernel_rfl) (by kernel_rfl) (by kernel_rfl) (fun _ _ _ h => h) (Or.inr ⟨by rfl, rfl⟩) hHeld ?_
        try simp only [Act.put, List.getElem_toArray, List.getElem_cons_zero, List.getElem_cons_succ, List.setIfInBounds_toArray, List.set_cons_zero, List.set_cons_succ]
        refine wpAnyH_take (i := 5) rfl (by kernel_rfl) (by kernel_rfl) (by kernel_rfl) (fun _ _ _ h => h) (Or.inl ⟨by rfl, fun X hSw => by ((try dsimp only at hSw); go_simp; try with_reducible rfl)⟩) hHeld ?_
        try simp only [Act.put, List.getElem_toArray, List.getElem_cons_zero, List.getElem_cons_succ, List.setIfInBounds_toArray, List.set_cons_zero, List.set_cons_succ]
        refine wpAnyH_take (i := 6) rfl (by kernel_rfl) (by kernel_rfl) (by kernel_rfl) (fun _ _ _ h => h) (Or.inl ⟨by rfl, fun X hSw => by ((try dsimp only at hSw); go_simp; try with_reducible rfl)⟩) hHeld ?_
        try simp only [Act.put, List.getElem_toArray, List.getElem_cons_zero, List.getElem_cons_succ, List.setIfInBounds_toArray, List.set_cons_zero, List.set_cons_succ]
        refine wpAnyH_take (i := 7) (v := undef) rfl (by kernel_rfl) (by kernel_rfl) (by kernel_rfl) (fun _ _ _ h => h) (Or.inr ⟨by rfl, rfl⟩) hHeld ?_
        try simp only [Act.put, List.getElem_toArray, List.getElem_cons_zero, List.getElem_cons_succ, List.setIfInBounds_toArray, List.set_cons_zero, List.set_cons_succ]
        refine wpAnyH_take (i := 8) (v := undef) rfl (by kernel_rfl) (by kernel_rfl) (by kernel_rfl) (fun _ _ _ h => h) (Or.inr ⟨by rfl, rfl⟩) hHeld ?_
        try simp only [Act.put, List.getElem_toArray, List.getElem_cons_zero, List.getElem_cons_succ, List.setIfInBounds_toArray, List.set_cons_zero, List.set_cons_succ]
        refine wpAnyH_take (i := 9) (v := undef) rfl (by kernel_rfl) (by kernel_rfl) (by kernel_rfl) (fun _ _ _ h => h) (Or.inr ⟨by rfl, rfl⟩) hHeld ?_
        try simp only [Act.put, List.getElem_toArray, List.getElem_cons_zero, List.getElem_cons_succ, List.setIfInBounds_toArray, List.set_cons_zero, List.set_cons_succ]
        refine wpAnyH_take (i := 10) (v := undef) rfl (by kernel_rfl) (by kernel_rfl) (by kernel_rfl) (fun _ _ _ h => h) (Or.inr ⟨by rfl, rfl⟩) hHeld ?_
        try simp only [Act.put, List.getElem_toArray, List.getElem_cons_zero, List.getElem_cons_succ, List.setIfInBounds_toArray, List.set_cons_zero, List.set_cons_succ]
        refine wpAnyH_take (i := 11) rfl (by kernel_rfl) (by kernel_rfl) (by kernel_rfl) (fun _ _ _ h => h) (Or.inl ⟨by rfl, fun X hSw => by ((try dsimp only at hSw); go_simp; try with_reducible rfl)⟩) hHeld ?_
        try simp only [Act.put, List.getElem_toArray, List.getElem_cons_zero, List.getElem_cons_succ, List.setIfInBounds_toArray, List.set_cons_zero, List.set_cons_succ]
        refine wpAnyH_take (i := 12) rfl (by kernel_rfl) (by kernel_rfl) (by kernel_rfl) (fun _ _ _ h => h) (Or.inl ⟨by rfl, fun X hSw => by ((try dsimp only at hSw); go_simp; try with_reducible rfl)⟩) hHeld ?_
        try simp only [Act.put, List.getElem_toArray, List.getElem_cons_zero, List.getElem_cons_succ, List.setIfInBounds_toArray, List.set_cons_zero, List.set_cons_succ]
        refine wpAnyH_done (by kernel_rfl) ?_ _
        refine NoPanic.normal ?_
        go_wp2_with (fail)
        go_ret
        exact ⟨rfl, below_on k1 bdr⟩

end Go.Proofs.YtelfejgpphoifaaDoor
