/-
  What the program's Point and Public answer at whatever bytes. Conditions: bytes all; a capacity that is not less than the length.
-/
import Derived.Test.YtdjdanpicbaieaaGreatDoorParx22
import Derived.Test.YtdjdanpicbaieaaGreatDoorParx25
import Derived.Test.YtdjdanpicbaieaaGreatDoorParx26
namespace Go.Proofs.YtdjdanpicbaieaaGreatDoor
open Go.RowKit

theorem pt_fin (ks us : List Int) : (ladE (bitB (clampL ks)) (numF us % fldP)).a % fldP * (((ladE (bitB (clampL ks)) (numF us % fldP)).c % fldP) ^ (fldP - 2).toNat % fldP) % fldP = ptZ ks us := by
  have h := ((likeP_mod (ladE (bitB (clampL ks)) (numF us % fldP)).a).mul ((likeP_mod (((ladE (bitB (clampL ks)) (numF us % fldP)).c % fldP) ^ (fldP - 2).toNat)).trans (like_pow (likeP_mod (ladE (bitB (clampL ks)) (numF us % fldP)).c) _))).mod
  rw [h]
  exact ladZ_like (likeP_mod (numF us)) _

set_option maxRecDepth 100000 in
set_option maxHeartbeats 8000000 in
theorem implPoint_yes (p q : Option Addr) (c d : Nat) (ks us : List Int) (w : World) (hl : ks.length = 32) (h : BytesIn w p 32 ks) (h' : BytesIn w q 32 us) (hb1 : ∀ x ∈ ks, 0 ≤ x ∧ x < 256) (hb2 : ∀ x ∈ us, 0 ≤ x ∧ x < 256) (hd : 32 ≤ d) :
    Calls Tryz.prog 40 #[.slice p 32 c, .slice q 32 d] w fun e w' => ∃ p' c', e = .returned (.slice p' 32 c') ∧ Own 5 w' w.heap.size w'.heap.size (.slice p' 32 c') 32 (numB (ptZ ks us)) ∧ Below w.heap.size w w' := by
  have hz := (zero_of_info infoU4).1
  have hzr := (zero_of_info infoRat).1
  have C1 := implClamp_any p 32 c ks w hl h hb1
  have hN : oneN 32 = 32 := rfl
  have hC : clampR ks 32 = clampL ks := rfl
  rw [hN, hC] at C1
  have hr : rdZ 32 us = numF us % fldP := rfl
  have C2 := fun X (hX : Below w.heap.size w X) => readField_any q 32 d us w X h' hb2 hd hX
  rw [hr] at C2
  have hdc : decide (32 = 32) = true := rfl
  rw [hdc] at C2
  have hx := inP_mod (numF us)
  obtain ⟨x, hxe⟩ : ∃ x, x = numF us % fldP := ⟨_, rfl⟩
  have C3 := fun X => ladderAt_any x X
  have C4 := fun bk ok ck X hk => down_any bk ok ck (clampL ks) x X (clampL_byte hb1) hk (by rw [hxe]; exact hx)
  have hfin := pt_fin ks us
  rw [← hxe] at C2 hfin
  obtain ⟨s, hs⟩ : ∃ s, s = ladE (bitB (clampL ks)) x := ⟨_, rfl⟩
  rw [← hs] at hfin C4
  have C5 := fun X => inverse_any (s.c % fldP) X (inP_mod _).1 (inP_mod _).2
  have C6 := fun X => ctimes (inP_mod s.a) (inP_mod ((s.c % fldP) ^ (fldP - 2).toNat)) X
  rw [hfin] at C6
  have C7 := fun X => bytesU_any (ptZ ks us) X
  unfold uP at C2 C5 C7
  obtain ⟨V, hV⟩ : ∃ V, V = numB (ptZ ks us) := ⟨_, rfl⟩
  rw [← hV] at C7 ⊢
  have e3 : uV (numU ((s.c % fldP) ^ (fldP - 2).toNat % fldP)) 4 = numV ((s.c % fldP) ^ (fldP - 2).toNat % fldP) := rfl
  have e4 : uV (numU (s.c % fldP)) 4 = numV (s.c % fldP) := rfl
  have e5 : uV (numU (ptZ ks us)) 4 = numV (ptZ ks us) := rfl
  have e6 : uV (numU x) 4 = numV x := rfl
  have e7 : ratC (modL s) = numV (s.a % fldP) ++ numV (s.c % fldP) := rfl
  rw [e3, e4] at C5
  rw [e5] at C7
  rw [e6] at C2
  rw [e7] at C4
  have qx := numV_q4 x
  have qA := numV_q4 (s.a % fldP)
  have qC := numV_q4 (s.c % fldP)
  clear hV e3 e4 e5 e6 e7 hfin hs hxe hx hr hdc
  generalize numV (ptZ ks us) = LP at C6 C7
  generalize numV ((s.c % fldP) ^ (fldP - 2).toNat % fldP) = LI at C5 C6
  generalize numV (s.a % fldP) = LA at C4 C6 qA
  generalize numV (s.c % fldP) = LC at C4 C5 qC
  generalize ladC x ⟨1, x, 0, 1⟩ = LL at C3 C4
  generalize numV x = LX at C2 C3 qx
  generalize clampL ks = kk at C1 C4
  clear h h' hN hC hb1 hb2 hl hd s x
  obtain ⟨Z, hZ⟩ : ∃ Z, Z = (uV (fun _ => 0) 4).toArray := ⟨_, rfl⟩
  rw [← hZ] at hz
  replace hZ : Hid (Z = (uV (fun _ => 0) 4).toArray) := hZ
  obtain ⟨Z8, hZ8⟩ : ∃ Z, Z = (uV (fun _ => 0) 8).toArray := ⟨_, rfl⟩
  rw [← hZ8] at hzr
  replace hZ8 : Hid (Z8 = (uV (fun _ => 0) 8).toArray) := hZ8
  obtain ⟨LR, hLR⟩ : ∃ L, L = LA ++ LC := ⟨_, rfl⟩
  simp only [← hLR] at C4
  have y1 : LR.length = 8 := by rw [hLR]; exact rat_length qA qC
  have y2 : ∀ v ∈ LR, v.oneCell' = true := by rw [hLR]; exact rat_one qA qC
  replace hLR : Hid (LR = LA ++ LC) := hLR
  have y3 := szRat2 y1
  have zx := qx.sz
  have zx2 := qx.sz2
  have ox := qx.one
  go_enter Tryz.func40, Tryz.ntmps40
  go_wp2_with (fail)
  refine C1.mono ?_
  rintro e w1 ⟨p1, c1, rfl, o1, b1⟩
  have C2' := C2 w1 b1
  clear C2
  go_wp2_with (fail)
  refine C2'.mono ?_
  rintro e w2 ⟨rfl, b2⟩
  replace o1 := o1.on b2
  have bel := below_on b1 b2
  clear b1 b2 C2' C1
  have m1 := RowL.made (L := uV (fun _ => 0) 4) w2 84 4 w.heap.size (uV_length _ _) (by decide) bel.size
  rw [← hZ.out] at m1
  have b2 : Below w2.heap.size w2 (w2.alloc (.cells Z 84)) := (Below.refl _ _).alloc (Nat.le_refl _) _
  have th := m1.there (o := 0) (m := LX.toArray.size) (by simp [qx.len])
  have pp := m1.putAll (B := LX) (by rw [qx.len, uV_length])
  have bX := b2.grown pp.2 b2.size (fun k hk => by cases hk; exact Nat.le_refl _)
  have rx := pp.1
  have q0 := rx.all
  replace o1 := o1.on bX
  replace bel := below_on bel bX
  clear m1 b2 pp bX rx
  go_wp2_with (first | (with_reducible refine wpList_store_mid rfl 84 _ _ rfl w2.heap.size 0 LX.toArray rfl rfl th zx2 (all_oneCell_toArray ox) ?_; (try dsimp only)) | (with_reducible refine wpList_load_mid rfl 84 _ rfl w2.heap.size 0 rfl LX _ q0 Tryz.underlying84 rfl zx ?_))
  generalize (w2.alloc (.cells Z 84)).setCells w2.heap.size 0 LX = w3 at o1 bel ⊢
  clear th q0
  refine (C3 _).mono ?_
  rintro e w4 ⟨rfl, b4⟩
  replace o1 := o1.on b4
  replace bel := below_on bel b4
  obtain ⟨bk, ok, rfl, hk⟩ := o1.bytes (by decide)
  have C4' := C4 bk ok c1 w4 hk
  clear C4 hk b4 C3 o1
  go_wp2_with (fail)
  refine C4'.mono ?_
  rintro e w5 ⟨rfl, b5⟩
  replace bel := below_on bel b5
  clear C4' b5
  have m1 := RowL.made (L := uV (fun _ => 0) 8) w5 88 8 w.heap.size (uV_length _ _) (by decide) bel.size
  rw [← hZ8.out] at m1
  have b2 : Below w5.heap.size w5 (w5.alloc (.cells Z8 88)) := (Below.refl _ _).alloc (Nat.le_refl _) _
  have th := m1.there (o := 0) (m := LR.toArray.size) (by simp [y1])
  have pp := m1.putAll (B := LR) (by rw [y1, uV_length])
  have bX := b2.grown pp.2 b2.size (fun k hk => by cases hk; exact Nat.le_refl _)
  have rx := pp.1
  replace bel := below_on bel bX
  clear m1 b2 pp bX
  go_wp2_with (with_reducible refine wpList_store_mid rfl 88 _ _ rfl w5.heap.size 0 LR.toArray rfl rfl th y3 (all_oneCell_toArray y2) ?_; (try dsimp only))
  generalize (w5.alloc (.cells Z8 88)).setCells w5.heap.size 0 LR = w6 at rx bel ⊢
  generalize w5.heap.size = G8 at rx ⊢
  rw [hLR.out] at rx
  clear th hLR y1 y2 y3
  have hd0 : Below w6.heap.size w6 w6.drew := (Below.refl _ _).drew
  refine wp_region_noPanic ?_
  refine wp_region_T 99 (fun X => X.rangeAt G8 0 LA ∧ X.rangeAt G8 4 LC) (fun _ => True) (by kernel_rfl) ?_
  generalize w6.drew = w7 at hd0 ⊢
  replace rx := rx.below hd0
  replace bel := below_on bel hd0
  clear hd0
  have rgA : ∀ X, RowL 88 8 X w.heap.size G8 (LA ++ LC) → X.rangeAt G8 0 LA ∧ X.rangeAt G8 4 LC := fun X hX => by
    have h1 : RowL 88 8 X w.heap.size G8 ([] ++ (LA ++ LC)) := hX
    have h2 : RowL 88 8 X w.heap.size G8 (LA ++ (LC ++ [])) := by rw [List.append_nil]; exact hX
    exact ⟨h1.mid rfl, h2.mid qA.len⟩
  have hT := rgA _ rx
  refine anyT_takeT (i := 0) (v := .pointer (some ⟨G8, 0, none⟩)) rfl (by kernel_rfl) (by kernel_rfl) (by kernel_rfl) (by kernel_rfl) (fun _ _ _ h => h) (Or.inl ⟨by rfl, fun X hSw => by ((try dsimp only at hSw); go_simp)⟩) hT (fun _ => trivial) ?_
  simp only [Act.put, List.getElem_toArray, List.getElem_cons_zero, List.setIfInBounds_toArray, List.set_cons_zero, List.set_cons_succ]
  refine anyT_takeT (i := 1) rfl (by kernel_rfl) (by kernel_rfl) (by kernel_rfl) (by kernel_rfl) (fun _ _ _ h => h) (yieldsIf_load_mid (by rfl) _ _ rfl _ _ rfl LA _ (fun _ hw => hw.1) Tryz.underlying84 rfl qA.sz) hT (fun _ => trivial) ?_
  simp only [Act.put, List.getElem_toArray, List.getElem_cons_zero, List.getElem_cons_succ, List.setIfInBounds_toArray, List.set_cons_zero, List.set_cons_succ]
  refine anyT_takeT (i := 2) (v := .pointer (some ⟨G8, 4, none⟩)) rfl (by kernel_rfl) (by kernel_rfl) (by kernel_rfl) (by kernel_rfl) (fun _ _ _ h => h) (Or.inl ⟨by rfl, fun X hSw => by ((try dsimp only at hSw); go_simp)⟩) hT (fun _ => trivial) ?_
  simp only [Act.put, List.getElem_toArray, List.getElem_cons_zero, List.getElem_cons_succ, List.setIfInBounds_toArray, List.set_cons_zero, List.set_cons_succ]
  refine anyT_takeT (i := 3) rfl (by kernel_rfl) (by kernel_rfl) (by kernel_rfl) (by kernel_rfl) (fun _ _ _ h => h) (yieldsIf_load_mid (by rfl) _ _ rfl _ _ rfl LC _ (fun _ hw => hw.2) Tryz.underlying84 rfl qC.sz) hT (fun _ => trivial) ?_
  simp only [Act.put, List.getElem_toArray, List.getElem_cons_zero, List.getElem_cons_succ, List.setIfInBounds_toArray, List.set_cons_zero, List.set_cons_succ]
  refine anyT_one (i := 4) (by kernel_rfl) rfl (fun K hK => ?_)
  go_simp
  refine (C5 _).mono ?_
  rintro e wc4 ⟨rfl, bc⟩
  replace rx := rx.below bc
  replace bel := below_on bel bc
  clear hT
  have hT := rgA _ rx
  go_wp2_with (fail)
  refine hK.out _ _ hT (fun _ => trivial) ?_
  clear hK K bc
  refine anyT_one (i := 5) (by kernel_rfl) rfl (fun K hK => ?_)
  go_simp
  refine (C6 _).mono ?_
  rintro e wc5 ⟨rfl, bc⟩
  replace rx := rx.below bc
  replace bel := below_on bel bc
  clear hT
  have hT := rgA _ rx
  go_wp2_with (fail)
  refine hK.out _ _ hT (fun _ => trivial) ?_
  clear hK K bc
  refine anyT_one (i := 6) (by kernel_rfl) rfl (fun K hK => ?_)
  go_simp
  refine (C7 _).mono ?_
  rintro e w9 ⟨p9, rfl, o9, bc⟩
  have hsz := bel.size
  replace rx := rx.below bc
  replace bel := below_on bel bc
  clear hT
  have hT := rgA _ rx
  go_wp2_with (fail)
  refine hK.out _ _ hT (fun _ => trivial) ?_
  clear hK K bc
  refine anyT_takeT (i := 7) (v := .slice p9 32 32) rfl (by kernel_rfl) (by kernel_rfl) (by kernel_rfl) (by kernel_rfl) (fun _ _ _ h => h) (Or.inl ⟨by rfl, fun X hSw => by ((try dsimp only at hSw); go_simp)⟩) hT (fun _ => trivial) ?_
  simp only [Act.put, List.getElem_toArray, List.getElem_cons_zero, List.getElem_cons_succ, List.setIfInBounds_toArray, List.set_cons_zero, List.set_cons_succ]
  refine anyT_done (by kernel_rfl) ?_ _
  refine NoPanic.normal ?_
  go_wp2_with (fail)
  go_ret
  exact ⟨_, _, rfl, ⟨owns_mono o9.1 hsz, o9.2⟩, bel⟩

set_option maxRecDepth 100000 in
set_option maxHeartbeats 8000000 in
theorem implPoint_no (p q : Option Addr) (n m c d : Nat) (ks us : List Int) (w : World) (hl : ks.length = n) (h : BytesIn w p n ks) (h' : BytesIn w q m us) (hb1 : ∀ x ∈ ks, 0 ≤ x ∧ x < 256) (hb2 : ∀ x ∈ us, 0 ≤ x ∧ x < 256) (hd : m ≤ d) (hok : ¬ two32 n m) :
    Calls Tryz.prog 40 #[.slice p n c, .slice q m d] w fun e w' => e = .returned (.slice none 0 0) ∧ Below w.heap.size w w' := by
  have hz := (zero_of_info infoU4).1
  have C1 := implClamp_any p n c ks w hl h hb1
  have C2 := fun X (hX : Below w.heap.size w X) => readField_any q m d us w X h' hb2 hd hX
  unfold uP at C2
  have qx := q4 (rdZ m us)
  generalize uV (numU (rdZ m us)) 4 = LX at C2 qx
  generalize clampR ks n = kk at C1
  have hN : Hid (n = 32 ∧ oneN n = 32 ∨ ¬ n = 32 ∧ oneN n = 0) := by
    unfold oneN Hid
    by_cases e : n = 32
    · exact .inl ⟨e, if_pos e⟩
    · exact .inr ⟨e, if_neg e⟩
  generalize oneN n = N at C1 hN
  have hm : Hid (m = 32 ∧ decide (m = 32) = true ∨ ¬ m = 32 ∧ decide (m = 32) = false) := by
    unfold Hid
    by_cases e : m = 32
    · exact .inl ⟨e, decide_eq_true e⟩
    · exact .inr ⟨e, decide_eq_false e⟩
  obtain ⟨t, ht⟩ : ∃ t, t = decide (m = 32) := ⟨_, rfl⟩
  rw [← ht] at C2 hm
  replace hok : Hid (¬ (n = 32 ∧ m = 32)) := hok
  clear h h' hb1 hb2 hl hd ht
  obtain ⟨Z, hZ⟩ : ∃ Z, Z = (uV (fun _ => 0) 4).toArray := ⟨_, rfl⟩
  rw [← hZ] at hz
  replace hZ : Hid (Z = (uV (fun _ => 0) 4).toArray) := hZ
  have zx2 := qx.sz2
  have ox := qx.one
  go_enter Tryz.func40, Tryz.ntmps40
  go_wp2_with (fail)
  refine C1.mono ?_
  rintro e w1 ⟨p1, c1, rfl, o1, b1⟩
  have C2' := C2 w1 b1
  clear C2 o1
  go_wp2_with (fail)
  refine C2'.mono ?_
  rintro e w2 ⟨rfl, b2⟩
  have bel := below_on b1 b2
  clear b1 b2 C2' C1
  have m1 := RowL.made (L := uV (fun _ => 0) 4) w2 84 4 w.heap.size (uV_length _ _) (by decide) bel.size
  rw [← hZ.out] at m1
  have b2 : Below w2.heap.size w2 (w2.alloc (.cells Z 84)) := (Below.refl _ _).alloc (Nat.le_refl _) _
  have th := m1.there (o := 0) (m := LX.toArray.size) (by simp [qx.len])
  have pp := m1.putAll (B := LX) (by rw [qx.len, uV_length])
  have bX := b2.grown pp.2 b2.size (fun k hk => by cases hk; exact Nat.le_refl _)
  replace bel := below_on bel bX
  clear m1 b2 pp bX
  rcases hN.out with ⟨e1, e2⟩ | ⟨e1, e2⟩
  · rcases hm.out with ⟨e3, e4⟩ | ⟨e3, e4⟩
    · exact absurd ⟨e1, e3⟩ hok.out
    · subst e2 e4
      clear hN hm hok e1 e3
      go_wp2_with (with_reducible refine wpList_store_mid rfl 84 _ _ rfl w2.heap.size 0 LX.toArray rfl rfl th zx2 (all_oneCell_toArray ox) ?_; (try dsimp only))
      go_ret
      exact ⟨rfl, bel⟩
  · subst e2
    clear hN hm hok e1
    go_wp2_with (with_reducible refine wpList_store_mid rfl 84 _ _ rfl w2.heap.size 0 LX.toArray rfl rfl th zx2 (all_oneCell_toArray ox) ?_; (try dsimp only))
    go_ret
    exact ⟨rfl, bel⟩

theorem implPoint_any (p q : Option Addr) (n m c d : Nat) (ks us : List Int) (w : World) (hl : ks.length = n) (h : BytesIn w p n ks) (h' : BytesIn w q m us) (hb1 : ∀ x ∈ ks, 0 ≤ x ∧ x < 256) (hb2 : ∀ x ∈ us, 0 ≤ x ∧ x < 256) (hd : m ≤ d) :
    Calls Tryz.prog 40 #[.slice p n c, .slice q m d] w fun e w' => ∃ p' c', e = .returned (.slice p' (fldN n m) c') ∧ Own 5 w' w.heap.size w'.heap.size (.slice p' (fldN n m) c') (fldN n m) (fldL (ptZ ks us) n m) ∧ Below w.heap.size w w' := by
  unfold fldN fldL
  by_cases hok : two32 n m
  · rw [if_pos hok, if_pos hok, ptZ_mod]
    obtain ⟨rfl, rfl⟩ := hok
    exact implPoint_yes p q c d ks us w hl h h' hb1 hb2 hd
  · rw [if_neg hok, if_neg hok]
    refine (implPoint_no p q n m c d ks us w hl h h' hb1 hb2 hd hok).mono ?_
    rintro e w' ⟨rfl, hb⟩
    exact ⟨_, _, rfl, ⟨⟨rfl, .inl ⟨rfl, rfl⟩⟩, fun k hk => by cases hk⟩, hb⟩

set_option maxRecDepth 100000 in
set_option maxHeartbeats 4000000 in
theorem implPublic_any (p : Option Addr) (n c : Nat) (ks : List Int) (w : World) (hl : ks.length = n) (h : BytesIn w p n ks) (hb1 : ∀ x ∈ ks, 0 ≤ x ∧ x < 256) :
    Calls Tryz.prog 19 #[.slice p n c] w fun e w' => ∃ p' c', e = .returned (.slice p' (oneN n) c') ∧ Own 5 w' w.heap.size w'.heap.size (.slice p' (oneN n) c') (oneN n) (oneL (ptZ ks baseL) n) ∧ Below w.heap.size w w' := by
  have C1 := implFieldNum_any 9 w (by decide)
  have hN : numB (nnZ 9) = baseL := rfl
  rw [hN] at C1
  have C2 := fun q d X (hX : Below w.heap.size w X) (hq : BytesIn X q 32 baseL) (hd : 32 ≤ d) => implPoint_any p q n 32 c d ks baseL X hl (in_below h hX) hq hb1 baseL_byte hd
  rw [fldN_one, fldL_one] at C2
  generalize oneL (ptZ ks baseL) n = V at C2
  generalize oneN n = N at C2
  generalize baseL = B at C1 C2
  clear hN h hb1 hl
  go_enter Tryz.func19, Tryz.ntmps19
  go_wp2_with (fail)
  refine C1.mono ?_
  rintro e w1 ⟨p1, c1, rfl, o1, b1⟩
  have C3 := C2 p1 c1 w1 b1 o1.bytes (own_cap o1)
  clear C2
  go_wp2_with (fail)
  refine C3.mono ?_
  rintro e w2 ⟨p2, c2, rfl, o2, b2⟩
  go_wp2_with (fail)
  go_ret
  exact ⟨_, _, rfl, ⟨owns_mono o2.1 b1.size, o2.2⟩, below_on b1 b2⟩

end Go.Proofs.YtdjdanpicbaieaaGreatDoor
