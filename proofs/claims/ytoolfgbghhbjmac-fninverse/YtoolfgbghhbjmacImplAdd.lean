/-
  What the program's FieldAdd and FieldSub answer. Conditions: bytes; a capacity that is not less than the length.
-/
import Derived.Test.YtoolfgbghhbjmacFieldJ
import Derived.Test.YtoolfgbghhbjmacParts4
import Derived.Test.YtoolfgbghhbjmacFieldN
import Derived.Test.YtoolfgbghhbjmacFieldD
namespace Go.Proofs.Ytoolfgbghhbjmac
open Go.RowKit

set_option maxRecDepth 100000 in
set_option maxHeartbeats 8000000 in
theorem both_plus (p q : Option Addr) (n m c d : Nat) (ks bs : List Int) (w : World) (h : BytesIn w p n ks) (h' : BytesIn w q m bs) (hb1 : ∀ x ∈ ks, 0 ≤ x ∧ x < 256) (hb2 : ∀ x ∈ bs, 0 ≤ x ∧ x < 256) (hc : n ≤ c) (hd : m ≤ d) :
    Calls Try.prog 29 #[.slice p n c, .slice q m d, .func (.func 31) #[] #[]] w fun e w' => ∃ p' c', e = .returned (.slice p' (fldN n m) c') ∧ Own 5 w' w.heap.size w'.heap.size (.slice p' (fldN n m) c') (fldN n m) (fldL (numF ks + numF bs) n m) ∧ Below w.heap.size w w' := by
  have hz := (zero_of_info infoU4).1
  have CX : Hid (∀ X, Below w.heap.size w X → Calls Try.prog 39 #[.slice p n c] X fun e w' => e = .returned (.tuple #[uP (rdZ n ks), .bool (decide (n = 32))]) ∧ Below X.heap.size X w') := fun X hX => readField_any p n c ks w X h hb1 hc hX
  have CY : Hid (∀ X, Below w.heap.size w X → Calls Try.prog 39 #[.slice q m d] X fun e w' => e = .returned (.tuple #[uP (rdZ m bs), .bool (decide (m = 32))]) ∧ Below X.heap.size X w') := fun X hX => readField_any q m d bs w X h' hb2 hd hX
  have CO : ∀ X, Calls Try.prog 31 #[uP (rdZ n ks), uP (rdZ m bs)] X fun e w' => e = .returned (uP ((rdZ n ks + rdZ m bs) % fldP)) ∧ Below X.heap.size X w' := fun X => by
    have h1 := rdZ_range n ks
    have h2 := rdZ_range m bs
    have h4 := b4U
    exact plus_any _ _ X h1.1 h2.1 (by omega)
  have CB := fun X => bytesU_any ((rdZ n ks + rdZ m bs) % fldP) X
  have hfin : Hid (two32 n m → numB ((rdZ n ks + rdZ m bs) % fldP) = numB ((numF ks + numF bs) % fldP)) := fun ⟨e1, e2⟩ => by
    rw [show rdZ n ks = numF ks % fldP from if_pos e1, show rdZ m bs = numF bs % fldP from if_pos e2, both_add]
  unfold uP at CX CY CO CB
  clear h h' hb1 hb2 hc hd
  obtain ⟨Z, hZ⟩ : ∃ Z, Z = (uV (fun _ => 0) 4).toArray := ⟨_, rfl⟩
  rw [← hZ] at hz
  replace hZ : Hid (Z = (uV (fun _ => 0) 4).toArray) := hZ
  obtain ⟨D, hD⟩ : ∃ D, D = numB ((numF ks + numF bs) % fldP) := ⟨_, rfl⟩
  obtain ⟨D', hD'⟩ : ∃ D', D' = numB ((rdZ n ks + rdZ m bs) % fldP) := ⟨_, rfl⟩
  unfold fldN fldL
  rw [← hD] at hfin ⊢
  rw [← hD'] at hfin CB
  generalize numU ((rdZ n ks + rdZ m bs) % fldP) = R at CO CB
  generalize numU (rdZ n ks) = F1 at CX CO
  generalize numU (rdZ m bs) = F2 at CY CO
  clear hD hD'
  obtain ⟨C1, hC1⟩ : ∃ C1, C1 = uV F1 4 := ⟨_, rfl⟩
  obtain ⟨C2, hC2⟩ : ∃ C2, C2 = uV F2 4 := ⟨_, rfl⟩
  rw [← hC1] at CX
  rw [← hC2] at CY
  simp only [← hC1, ← hC2] at CO
  have one1 := uV_one F1 4
  have one2 := uV_one F2 4
  have sz1 := sizeU (f := F1)
  have sz2 := sizeU (f := F2)
  have sa1 := sizeU2 (f := F1)
  have sa2 := sizeU2 (f := F2)
  rw [← hC1] at one1 sz1 sa1
  rw [← hC2] at one2 sz2 sa2
  replace hC1 : Hid (uV F1 4 = C1) := hC1.symm
  replace hC2 : Hid (uV F2 4 = C2) := hC2.symm
  obtain ⟨bx, hbx⟩ : ∃ bx, bx = decide (n = 32) := ⟨_, rfl⟩
  obtain ⟨by', hby⟩ : ∃ by', by' = decide (m = 32) := ⟨_, rfl⟩
  rw [← hbx] at CX
  rw [← hby] at CY
  have hsel : Hid ((two32 n m ∧ bx = true ∧ by' = true) ∨ (¬ two32 n m ∧ bx = false) ∨ (¬ two32 n m ∧ bx = true ∧ by' = false)) := by
    unfold Hid two32
    rw [hbx, hby]
    by_cases e1 : n = 32
    · by_cases e2 : m = 32
      · exact .inl ⟨⟨e1, e2⟩, decide_eq_true e1, decide_eq_true e2⟩
      · exact .inr (.inr ⟨fun hh => e2 hh.2, decide_eq_true e1, decide_eq_false e2⟩)
    · exact .inr (.inl ⟨fun hh => e1 hh.1, decide_eq_false e1⟩)
  clear hbx hby
  obtain ⟨N, hN⟩ : ∃ N, N = (if two32 n m then 32 else 0) := ⟨_, rfl⟩
  obtain ⟨DL, hDL⟩ : ∃ DL, DL = (if two32 n m then D else []) := ⟨_, rfl⟩
  rw [← hN, ← hDL]
  replace hN : Hid (N = (if two32 n m then 32 else 0)) := hN
  replace hDL : Hid (DL = (if two32 n m then D else [])) := hDL
  go_enter Try.func29, Try.ntmps29
  go_wp2_with (fail)
  refine (CX.out _ (Below.refl _ _)).mono ?_
  rintro e w1 ⟨rfl, b1⟩
  have m3 := RowU.made w1 40 4 w.heap.size (fun _ => 0) (by decide) b1.size
  rw [← hZ.out] at m3
  have b3 : Below w1.heap.size w1 (w1.alloc (.cells Z 40)) := (Below.refl _ _).alloc (Nat.le_refl _) _
  have hp := m3.put (f' := F1)
  have hth := m3.there2 (f' := F1)
  rw [hC1.out] at hp hth
  have s1 := b1.size
  have s3 := b3.size
  have bel1 := (below_on b1 b3).grown hp.2 (by omega) (fun k hk => by cases hk; exact b1.size)
  have r1 := hp.1
  clear hp m3 b3 CX
  go_wp2_with (refine wpList_store_mid rfl 40 _ _ rfl w1.heap.size 0 C1.toArray rfl rfl hth sa1 (all_oneCell_toArray one1) ?_)
  obtain ⟨G7, hG7⟩ : ∃ G7, G7 = w1.heap.size := ⟨_, rfl⟩
  rw [← hG7] at r1 bel1 ⊢
  have l7 : w.heap.size ≤ G7 := by omega
  generalize World.setCells _ G7 0 _ = w2 at r1 bel1 ⊢
  clear hth hG7 s1 s3 b1
  refine (CY.out _ bel1).mono ?_
  rintro e w3 ⟨rfl, b4⟩
  replace r1 := r1.below b4
  replace bel1 := below_on bel1 b4
  have z7 := r1.lt
  have m4 := RowU.made w3 40 4 w.heap.size (fun _ => 0) (by decide) (by omega)
  rw [← hZ.out] at m4
  have b5 : Below w3.heap.size w3 (w3.alloc (.cells Z 40)) := (Below.refl _ _).alloc (Nat.le_refl _) _
  have hp := m4.put (f' := F2)
  have hth := m4.there2 (f' := F2)
  rw [hC2.out] at hp hth
  have s5 := b5.size
  have bel2 := (below_on bel1 b5).grown hp.2 (by omega) (fun k hk => by cases hk; omega)
  replace r1 := (r1.below b5).kept hp.2 (by omega)
  have r2 := hp.1
  clear hp m4 b5 CY b4 bel1
  rcases hsel.out with ⟨ht, e1, e2⟩ | ⟨ht, e1⟩ | ⟨ht, e1, e2⟩
  · subst e1 e2
    rw [if_pos ht] at hN hDL
    have hra := r1.range
    have hrb := r2.range
    rw [hC1.out] at hra
    rw [hC2.out] at hrb
    have hDD := hfin.out ht
    clear hfin hsel r1 r2
    go_wp2_with (first | (refine wpList_store_mid rfl 40 _ _ rfl w3.heap.size 0 C2.toArray rfl rfl hth sa2 (all_oneCell_toArray one2) ?_) | (refine wpList_load_mid rfl 40 _ rfl G7 0 rfl C1 _ hra Try.underlying40 rfl sz1 ?_) | (refine wpList_load_mid rfl 40 _ rfl w3.heap.size 0 rfl C2 _ hrb Try.underlying40 rfl sz2 ?_))
    generalize World.setCells _ w3.heap.size 0 _ = w4 at bel2 ⊢
    refine (CO _).mono ?_
    rintro e w5 ⟨rfl, b6⟩
    go_wp2_with (fail)
    refine (CB _).mono ?_
    rintro e w6 ⟨p6, rfl, o6, b7⟩
    have bel3 := below_on bel2 b6
    go_wp2_with (fail)
    go_ret
    rw [hN.out, hDL.out, ← hDD]
    exact ⟨_, _, rfl, ⟨owns_mono o6.1 bel3.size, o6.2⟩, below_on bel3 b7⟩
  · subst e1
    rw [if_neg ht] at hN hDL
    clear hfin hsel r1 r2 CO CB
    go_wp2_with (refine wpList_store_mid rfl 40 _ _ rfl w3.heap.size 0 C2.toArray rfl rfl hth sa2 (all_oneCell_toArray one2) ?_)
    go_ret
    rw [hN.out, hDL.out]
    exact ⟨_, _, rfl, ⟨⟨rfl, .inl ⟨rfl, rfl⟩⟩, fun k hk => by cases hk⟩, bel2⟩
  · subst e1 e2
    rw [if_neg ht] at hN hDL
    clear hfin hsel r1 r2 CO CB
    go_wp2_with (refine wpList_store_mid rfl 40 _ _ rfl w3.heap.size 0 C2.toArray rfl rfl hth sa2 (all_oneCell_toArray one2) ?_)
    go_ret
    rw [hN.out, hDL.out]
    exact ⟨_, _, rfl, ⟨⟨rfl, .inl ⟨rfl, rfl⟩⟩, fun k hk => by cases hk⟩, bel2⟩

set_option maxRecDepth 100000 in
set_option maxHeartbeats 2000000 in
theorem implFieldAdd_any (p q : Option Addr) (n m c d : Nat) (ks bs : List Int) (w : World) (h : BytesIn w p n ks) (h' : BytesIn w q m bs) (hb1 : ∀ x ∈ ks, 0 ≤ x ∧ x < 256) (hb2 : ∀ x ∈ bs, 0 ≤ x ∧ x < 256) (hc : n ≤ c) (hd : m ≤ d) :
    Calls Try.prog 11 #[.slice p n c, .slice q m d] w fun e w' => ∃ p' c', e = .returned (.slice p' (fldN n m) c') ∧ Own 5 w' w.heap.size w'.heap.size (.slice p' (fldN n m) c') (fldN n m) (fldL (numF ks + numF bs) n m) ∧ Below w.heap.size w w' := by
  have C := both_plus p q n m c d ks bs w h h' hb1 hb2 hc hd
  clear h h' hb1 hb2 hc hd
  generalize fldL (numF ks + numF bs) n m = D at C ⊢
  generalize fldN n m = N at C ⊢
  go_enter Try.func11, Try.ntmps11
  go_wp2_with (fail)
  refine C.mono ?_
  rintro e w1 ⟨p1, c1, rfl, o1, b1⟩
  go_wp2_with (fail)
  go_ret
  exact ⟨_, _, rfl, o1, b1⟩

set_option maxRecDepth 100000 in
set_option maxHeartbeats 8000000 in
theorem both_minus (p q : Option Addr) (n m c d : Nat) (ks bs : List Int) (w : World) (h : BytesIn w p n ks) (h' : BytesIn w q m bs) (hb1 : ∀ x ∈ ks, 0 ≤ x ∧ x < 256) (hb2 : ∀ x ∈ bs, 0 ≤ x ∧ x < 256) (hc : n ≤ c) (hd : m ≤ d) :
    Calls Try.prog 29 #[.slice p n c, .slice q m d, .func (.func 32) #[] #[]] w fun e w' => ∃ p' c', e = .returned (.slice p' (fldN n m) c') ∧ Own 5 w' w.heap.size w'.heap.size (.slice p' (fldN n m) c') (fldN n m) (fldL (numF ks - numF bs) n m) ∧ Below w.heap.size w w' := by
  have hz := (zero_of_info infoU4).1
  have CX : Hid (∀ X, Below w.heap.size w X → Calls Try.prog 39 #[.slice p n c] X fun e w' => e = .returned (.tuple #[uP (rdZ n ks), .bool (decide (n = 32))]) ∧ Below X.heap.size X w') := fun X hX => readField_any p n c ks w X h hb1 hc hX
  have CY : Hid (∀ X, Below w.heap.size w X → Calls Try.prog 39 #[.slice q m d] X fun e w' => e = .returned (.tuple #[uP (rdZ m bs), .bool (decide (m = 32))]) ∧ Below X.heap.size X w') := fun X hX => readField_any q m d bs w X h' hb2 hd hX
  have CO : ∀ X, Calls Try.prog 32 #[uP (rdZ n ks), uP (rdZ m bs)] X fun e w' => e = .returned (uP ((rdZ n ks - rdZ m bs) % fldP)) ∧ Below X.heap.size X w' := fun X => by
    have h1 := rdZ_range n ks
    have h2 := rdZ_range m bs
    have h4 := b4U
    exact minus_any _ _ X h1.1 h1.2 h2.1 h2.2
  have CB := fun X => bytesU_any ((rdZ n ks - rdZ m bs) % fldP) X
  have hfin : Hid (two32 n m → numB ((rdZ n ks - rdZ m bs) % fldP) = numB ((numF ks - numF bs) % fldP)) := fun ⟨e1, e2⟩ => by
    rw [show rdZ n ks = numF ks % fldP from if_pos e1, show rdZ m bs = numF bs % fldP from if_pos e2, both_sub]
  unfold uP at CX CY CO CB
  clear h h' hb1 hb2 hc hd
  obtain ⟨Z, hZ⟩ : ∃ Z, Z = (uV (fun _ => 0) 4).toArray := ⟨_, rfl⟩
  rw [← hZ] at hz
  replace hZ : Hid (Z = (uV (fun _ => 0) 4).toArray) := hZ
  obtain ⟨D, hD⟩ : ∃ D, D = numB ((numF ks - numF bs) % fldP) := ⟨_, rfl⟩
  obtain ⟨D', hD'⟩ : ∃ D', D' = numB ((rdZ n ks - rdZ m bs) % fldP) := ⟨_, rfl⟩
  unfold fldN fldL
  rw [← hD] at hfin ⊢
  rw [← hD'] at hfin CB
  generalize numU ((rdZ n ks - rdZ m bs) % fldP) = R at CO CB
  generalize numU (rdZ n ks) = F1 at CX CO
  generalize numU (rdZ m bs) = F2 at CY CO
  clear hD hD'
  obtain ⟨C1, hC1⟩ : ∃ C1, C1 = uV F1 4 := ⟨_, rfl⟩
  obtain ⟨C2, hC2⟩ : ∃ C2, C2 = uV F2 4 := ⟨_, rfl⟩
  rw [← hC1] at CX
  rw [← hC2] at CY
  simp only [← hC1, ← hC2] at CO
  have one1 := uV_one F1 4
  have one2 := uV_one F2 4
  have sz1 := sizeU (f := F1)
  have sz2 := sizeU (f := F2)
  have sa1 := sizeU2 (f := F1)
  have sa2 := sizeU2 (f := F2)
  rw [← hC1] at one1 sz1 sa1
  rw [← hC2] at one2 sz2 sa2
  replace hC1 : Hid (uV F1 4 = C1) := hC1.symm
  replace hC2 : Hid (uV F2 4 = C2) := hC2.symm
  obtain ⟨bx, hbx⟩ : ∃ bx, bx = decide (n = 32) := ⟨_, rfl⟩
  obtain ⟨by', hby⟩ : ∃ by', by' = decide (m = 32) := ⟨_, rfl⟩
  rw [← hbx] at CX
  rw [← hby] at CY
  have hsel : Hid ((two32 n m ∧ bx = true ∧ by' = true) ∨ (¬ two32 n m ∧ bx = false) ∨ (¬ two32 n m ∧ bx = true ∧ by' = false)) := by
    unfold Hid two32
    rw [hbx, hby]
    by_cases e1 : n = 32
    · by_cases e2 : m = 32
      · exact .inl ⟨⟨e1, e2⟩, decide_eq_true e1, decide_eq_true e2⟩
      · exact .inr (.inr ⟨fun hh => e2 hh.2, decide_eq_true e1, decide_eq_false e2⟩)
    · exact .inr (.inl ⟨fun hh => e1 hh.1, decide_eq_false e1⟩)
  clear hbx hby
  obtain ⟨N, hN⟩ : ∃ N, N = (if two32 n m then 32 else 0) := ⟨_, rfl⟩
  obtain ⟨DL, hDL⟩ : ∃ DL, DL = (if two32 n m then D else []) := ⟨_, rfl⟩
  rw [← hN, ← hDL]
  replace hN : Hid (N = (if two32 n m then 32 else 0)) := hN
  replace hDL : Hid (DL = (if two32 n m then D else [])) := hDL
  go_enter Try.func29, Try.ntmps29
  go_wp2_with (fail)
  refine (CX.out _ (Below.refl _ _)).mono ?_
  rintro e w1 ⟨rfl, b1⟩
  have m3 := RowU.made w1 40 4 w.heap.size (fun _ => 0) (by decide) b1.size
  rw [← hZ.out] at m3
  have b3 : Below w1.heap.size w1 (w1.alloc (.cells Z 40)) := (Below.refl _ _).alloc (Nat.le_refl _) _
  have hp := m3.put (f' := F1)
  have hth := m3.there2 (f' := F1)
  rw [hC1.out] at hp hth
  have s1 := b1.size
  have s3 := b3.size
  have bel1 := (below_on b1 b3).grown hp.2 (by omega) (fun k hk => by cases hk; exact b1.size)
  have r1 := hp.1
  clear hp m3 b3 CX
  go_wp2_with (refine wpList_store_mid rfl 40 _ _ rfl w1.heap.size 0 C1.toArray rfl rfl hth sa1 (all_oneCell_toArray one1) ?_)
  obtain ⟨G7, hG7⟩ : ∃ G7, G7 = w1.heap.size := ⟨_, rfl⟩
  rw [← hG7] at r1 bel1 ⊢
  have l7 : w.heap.size ≤ G7 := by omega
  generalize World.setCells _ G7 0 _ = w2 at r1 bel1 ⊢
  clear hth hG7 s1 s3 b1
  refine (CY.out _ bel1).mono ?_
  rintro e w3 ⟨rfl, b4⟩
  replace r1 := r1.below b4
  replace bel1 := below_on bel1 b4
  have z7 := r1.lt
  have m4 := RowU.made w3 40 4 w.heap.size (fun _ => 0) (by decide) (by omega)
  rw [← hZ.out] at m4
  have b5 : Below w3.heap.size w3 (w3.alloc (.cells Z 40)) := (Below.refl _ _).alloc (Nat.le_refl _) _
  have hp := m4.put (f' := F2)
  have hth := m4.there2 (f' := F2)
  rw [hC2.out] at hp hth
  have s5 := b5.size
  have bel2 := (below_on bel1 b5).grown hp.2 (by omega) (fun k hk => by cases hk; omega)
  replace r1 := (r1.below b5).kept hp.2 (by omega)
  have r2 := hp.1
  clear hp m4 b5 CY b4 bel1
  rcases hsel.out with ⟨ht, e1, e2⟩ | ⟨ht, e1⟩ | ⟨ht, e1, e2⟩
  · subst e1 e2
    rw [if_pos ht] at hN hDL
    have hra := r1.range
    have hrb := r2.range
    rw [hC1.out] at hra
    rw [hC2.out] at hrb
    have hDD := hfin.out ht
    clear hfin hsel r1 r2
    go_wp2_with (first | (refine wpList_store_mid rfl 40 _ _ rfl w3.heap.size 0 C2.toArray rfl rfl hth sa2 (all_oneCell_toArray one2) ?_) | (refine wpList_load_mid rfl 40 _ rfl G7 0 rfl C1 _ hra Try.underlying40 rfl sz1 ?_) | (refine wpList_load_mid rfl 40 _ rfl w3.heap.size 0 rfl C2 _ hrb Try.underlying40 rfl sz2 ?_))
    generalize World.setCells _ w3.heap.size 0 _ = w4 at bel2 ⊢
    refine (CO _).mono ?_
    rintro e w5 ⟨rfl, b6⟩
    go_wp2_with (fail)
    refine (CB _).mono ?_
    rintro e w6 ⟨p6, rfl, o6, b7⟩
    have bel3 := below_on bel2 b6
    go_wp2_with (fail)
    go_ret
    rw [hN.out, hDL.out, ← hDD]
    exact ⟨_, _, rfl, ⟨owns_mono o6.1 bel3.size, o6.2⟩, below_on bel3 b7⟩
  · subst e1
    rw [if_neg ht] at hN hDL
    clear hfin hsel r1 r2 CO CB
    go_wp2_with (refine wpList_store_mid rfl 40 _ _ rfl w3.heap.size 0 C2.toArray rfl rfl hth sa2 (all_oneCell_toArray one2) ?_)
    go_ret
    rw [hN.out, hDL.out]
    exact ⟨_, _, rfl, ⟨⟨rfl, .inl ⟨rfl, rfl⟩⟩, fun k hk => by cases hk⟩, bel2⟩
  · subst e1 e2
    rw [if_neg ht] at hN hDL
    clear hfin hsel r1 r2 CO CB
    go_wp2_with (refine wpList_store_mid rfl 40 _ _ rfl w3.heap.size 0 C2.toArray rfl rfl hth sa2 (all_oneCell_toArray one2) ?_)
    go_ret
    rw [hN.out, hDL.out]
    exact ⟨_, _, rfl, ⟨⟨rfl, .inl ⟨rfl, rfl⟩⟩, fun k hk => by cases hk⟩, bel2⟩

set_option maxRecDepth 100000 in
set_option maxHeartbeats 2000000 in
theorem implFieldSub_any (p q : Option Addr) (n m c d : Nat) (ks bs : List Int) (w : World) (h : BytesIn w p n ks) (h' : BytesIn w q m bs) (hb1 : ∀ x ∈ ks, 0 ≤ x ∧ x < 256) (hb2 : ∀ x ∈ bs, 0 ≤ x ∧ x < 256) (hc : n ≤ c) (hd : m ≤ d) :
    Calls Try.prog 12 #[.slice p n c, .slice q m d] w fun e w' => ∃ p' c', e = .returned (.slice p' (fldN n m) c') ∧ Own 5 w' w.heap.size w'.heap.size (.slice p' (fldN n m) c') (fldN n m) (fldL (numF ks - numF bs) n m) ∧ Below w.heap.size w w' := by
  have C := both_minus p q n m c d ks bs w h h' hb1 hb2 hc hd
  clear h h' hb1 hb2 hc hd
  generalize fldL (numF ks - numF bs) n m = D at C ⊢
  generalize fldN n m = N at C ⊢
  go_enter Try.func12, Try.ntmps12
  go_wp2_with (fail)
  refine C.mono ?_
  rintro e w1 ⟨p1, c1, rfl, o1, b1⟩
  go_wp2_with (fail)
  go_ret
  exact ⟨_, _, rfl, o1, b1⟩

end Go.Proofs.Ytoolfgbghhbjmac
