/-
  What the program's FieldOf answers. Conditions: bytes; a capacity that is not less than the length.
-/
import Derived.Test.YtghoibggmddkmacFieldJ
import Derived.Test.YtghoibggmddkmacParts4
import Derived.Test.YtghoibggmddkmacFieldN
namespace Go.Proofs.Ytghoibggmddkmac
open Go.RowKit

set_option maxRecDepth 100000 in
set_option maxHeartbeats 8000000 in
theorem implFieldOf_any (p : Option Addr) (n c : Nat) (ks : List Int) (w : World) (h : BytesIn w p n ks) (hb1 : ∀ x ∈ ks, 0 ≤ x ∧ x < 256) (hc : n ≤ c) :
    Calls Try.prog 19 #[.slice p n c] w fun e w' => ∃ p' c', e = .returned (.slice p' (oneN n) c') ∧ Own 5 w' w.heap.size w'.heap.size (.slice p' (oneN n) c') (oneN n) (oneL (numF ks) n) ∧ Below w.heap.size w w' := by
  have hz := (zero_of_info infoU4).1
  have CX := readField_any p n c ks w w h hb1 hc (Below.refl _ _)
  have CB := fun X => bytesU_any (rdZ n ks) X
  have hfin : Hid (n = 32 → numB (rdZ n ks) = numB ((numF ks) % fldP)) := fun e1 => by
    rw [show rdZ n ks = numF ks % fldP from if_pos e1]
  unfold uP at CX CB
  clear h hb1 hc
  obtain ⟨Z, hZ⟩ : ∃ Z, Z = (uV (fun _ => 0) 4).toArray := ⟨_, rfl⟩
  rw [← hZ] at hz
  replace hZ : Hid (Z = (uV (fun _ => 0) 4).toArray) := hZ
  obtain ⟨D, hD⟩ : ∃ D, D = numB ((numF ks) % fldP) := ⟨_, rfl⟩
  obtain ⟨D', hD'⟩ : ∃ D', D' = numB (rdZ n ks) := ⟨_, rfl⟩
  unfold oneN oneL
  rw [← hD] at hfin ⊢
  rw [← hD'] at hfin CB
  clear hD hD'
  generalize numU (rdZ n ks) = F1 at CX CB
  obtain ⟨C1, hC1⟩ : ∃ C1, C1 = uV F1 4 := ⟨_, rfl⟩
  rw [← hC1] at CX
  simp only [← hC1] at CB
  have one1 := uV_one F1 4
  have sz1 := sizeU (f := F1)
  have sa1 := sizeU2 (f := F1)
  rw [← hC1] at one1 sz1 sa1
  replace hC1 : Hid (uV F1 4 = C1) := hC1.symm
  obtain ⟨bx, hbx⟩ : ∃ bx, bx = decide (n = 32) := ⟨_, rfl⟩
  rw [← hbx] at CX
  have hsel : Hid ((n = 32 ∧ bx = true) ∨ (¬ n = 32 ∧ bx = false)) := by
    unfold Hid
    rw [hbx]
    by_cases e1 : n = 32
    · exact .inl ⟨e1, decide_eq_true e1⟩
    · exact .inr ⟨e1, decide_eq_false e1⟩
  clear hbx
  obtain ⟨N, hN⟩ : ∃ N, N = (if n = 32 then 32 else 0) := ⟨_, rfl⟩
  obtain ⟨DL, hDL⟩ : ∃ DL, DL = (if n = 32 then D else []) := ⟨_, rfl⟩
  rw [← hN, ← hDL]
  replace hN : Hid (N = (if n = 32 then 32 else 0)) := hN
  replace hDL : Hid (DL = (if n = 32 then D else [])) := hDL
  go_enter Try.func19, Try.ntmps19
  go_wp2_with (fail)
  refine CX.mono ?_
  rintro e w1 ⟨rfl, b1⟩
  have m3 := RowU.made w1 42 4 w.heap.size (fun _ => 0) (by decide) b1.size
  rw [← hZ.out] at m3
  have b3 : Below w1.heap.size w1 (w1.alloc (.cells Z 42)) := (Below.refl _ _).alloc (Nat.le_refl _) _
  have hp := m3.put (f' := F1)
  have hth := m3.there2 (f' := F1)
  rw [hC1.out] at hp hth
  have s1 := b1.size
  have s3 := b3.size
  have bel1 := (below_on b1 b3).grown hp.2 (by omega) (fun k hk => by cases hk; exact b1.size)
  have hra := hp.1.range
  rw [hC1.out] at hra
  clear hp m3 b3 CX
  rcases hsel.out with ⟨ht, e1⟩ | ⟨ht, e1⟩
  · subst e1
    rw [if_pos ht] at hN hDL
    have hDD := hfin.out ht
    clear hfin hsel
    go_wp2_with (first | (refine wpList_store_mid rfl 42 _ _ rfl w1.heap.size 0 C1.toArray rfl rfl hth sa1 (all_oneCell_toArray one1) ?_) | (refine wpList_load_mid rfl 42 _ rfl w1.heap.size 0 rfl C1 _ hra Try.underlying42 rfl sz1 ?_))
    generalize World.setCells _ w1.heap.size 0 _ = w4 at bel1 ⊢
    refine (CB _).mono ?_
    rintro e w6 ⟨p6, rfl, o6, b7⟩
    go_wp2_with (fail)
    go_ret
    rw [hN.out, hDL.out, ← hDD]
    exact ⟨_, _, rfl, ⟨owns_mono o6.1 bel1.size, o6.2⟩, below_on bel1 b7⟩
  · subst e1
    rw [if_neg ht] at hN hDL
    clear hfin hsel CB
    go_wp2_with (refine wpList_store_mid rfl 42 _ _ rfl w1.heap.size 0 C1.toArray rfl rfl hth sa1 (all_oneCell_toArray one1) ?_)
    go_ret
    rw [hN.out, hDL.out]
    exact ⟨_, _, rfl, ⟨⟨rfl, .inl ⟨rfl, rfl⟩⟩, fun k hk => by cases hk⟩, bel1⟩

end Go.Proofs.Ytghoibggmddkmac
