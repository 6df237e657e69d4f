/-
  A part of the proof.
-/
import Derived.Test.YtnpffnhiefgglaaGreatDoorParw35
import Derived.Test.YtnpffnhiefgglaaGreatDoorParw39
namespace Go.Proofs.YtnpffnhiefgglaaGreatDoor
open Go.RowKit
set_option maxRecDepth 100000
def rdZ (n : Nat) (xs : List Int) : Int := if n = 32 then numF xs % fldP else 0
theorem readField_any (p : Option Addr) (n c : Nat) (xs : List Int) (w X : World) (h : BytesIn w p n xs) (hb : ∀ x ∈ xs, 0 ≤ x ∧ x < 256) (hc : n ≤ c) (hX : Below w.heap.size w X) :
    Calls Tryz.prog 93 #[.slice p n c] X fun e w' => e = .returned (.tuple #[uP (rdZ n xs), .bool (decide (n = 32))]) ∧ Below X.heap.size X w' := by
  by_cases hn : n = 32
  · subst hn
    obtain ⟨b, o, rfl, hcell⟩ := in_below h hX (by decide)
    have C := readField_yes b o c xs X hc hb hcell
    rw [show rdZ 32 xs = numF xs % fldP from if_pos rfl, show decide (32 = 32) = true from rfl]
    exact C
  · have C := readField_no p n c X hn
    rw [show rdZ n xs = 0 from if_neg hn, show decide (n = 32) = false from decide_eq_false hn]
    exact C
set_option maxHeartbeats 8000000 in
theorem ones_any (x : Int) (hx0 : 0 ≤ x) (hx : x < fldP) : ∀ (n : Nat), 1 ≤ n → n ≤ 1000 → ∀ (w : World),
    Calls Tryz.prog 133 #[uP x, .int .i64 (n : Int)] w fun e w' => e = .returned (uP (x ^ (2 ^ n - 1) % fldP)) ∧ Below w.heap.size w w' := by
  intro n
  induction n using Nat.strongRecOn with
  | ind n ih =>
  intro hn1 hn2 w
  by_cases h1 : n = 1
  · subst h1
    have e0 : x ^ (2 ^ 1 - 1) % fldP = x := by rw [show 2 ^ 1 - 1 = 1 from rfl, Int.pow_one, Int.emod_eq_of_lt hx0 hx]
    rw [e0, show ((1 : Nat) : Int) = 1 from rfl]
    clear ih e0 hx0 hx
    have hz := (zero_of_info infoU4).1
    unfold uP
    obtain ⟨V, hV⟩ : ∃ V, V = numU x := ⟨_, rfl⟩
    rw [← hV]
    clear hV
    obtain ⟨A, hA⟩ : ∃ A, A = (uV (V) 4).toArray := ⟨_, rfl⟩
    obtain ⟨Z, hZ⟩ : ∃ Z, Z = (uV (fun _ => 0) 4).toArray := ⟨_, rfl⟩
    obtain ⟨m0, m1, bel0, sz⟩ := rows2 w (V) (fun _ => 0) hA hZ
    rw [← hA]
    rw [← hZ] at hz
    replace hA : Hid (A = (uV V 4).toArray) := hA
    replace hZ : Hid (Z = (uV (fun _ => 0) 4).toArray) := hZ
    have hra := m0.range
    have hp := m1.put (f' := V)
    have hth := m1.there2 (f' := V)
    have hbel := bel0.grown hp.2 (by omega) (fun k hk => by cases hk; omega)
    have hld := run_loadVar_mid (P := Tryz.prog) _ (w.heap.size + 1) 0 112 _ _ hp.1.range Tryz.underlying112 rfl sizeU
    clear hp hZ
    go_enter Tryz.func133, Tryz.ntmps133
    go_wp2_with (first | (refine wpList_load_mid rfl 112 _ rfl w.heap.size 0 rfl (uV V 4) _ hra Tryz.underlying112 rfl sizeU ?_) | (refine wpList_store_mid rfl 112 _ _ rfl (w.heap.size + 1) 0 (uV V 4).toArray rfl rfl hth sizeU2 (all_oneCell_toArray (uV_one V 4)) ?_))
    (try simp only [Exit.inBlock, Exit.then])
    refine bodyPost_ret (v := .agg (uV V 4).toArray) ?_ rfl ⟨by rw [hA.out], hbel⟩
    simp [results, asAddr, Act.put, hld]
  · obtain ⟨a, ha⟩ : ∃ a, a = n / 2 := ⟨_, rfl⟩
    have CI := ih a (by omega) (by omega) (by omega)
    have CS : ∀ X, Calls Tryz.prog 132 #[uP (x ^ (2 ^ a - 1) % fldP), .int .i64 (a : Int)] X fun e w' => e = .returned (uP ((x ^ (2 ^ a - 1) % fldP) ^ 2 ^ a % fldP)) ∧ Below X.heap.size X w' := fun X => squared_any _ a X (modP_range _).1 (modP_range _).2 (by omega)
    have CT : ∀ X, Calls Tryz.prog 96 #[uP (x ^ ((2 ^ a - 1) * 2 ^ a) % fldP), uP (x ^ (2 ^ a - 1) % fldP)] X fun e w' => e = .returned (uP (x ^ ((2 ^ a - 1) * 2 ^ a) % fldP * (x ^ (2 ^ a - 1) % fldP) % fldP)) ∧ Below X.heap.size X w' := fun X => fieldTimes_any _ _ X (modP_b4 _).1 (modP_b4 _).2 (modP_b4 _).1 (modP_b4 _).2
    simp only [powP_pow] at CS
    simp only [powP_mul] at CT
    have h2a := two_pos a
    have e2 : (2 ^ a - 1) * 2 ^ a + (2 ^ a - 1) = 2 ^ (2 * a) - 1 := by
      rw [show 2 * a = a + a by omega, Nat.pow_add, Nat.sub_mul, Nat.one_mul]
      have : 1 * 2 ^ a ≤ 2 ^ a * 2 ^ a := Nat.mul_le_mul_right _ h2a
      omega
    simp only [e2] at CT
    have CS1 : ∀ X, Calls Tryz.prog 132 #[uP (x ^ (2 ^ (2 * a) - 1) % fldP), .int .i64 1] X fun e w' => e = .returned (uP ((x ^ (2 ^ (2 * a) - 1) % fldP) ^ 2 ^ 1 % fldP)) ∧ Below X.heap.size X w' := fun X => squared_any _ 1 X (modP_range _).1 (modP_range _).2 (by omega)
    have CT1 : ∀ X, Calls Tryz.prog 96 #[uP (x ^ ((2 ^ (2 * a) - 1) * 2 ^ 1) % fldP), uP x] X fun e w' => e = .returned (uP (x ^ ((2 ^ (2 * a) - 1) * 2 ^ 1) % fldP * x % fldP)) ∧ Below X.heap.size X w' := fun X => fieldTimes_any _ _ X (modP_b4 _).1 (modP_b4 _).2 hx0 (by have := b4U; omega)
    simp only [powP_pow] at CS1
    have e3 : x ^ ((2 ^ (2 * a) - 1) * 2 ^ 1) % fldP * x % fldP = x ^ (2 ^ (2 * a + 1) - 1) % fldP := by
      rw [left_mul, ← Int.pow_succ]
      congr 2
      have := two_pos (2 * a)
      rw [Nat.pow_succ]
      omega
    simp only [e3] at CT1
    have ea : Int.tdiv (n : Int) 2 = (a : Int) := by rw [Int.tdiv_eq_ediv_of_nonneg (by omega)]; omega
    have wa : IntKind.i64.wrap (a : Int) = (a : Int) := by rw [IntKind.wrap_i64]; omega
    have ea' : (n : Int) / 2 = (a : Int) := by omega
    have h1' : ¬ (n : Int) = 1 := by omega
    have hsel : (n % 2 = 1 → n = 2 * a + 1) ∧ (n % 2 ≠ 1 → n = 2 * a) := by omega
    replace hsel : Hid ((n % 2 = 1 → n = 2 * a + 1) ∧ (n % 2 ≠ 1 → n = 2 * a)) := hsel
    clear ih ha e2 e3 h2a hx0 hx
    have hz := (zero_of_info infoU4).1
    unfold uP
    unfold uP at CI CS CT CS1 CT1
    obtain ⟨H, hH⟩ : ∃ H, H = numU (x ^ (2 ^ a - 1) % fldP) := ⟨_, rfl⟩
    rw [← hH] at CI CS CT
    obtain ⟨Q, hQ⟩ : ∃ Q, Q = numU (x ^ ((2 ^ a - 1) * 2 ^ a) % fldP) := ⟨_, rfl⟩
    rw [← hQ] at CS CT
    obtain ⟨R, hR⟩ : ∃ R, R = numU (x ^ (2 ^ (2 * a) - 1) % fldP) := ⟨_, rfl⟩
    rw [← hR] at CT CS1
    obtain ⟨S1, hS1⟩ : ∃ S1, S1 = numU (x ^ ((2 ^ (2 * a) - 1) * 2 ^ 1) % fldP) := ⟨_, rfl⟩
    rw [← hS1] at CS1 CT1
    obtain ⟨O, hO⟩ : ∃ O, O = numU (x ^ (2 ^ (2 * a + 1) - 1) % fldP) := ⟨_, rfl⟩
    rw [← hO] at CT1
    obtain ⟨V, hV⟩ : ∃ V, V = numU (x ^ (2 ^ n - 1) % fldP) := ⟨_, rfl⟩
    rw [← hV]
    have hodd : Hid (n % 2 = 1 → V = O) := fun h => by rw [hV, hO, ← hsel.out.1 h]
    have hevn : Hid (n % 2 ≠ 1 → V = R) := fun h => by rw [hV, hR, ← hsel.out.2 h]
    clear hsel hV hO hS1 hR hQ hH
    obtain ⟨F, hF⟩ : ∃ F, F = numU x := ⟨_, rfl⟩
    rw [← hF] at CI CT1 ⊢
    clear hF
    obtain ⟨A, hA⟩ : ∃ A, A = (uV (F) 4).toArray := ⟨_, rfl⟩
    obtain ⟨Z, hZ⟩ : ∃ Z, Z = (uV (fun _ => 0) 4).toArray := ⟨_, rfl⟩
    obtain ⟨m0, m1, bel0, sz⟩ := rows2 w (F) (fun _ => 0) hA hZ
    rw [← hA]
    rw [← hZ] at hz
    clear hA
    replace hZ : Hid (Z = (uV (fun _ => 0) 4).toArray) := hZ
    go_enter Tryz.func133, Tryz.ntmps133
    have hra := m0.range
    go_wp2_with (refine wpList_load_mid rfl 112 _ rfl w.heap.size 0 rfl (uV F 4) _ hra Tryz.underlying112 rfl sizeU ?_)
    obtain ⟨G1, hG1⟩ : ∃ G1, G1 = w.heap.size + 1 := ⟨_, rfl⟩
    rw [← hG1] at m1 sz ⊢
    generalize (w.alloc (.cells A 112)).alloc (.cells Z 112) = wb at m0 m1 bel0 sz ⊢
    have hne : w.heap.size ≠ G1 := by omega
    have hloR : w.heap.size ≤ G1 := by omega
    clear hG1 sz
    refine (CI _).mono ?_
    rintro e w2 ⟨rfl, b2⟩
    replace m0 := m0.below b2
    replace m1 := m1.below b2
    replace bel0 := below_on bel0 b2
    clear b2 CI hra
    have m3 := RowU.made w2 112 4 w.heap.size (fun _ => 0) (by decide) (by have := m0.lt; omega)
    rw [← hZ.out] at m3
    have b3 : Below w2.heap.size w2 (w2.alloc (.cells Z 112)) := (Below.refl _ _).alloc (Nat.le_refl _) _
    obtain ⟨G5, hG5⟩ : ∃ G5, G5 = w2.heap.size := ⟨_, rfl⟩
    have z0 := m0.lt
    have z1 := m1.lt
    rw [← hG5] at m3
    have m3p := m3.put (f' := H)
    have hth5 := m3.there2 (f' := H)
    replace m0 := (m0.below b3).kept m3p.2 (by omega)
    replace m1 := (m1.below b3).kept m3p.2 (by omega)
    have belx := (below_on bel0 b3).grown m3p.2 (by have := b3.size; omega) (fun k hk => by cases hk; omega)
    replace m3 := m3p.1
    have hZz := hz
    clear m3p b3 bel0
    replace hG5 : Hid (G5 = w2.heap.size) := hG5
    go_wp2_with (first | (rw [← hG5.out]; fail) | (refine wpList_store_mid rfl 112 _ _ rfl w2.heap.size 0 (uV H 4).toArray rfl rfl (by rw [← hG5.out]; exact hth5) sizeU2 (all_oneCell_toArray (uV_one H 4)) ?_))
    rw [← hG5.out]
    have hd1 : w.heap.size ≠ G5 := by have := hG5.out; omega
    have hd2 : G1 ≠ G5 := by have := hG5.out; omega
    have hd3 : w.heap.size ≤ G5 := by have := hG5.out; omega
    clear z0 z1 hG5 hth5
    generalize World.setCells _ G5 0 _ = wr at m0 m1 m3 belx ⊢
    have hn := m0.drew
    have hr := m1.drew
    have hh := m3.drew
    have bel := belx.drew
    clear m0 m1 m3 belx
    obtain ⟨W, hW⟩ : ∃ W, W = wr.drew := ⟨_, rfl⟩
    rw [← hW] at hn hr hh bel
    replace hW : Hid (W = wr.drew) := hW
    refine wp_region_noPanic ?_
    refine wp_region_T 99 (fun X => X.rangeAt G5 0 (uV H 4)) (fun _ => True) (by kernel_rfl) ?_
    rw [← hW.out]
    clear hW
    have kX : Below W.heap.size W W := Below.refl _ _
    have hLO : Hid (∃ LO, LO = W.heap.size) := ⟨_, rfl⟩
    obtain ⟨LO, hLO⟩ := hLO.out
    replace hLO : Hid (LO = W.heap.size) := hLO
    by_cases hod : n % 2 = 1
    · have hVV := hodd.out hod
      have hm1 : Int.tmod (n : Int) 2 = 1 := by rw [Int.tmod_eq_emod_of_nonneg (by omega)]; omega
      have hm2 : (n : Int) % 2 = 1 := by omega
      replace hVV : Hid (V = O) := hVV
      refine anyT_takeT (i := 0) rfl (by kernel_rfl) (by kernel_rfl) (by kernel_rfl) (by kernel_rfl) (fun _ _ _ h => h) (yieldsIf_load_mid (by rfl) _ _ rfl _ _ rfl (uV H 4) _ (fun _ hw => hw) Tryz.underlying112 rfl sizeU) (hh.below kX).range (fun _ => trivial) ?_
      simp only [Act.put, List.getElem_toArray, List.getElem_cons_zero, List.setIfInBounds_toArray, List.set_cons_zero, List.set_cons_succ]
      refine anyT_takeT (i := 1) (v := .int .i64 (n : Int)) rfl (by kernel_rfl) (by kernel_rfl) (by kernel_rfl) (by kernel_rfl) (fun _ _ _ h => h) (Or.inl ⟨by rfl, fun X hSw => by ((try dsimp only at hSw); go_simp)⟩) (hh.below kX).range (fun _ => trivial) ?_
      simp only [Act.put, List.getElem_toArray, List.getElem_cons_zero, List.getElem_cons_succ, List.setIfInBounds_toArray, List.set_cons_zero, List.set_cons_succ]
      refine anyT_takeT (i := 2) (v := .int .i64 (a : Int)) rfl (by kernel_rfl) (by kernel_rfl) (by kernel_rfl) (by kernel_rfl) (fun _ _ _ h => h) (Or.inl ⟨by rfl, fun X hSw => by ((try dsimp only at hSw); go_simp)⟩) (hh.below kX).range (fun _ => trivial) ?_
      simp only [Act.put, List.getElem_toArray, List.getElem_cons_zero, List.getElem_cons_succ, List.setIfInBounds_toArray, List.set_cons_zero, List.set_cons_succ]
      refine anyT_takeT (i := 4) rfl (by kernel_rfl) (by kernel_rfl) (by kernel_rfl) (by kernel_rfl) (fun _ _ _ h => h) (yieldsIf_load_mid (by rfl) _ _ rfl _ _ rfl (uV H 4) _ (fun _ hw => hw) Tryz.underlying112 rfl sizeU) (hh.below kX).range (fun _ => trivial) ?_
      simp only [Act.put, List.getElem_toArray, List.getElem_cons_zero, List.getElem_cons_succ, List.setIfInBounds_toArray, List.set_cons_zero, List.set_cons_succ]
      refine anyT_two (i := 3) (j := 6) (by kernel_rfl) rfl rfl (fun K hK => ?_) (fun K hK => ?_)
      · go_simp
        refine (CS _).mono ?_
        rintro e wY1 ⟨rfl, bY1⟩
        have kY1 := below_on kX bY1
        go_wp2_with (fail)
        refine hK.out _ _ (hh.below kY1).range (fun _ => trivial) ?_
        clear hK K
        refine anyT_two (i := 5) (j := 6) (by kernel_rfl) rfl rfl (fun K hK => ?_) (fun K hK => ?_)
        · go_simp
          refine (CT _).mono ?_
          rintro e wY2 ⟨rfl, bY2⟩
          have kY2 := below_on kY1 bY2
          go_wp2_with (fail)
          refine hK.out _ _ (hh.below kY2).range (fun _ => trivial) ?_
          clear hK K
          refine anyT_one (i := 6) (by kernel_rfl) rfl (fun K hK => ?_)
          go_simp
          have h3_3 := RowU.made wY2 112 4 LO (fun _ => 0) (by decide) (by rw [hLO.out]; exact Below.size kY2)
          rw [← hZ.out] at h3_3
          have bY3 : Below wY2.heap.size wY2 (wY2.alloc (.cells Z 112)) := (Below.refl _ _).alloc (Nat.le_refl _) _
          have kY3 := below_on kY2 bY3
          refine hK.out _ _ (hh.below kY3).range (fun _ => trivial) ?_
          clear hK K
          generalize wY2.alloc (.cells Z 112) = wY3 at h3_3 bY3 kY3 ⊢
          obtain ⟨g3, hg3⟩ : ∃ g3, g3 = wY2.heap.size := ⟨_, rfl⟩
          rw [← hg3] at h3_3 ⊢
          clear hg3
          have hp := RowU.put h3_3 (f' := R)
          have hth2 := RowU.there2 h3_3 (f' := R)
          have hlt3 := RowU.lt h3_3
          rw [hLO.out] at hlt3
          have hnw := hn.lt
          have hrw := hr.lt
          have hhw := hh.lt
          have hn2 := (hn.below kY3).kept hp.2 (by omega)
          have hr2 := (hr.below kY3).kept hp.2 (by omega)
          have hh2 := (hh.below kY3).kept hp.2 (by omega)
          have bel1 := below_on bel kY3
          have hsk := Below.size kY3
          have bel2 := bel1.grown hp.2 (by omega) (fun k hk => by cases hk; omega)
          have h32 := hp.1
          have hg3n : w.heap.size ≠ g3 := by omega
          have hg3r : G1 ≠ g3 := by omega
          have hg3w : w.heap.size ≤ g3 := by omega
          refine anyT_one (i := 7) (by kernel_rfl) rfl (fun K hK => ?_)
          refine wp_store_mid 112 _ _ rfl g3 0 (uV R 4).toArray rfl rfl hth2 sizeU2 (all_oneCell_toArray (uV_one R 4)) ?_
          refine hK.out _ _ hh2.range (fun _ => trivial) ?_
          clear hK K
          refine anyT_done (by kernel_rfl) ?_ _
          refine NoPanic.normal ?_
          generalize World.setCells wY3 g3 0 _ = w5 at hp hn2 hr2 hh2 bel2 h32 ⊢
          clear hp hth2 h3_3 hlt3 hnw hrw hhw bel1 CS CT hh2 hsk hn hr hh bel
          have hd0 : Below w5.heap.size w5 w5.drew := (Below.refl _ _).drew
          go_wp2_with (fail)
          refine wp_region_noPanic ?_
          refine wp_region_T 4 (fun X => X.rangeAt w.heap.size 0 (uV F 4)) (fun X => X.rangeAt g3 0 (uV R 4)) (by kernel_rfl) ?_
          generalize w5.drew = wZ at hd0 ⊢
          replace hn2 := hn2.below hd0
          replace hr2 := hr2.below hd0
          replace h32 := h32.below hd0
          replace bel2 := below_on bel2 hd0
          refine anyT_takeS (i := 0) rfl rfl (by kernel_rfl) (by kernel_rfl) (by kernel_rfl) (by kernel_rfl) (by kernel_rfl) (fun _ _ _ h => h) (yieldsIf_load_mid (by rfl) _ _ rfl _ _ rfl (uV R 4) _ (fun _ hw => hw.2) Tryz.underlying112 rfl sizeU) hn2.range h32.range ?_
          simp only [Act.put, List.getElem_toArray, List.getElem_cons_zero, List.setIfInBounds_toArray, List.set_cons_zero, List.set_cons_succ]
          refine anyT_takeT (i := 2) rfl (by kernel_rfl) (by kernel_rfl) (by kernel_rfl) (by kernel_rfl) (fun _ _ _ h => h) (yieldsIf_load_mid (by rfl) _ _ rfl _ _ rfl (uV F 4) _ (fun _ hw => hw) Tryz.underlying112 rfl sizeU) hn2.range (fun _ => h32.range) ?_
          simp only [Act.put, List.getElem_toArray, List.getElem_cons_zero, List.getElem_cons_succ, List.setIfInBounds_toArray, List.set_cons_zero, List.set_cons_succ]
          refine anyT_one (i := 1) (by kernel_rfl) rfl (fun K hK => ?_)
          go_simp
          refine (CS1 _).mono ?_
          rintro e w6 ⟨rfl, b6⟩
          go_wp2_with (fail)
          refine hK.out _ _ (hn2.below b6).range (fun _ => (h32.below b6).range) ?_
          clear hK K
          replace hn2 := hn2.below b6
          replace hr2 := hr2.below b6
          replace h32 := h32.below b6
          replace bel2 := below_on bel2 b6
          refine anyT_one (i := 3) (by kernel_rfl) rfl (fun K hK => ?_)
          go_simp
          refine (CT1 _).mono ?_
          rintro e w7 ⟨rfl, b7⟩
          go_wp2_with (fail)
          refine hK.out _ _ (hn2.below b7).range (fun _ => (h32.below b7).range) ?_
          clear hK K
          replace hn2 := hn2.below b7
          replace hr2 := hr2.below b7
          replace h32 := h32.below b7
          replace bel2 := below_on bel2 b7
          have hq := h32.put (f' := O)
          have hthq := h32.there2 (f' := O)
          have hwq := h32.lt
          replace hn2 := hn2.kept hq.2 hg3n
          replace hr2 := hr2.kept hq.2 hg3r
          replace bel2 := bel2.grown hq.2 (by omega) (fun k hk => by cases hk; omega)
          replace h32 := hq.1
          clear hq hwq
          refine anyT_one (i := 4) (by kernel_rfl) rfl (fun K hK => ?_)
          refine wp_store_mid 112 _ _ rfl g3 0 (uV O 4).toArray rfl rfl hthq sizeU2 (all_oneCell_toArray (uV_one O 4)) ?_
          refine hK.out _ _ hn2.range (fun h => by cases h) ?_
          clear hK K hthq
          refine anyT_done (by kernel_rfl) ?_ _
          refine NoPanic.normal ?_
          generalize World.setCells w7 g3 0 _ = w8 at hn2 hr2 bel2 h32 ⊢
          rw [← hVV.out] at h32
          have hra := h32.range
          have hws := h32.lt
          clear h32 hn2 CS1 CT1
          have hp := RowU.put hr2 (f' := V)
          have hth := RowU.there2 hr2 (f' := V)
          have hbel := Below.grown bel2 hp.2 (by omega) (fun k hk => by cases hk; exact hloR)
          have hld := run_loadVar_mid (P := Tryz.prog) _ G1 0 112 _ _ hp.1.range Tryz.underlying112 rfl sizeU
          clear hp
          go_wp2_with (first | (refine wpList_load_mid rfl 112 _ rfl g3 0 rfl (uV V 4) _ hra Tryz.underlying112 rfl sizeU ?_) | (refine wpList_store_mid rfl 112 _ _ rfl G1 0 (uV V 4).toArray rfl rfl hth sizeU2 (all_oneCell_toArray (uV_one V 4)) ?_))
          (try simp only [Exit.inBlock, Exit.then])
          refine bodyPost_ret (v := .agg (uV V 4).toArray) ?_ rfl ⟨rfl, hbel⟩
          simp [results, asAddr, Act.put, hld]
        · go_simp
          have h3_4 := RowU.made wY1 112 4 LO (fun _ => 0) (by decide) (by rw [hLO.out]; exact Below.size kY1)
          rw [← hZ.out] at h3_4
          have bY4 : Below wY1.heap.size wY1 (wY1.alloc (.cells Z 112)) := (Below.refl _ _).alloc (Nat.le_refl _) _
          have kY4 := below_on kY1 bY4
          refine hK.out _ _ (hh.below kY4).range (fun _ => trivial) ?_
          clear hK K
          generalize wY1.alloc (.cells Z 112) = wY4 at h3_4 bY4 kY4 ⊢
          obtain ⟨g3, hg3⟩ : ∃ g3, g3 = wY1.heap.size := ⟨_, rfl⟩
          rw [← hg3] at h3_4 ⊢
          clear hg3
          refine anyT_one (i := 5) (by kernel_rfl) rfl (fun K hK => ?_)
          go_simp
          refine (CT _).mono ?_
          rintro e wY5 ⟨rfl, bY5⟩
          have kY5 := below_on kY4 bY5
          have h3_5 := RowU.below h3_4 bY5
          go_wp2_with (fail)
          refine hK.out _ _ (hh.below kY5).range (fun _ => trivial) ?_
          clear hK K
          have hp := RowU.put h3_5 (f' := R)
          have hth2 := RowU.there2 h3_5 (f' := R)
          have hlt3 := RowU.lt h3_5
          rw [hLO.out] at hlt3
          have hnw := hn.lt
          have hrw := hr.lt
          have hhw := hh.lt
          have hn2 := (hn.below kY5).kept hp.2 (by omega)
          have hr2 := (hr.below kY5).kept hp.2 (by omega)
          have hh2 := (hh.below kY5).kept hp.2 (by omega)
          have bel1 := below_on bel kY5
          have hsk := Below.size kY5
          have bel2 := bel1.grown hp.2 (by omega) (fun k hk => by cases hk; omega)
          have h32 := hp.1
          have hg3n : w.heap.size ≠ g3 := by omega
          have hg3r : G1 ≠ g3 := by omega
          have hg3w : w.heap.size ≤ g3 := by omega
          refine anyT_one (i := 7) (by kernel_rfl) rfl (fun K hK => ?_)
          refine wp_store_mid 112 _ _ rfl g3 0 (uV R 4).toArray rfl rfl hth2 sizeU2 (all_oneCell_toArray (uV_one R 4)) ?_
          refine hK.out _ _ hh2.range (fun _ => trivial) ?_
          clear hK K
          refine anyT_done (by kernel_rfl) ?_ _
          refine NoPanic.normal ?_
          generalize World.setCells wY5 g3 0 _ = w5 at hp hn2 hr2 hh2 bel2 h32 ⊢
          clear hp hth2 h3_5 hlt3 hnw hrw hhw bel1 CS CT hh2 hsk hn hr hh bel
          have hd0 : Below w5.heap.size w5 w5.drew := (Below.refl _ _).drew
          go_wp2_with (fail)
          refine wp_region_noPanic ?_
          refine wp_region_T 4 (fun X => X.rangeAt w.heap.size 0 (uV F 4)) (fun X => X.rangeAt g3 0 (uV R 4)) (by kernel_rfl) ?_
          generalize w5.drew = wZ at hd0 ⊢
          replace hn2 := hn2.below hd0
          replace hr2 := hr2.below hd0
          replace h32 := h32.below hd0
          replace bel2 := below_on bel2 hd0
          refine anyT_takeS (i := 0) rfl rfl (by kernel_rfl) (by kernel_rfl) (by kernel_rfl) (by kernel_rfl) (by kernel_rfl) (fun _ _ _ h => h) (yieldsIf_load_mid (by rfl) _ _ rfl _ _ rfl (uV R 4) _ (fun _ hw => hw.2) Tryz.underlying112 rfl sizeU) hn2.range h32.range ?_
          simp only [Act.put, List.getElem_toArray, List.getElem_cons_zero, List.setIfInBounds_toArray, List.set_cons_zero, List.set_cons_succ]
          refine anyT_takeT (i := 2) rfl (by kernel_rfl) (by kernel_rfl) (by kernel_rfl) (by kernel_rfl) (fun _ _ _ h => h) (yieldsIf_load_mid (by rfl) _ _ rfl _ _ rfl (uV F 4) _ (fun _ hw => hw) Tryz.underlying112 rfl sizeU) hn2.range (fun _ => h32.range) ?_
          simp only [Act.put, List.getElem_toArray, List.getElem_cons_zero, List.getElem_cons_succ, List.setIfInBounds_toArray, List.set_cons_zero, List.set_cons_succ]
          refine anyT_one (i := 1) (by kernel_rfl) rfl (fun K hK => ?_)
          go_simp
          refine (CS1 _).mono ?_
          rintro e w6 ⟨rfl, b6⟩
          go_wp2_with (fail)
          refine hK.out _ _ (hn2.below b6).range (fun _ => (h32.below b6).range) ?_
          clear hK K
          replace hn2 := hn2.below b6
          replace hr2 := hr2.below b6
          replace h32 := h32.below b6
          replace bel2 := below_on bel2 b6
          refine anyT_one (i := 3) (by kernel_rfl) rfl (fun K hK => ?_)
          go_simp
          refine (CT1 _).mono ?_
          rintro e w7 ⟨rfl, b7⟩
          go_wp2_with (fail)
          refine hK.out _ _ (hn2.below b7).range (fun _ => (h32.below b7).range) ?_
          clear hK K
          replace hn2 := hn2.below b7
          replace hr2 := hr2.below b7
          replace h32 := h32.below b7
          replace bel2 := below_on bel2 b7
          have hq := h32.put (f' := O)
          have hthq := h32.there2 (f' := O)
          have hwq := h32.lt
          replace hn2 := hn2.kept hq.2 hg3n
          replace hr2 := hr2.kept hq.2 hg3r
          replace bel2 := bel2.grown hq.2 (by omega) (fun k hk => by cases hk; omega)
          replace h32 := hq.1
          clear hq hwq
          refine anyT_one (i := 4) (by kernel_rfl) rfl (fun K hK => ?_)
          refine wp_store_mid 112 _ _ rfl g3 0 (uV O 4).toArray rfl rfl hthq sizeU2 (all_oneCell_toArray (uV_one O 4)) ?_
          refine hK.out _ _ hn2.range (fun h => by cases h) ?_
          clear hK K hthq
          refine anyT_done (by kernel_rfl) ?_ _
          refine NoPanic.normal ?_
          generalize World.setCells w7 g3 0 _ = w8 at hn2 hr2 bel2 h32 ⊢
          rw [← hVV.out] at h32
          have hra := h32.range
          have hws := h32.lt
          clear h32 hn2 CS1 CT1
          have hp := RowU.put hr2 (f' := V)
          have hth := RowU.there2 hr2 (f' := V)
          have hbel := Below.grown bel2 hp.2 (by omega) (fun k hk => by cases hk; exact hloR)
          have hld := run_loadVar_mid (P := Tryz.prog) _ G1 0 112 _ _ hp.1.range Tryz.underlying112 rfl sizeU
          clear hp
          go_wp2_with (first | (refine wpList_load_mid rfl 112 _ rfl g3 0 rfl (uV V 4) _ hra Tryz.underlying112 rfl sizeU ?_) | (refine wpList_store_mid rfl 112 _ _ rfl G1 0 (uV V 4).toArray rfl rfl hth sizeU2 (all_oneCell_toArray (uV_one V 4)) ?_))
          (try simp only [Exit.inBlock, Exit.then])
          refine bodyPost_ret (v := .agg (uV V 4).toArray) ?_ rfl ⟨rfl, hbel⟩
          simp [results, asAddr, Act.put, hld]
      · go_simp
        have h3_6 := RowU.made W 112 4 LO (fun _ => 0) (by decide) (by rw [hLO.out]; exact Below.size kX)
        rw [← hZ.out] at h3_6
        have bY6 : Below W.heap.size W (W.alloc (.cells Z 112)) := (Below.refl _ _).alloc (Nat.le_refl _) _
        have kY6 := below_on kX bY6
        refine hK.out _ _ (hh.below kY6).range (fun _ => trivial) ?_
        clear hK K
        generalize W.alloc (.cells Z 112) = wY6 at h3_6 bY6 kY6 ⊢
        obtain ⟨g3, hg3⟩ : ∃ g3, g3 = W.heap.size := ⟨_, rfl⟩
        rw [← hg3] at h3_6 ⊢
        clear hg3
        refine anyT_one (i := 3) (by kernel_rfl) rfl (fun K hK => ?_)
        go_simp
        refine (CS _).mono ?_
        rintro e wY7 ⟨rfl, bY7⟩
        have kY7 := below_on kY6 bY7
        have h3_7 := RowU.below h3_6 bY7
        go_wp2_with (fail)
        refine hK.out _ _ (hh.below kY7).range (fun _ => trivial) ?_
        clear hK K
        refine anyT_one (i := 5) (by kernel_rfl) rfl (fun K hK => ?_)
        go_simp
        refine (CT _).mono ?_
        rintro e wY8 ⟨rfl, bY8⟩
        have kY8 := below_on kY7 bY8
        have h3_8 := RowU.below h3_7 bY8
        go_wp2_with (fail)
        refine hK.out _ _ (hh.below kY8).range (fun _ => trivial) ?_
        clear hK K
        have hp := RowU.put h3_8 (f' := R)
        have hth2 := RowU.there2 h3_8 (f' := R)
        have hlt3 := RowU.lt h3_8
        rw [hLO.out] at hlt3
        have hnw := hn.lt
        have hrw := hr.lt
        have hhw := hh.lt
        have hn2 := (hn.below kY8).kept hp.2 (by omega)
        have hr2 := (hr.below kY8).kept hp.2 (by omega)
        have hh2 := (hh.below kY8).kept hp.2 (by omega)
        have bel1 := below_on bel kY8
        have hsk := Below.size kY8
        have bel2 := bel1.grown hp.2 (by omega) (fun k hk => by cases hk; omega)
        have h32 := hp.1
        have hg3n : w.heap.size ≠ g3 := by omega
        have hg3r : G1 ≠ g3 := by omega
        have hg3w : w.heap.size ≤ g3 := by omega
        refine anyT_one (i := 7) (by kernel_rfl) rfl (fun K hK => ?_)
        refine wp_store_mid 112 _ _ rfl g3 0 (uV R 4).toArray rfl rfl hth2 sizeU2 (all_oneCell_toArray (uV_one R 4)) ?_
        refine hK.out _ _ hh2.range (fun _ => trivial) ?_
        clear hK K
        refine anyT_done (by kernel_rfl) ?_ _
        refine NoPanic.normal ?_
        generalize World.setCells wY8 g3 0 _ = w5 at hp hn2 hr2 hh2 bel2 h32 ⊢
        clear hp hth2 h3_8 hlt3 hnw hrw hhw bel1 CS CT hh2 hsk hn hr hh bel
        have hd0 : Below w5.heap.size w5 w5.drew := (Below.refl _ _).drew
        go_wp2_with (fail)
        refine wp_region_noPanic ?_
        refine wp_region_T 4 (fun X => X.rangeAt w.heap.size 0 (uV F 4)) (fun X => X.rangeAt g3 0 (uV R 4)) (by kernel_rfl) ?_
        generalize w5.drew = wZ at hd0 ⊢
        replace hn2 := hn2.below hd0
        replace hr2 := hr2.below hd0
        replace h32 := h32.below hd0
        replace bel2 := below_on bel2 hd0
        refine anyT_takeS (i := 0) rfl rfl (by kernel_rfl) (by kernel_rfl) (by kernel_rfl) (by kernel_rfl) (by kernel_rfl) (fun _ _ _ h => h) (yieldsIf_load_mid (by rfl) _ _ rfl _ _ rfl (uV R 4) _ (fun _ hw => hw.2) Tryz.underlying112 rfl sizeU) hn2.range h32.range ?_
        simp only [Act.put, List.getElem_toArray, List.getElem_cons_zero, List.setIfInBounds_toArray, List.set_cons_zero, List.set_cons_succ]
        refine anyT_takeT (i := 2) rfl (by kernel_rfl) (by kernel_rfl) (by kernel_rfl) (by kernel_rfl) (fun _ _ _ h => h) (yieldsIf_load_mid (by rfl) _ _ rfl _ _ rfl (uV F 4) _ (fun _ hw => hw) Tryz.underlying112 rfl sizeU) hn2.range (fun _ => h32.range) ?_
        simp only [Act.put, List.getElem_toArray, List.getElem_cons_zero, List.getElem_cons_succ, List.setIfInBounds_toArray, List.set_cons_zero, List.set_cons_succ]
        refine anyT_one (i := 1) (by kernel_rfl) rfl (fun K hK => ?_)
        go_simp
        refine (CS1 _).mono ?_
        rintro e w6 ⟨rfl, b6⟩
        go_wp2_with (fail)
        refine hK.out _ _ (hn2.below b6).range (fun _ => (h32.below b6).range) ?_
        clear hK K
        replace hn2 := hn2.below b6
        replace hr2 := hr2.below b6
        replace h32 := h32.below b6
        replace bel2 := below_on bel2 b6
        refine anyT_one (i := 3) (by kernel_rfl) rfl (fun K hK => ?_)
        go_simp
        refine (CT1 _).mono ?_
        rintro e w7 ⟨rfl, b7⟩
        go_wp2_with (fail)
        refine hK.out _ _ (hn2.below b7).range (fun _ => (h32.below b7).range) ?_
        clear hK K
        replace hn2 := hn2.below b7
        replace hr2 := hr2.below b7
        replace h32 := h32.below b7
        replace bel2 := below_on bel2 b7
        have hq := h32.put (f' := O)
        have hthq := h32.there2 (f' := O)
        have hwq := h32.lt
        replace hn2 := hn2.kept hq.2 hg3n
        replace hr2 := hr2.kept hq.2 hg3r
        replace bel2 := bel2.grown hq.2 (by omega) (fun k hk => by cases hk; omega)
        replace h32 := hq.1
        clear hq hwq
        refine anyT_one (i := 4) (by kernel_rfl) rfl (fun K hK => ?_)
        refine wp_store_mid 112 _ _ rfl g3 0 (uV O 4).toArray rfl rfl hthq sizeU2 (all_oneCell_toArray (uV_one O 4)) ?_
        refine hK.out _ _ hn2.range (fun h => by cases h) ?_
        clear hK K hthq
        refine anyT_done (by kernel_rfl) ?_ _
        refine NoPanic.normal ?_
        generalize World.setCells w7 g3 0 _ = w8 at hn2 hr2 bel2 h32 ⊢
        rw [← hVV.out] at h32
        have hra := h32.range
        have hws := h32.lt
        clear h32 hn2 CS1 CT1
        have hp := RowU.put hr2 (f' := V)
        have hth := RowU.there2 hr2 (f' := V)
        have hbel := Below.grown bel2 hp.2 (by omega) (fun k hk => by cases hk; exact hloR)
        have hld := run_loadVar_mid (P := Tryz.prog) _ G1 0 112 _ _ hp.1.range Tryz.underlying112 rfl sizeU
        clear hp
        go_wp2_with (first | (refine wpList_load_mid rfl 112 _ rfl g3 0 rfl (uV V 4) _ hra Tryz.underlying112 rfl sizeU ?_) | (refine wpList_store_mid rfl 112 _ _ rfl G1 0 (uV V 4).toArray rfl rfl hth sizeU2 (all_oneCell_toArray (uV_one V 4)) ?_))
        (try simp only [Exit.inBlock, Exit.then])
        refine bodyPost_ret (v := .agg (uV V 4).toArray) ?_ rfl ⟨rfl, hbel⟩
        simp [results, asAddr, Act.put, hld]
    · have hVV := hevn.out hod
      have hm1 : ¬ Int.tmod (n : Int) 2 = 1 := by rw [Int.tmod_eq_emod_of_nonneg (by omega)]; omega
      have hm2 : ¬ (n : Int) % 2 = 1 := by omega
      replace hVV : Hid (V = R) := hVV
      refine anyT_takeT (i := 0) rfl (by kernel_rfl) (by kernel_rfl) (by kernel_rfl) (by kernel_rfl) (fun _ _ _ h => h) (yieldsIf_load_mid (by rfl) _ _ rfl _ _ rfl (uV H 4) _ (fun _ hw => hw) Tryz.underlying112 rfl sizeU) (hh.below kX).range (fun _ => trivial) ?_
      simp only [Act.put, List.getElem_toArray, List.getElem_cons_zero, List.setIfInBounds_toArray, List.set_cons_zero, List.set_cons_succ]
      refine anyT_takeT (i := 1) (v := .int .i64 (n : Int)) rfl (by kernel_rfl) (by kernel_rfl) (by kernel_rfl) (by kernel_rfl) (fun _ _ _ h => h) (Or.inl ⟨by rfl, fun X hSw => by ((try dsimp only at hSw); go_simp)⟩) (hh.below kX).range (fun _ => trivial) ?_
      simp only [Act.put, List.getElem_toArray, List.getElem_cons_zero, List.getElem_cons_succ, List.setIfInBounds_toArray, List.set_cons_zero, List.set_cons_succ]
      refine anyT_takeT (i := 2) (v := .int .i64 (a : Int)) rfl (by kernel_rfl) (by kernel_rfl) (by kernel_rfl) (by kernel_rfl) (fun _ _ _ h => h) (Or.inl ⟨by rfl, fun X hSw => by ((try dsimp only at hSw); go_simp)⟩) (hh.below kX).range (fun _ => trivial) ?_
      simp only [Act.put, List.getElem_toArray, List.getElem_cons_zero, List.getElem_cons_succ, List.setIfInBounds_toArray, List.set_cons_zero, List.set_cons_succ]
      refine anyT_takeT (i := 4) rfl (by kernel_rfl) (by kernel_rfl) (by kernel_rfl) (by kernel_rfl) (fun _ _ _ h => h) (yieldsIf_load_mid (by rfl) _ _ rfl _ _ rfl (uV H 4) _ (fun _ hw => hw) Tryz.underlying112 rfl sizeU) (hh.below kX).range (fun _ => trivial) ?_
      simp only [Act.put, List.getElem_toArray, List.getElem_cons_zero, List.getElem_cons_succ, List.setIfInBounds_toArray, List.set_cons_zero, List.set_cons_succ]
      refine anyT_two (i := 3) (j := 6) (by kernel_rfl) rfl rfl (fun K hK => ?_) (fun K hK => ?_)
      · go_simp
        refine (CS _).mono ?_
        rintro e wY1 ⟨rfl, bY1⟩
        have kY1 := below_on kX bY1
        go_wp2_with (fail)
        refine hK.out _ _ (hh.below kY1).range (fun _ => trivial) ?_
        clear hK K
        refine anyT_two (i := 5) (j := 6) (by kernel_rfl) rfl rfl (fun K hK => ?_) (fun K hK => ?_)
        · go_simp
          refine (CT _).mono ?_
          rintro e wY2 ⟨rfl, bY2⟩
          have kY2 := below_on kY1 bY2
          go_wp2_with (fail)
          refine hK.out _ _ (hh.below kY2).range (fun _ => trivial) ?_
          clear hK K
          refine anyT_one (i := 6) (by kernel_rfl) rfl (fun K hK => ?_)
          go_simp
          have h3_3 := RowU.made wY2 112 4 LO (fun _ => 0) (by decide) (by rw [hLO.out]; exact Below.size kY2)
          rw [← hZ.out] at h3_3
          have bY3 : Below wY2.heap.size wY2 (wY2.alloc (.cells Z 112)) := (Below.refl _ _).alloc (Nat.le_refl _) _
          have kY3 := below_on kY2 bY3
          refine hK.out _ _ (hh.below kY3).range (fun _ => trivial) ?_
          clear hK K
          generalize wY2.alloc (.cells Z 112) = wY3 at h3_3 bY3 kY3 ⊢
          obtain ⟨g3, hg3⟩ : ∃ g3, g3 = wY2.heap.size := ⟨_, rfl⟩
          rw [← hg3] at h3_3 ⊢
          clear hg3
          have hp := RowU.put h3_3 (f' := R)
          have hth2 := RowU.there2 h3_3 (f' := R)
          have hlt3 := RowU.lt h3_3
          rw [hLO.out] at hlt3
          have hnw := hn.lt
          have hrw := hr.lt
          have hhw := hh.lt
          have hn2 := (hn.below kY3).kept hp.2 (by omega)
          have hr2 := (hr.below kY3).kept hp.2 (by omega)
          have hh2 := (hh.below kY3).kept hp.2 (by omega)
          have bel1 := below_on bel kY3
          have hsk := Below.size kY3
          have bel2 := bel1.grown hp.2 (by omega) (fun k hk => by cases hk; omega)
          have h32 := hp.1
          have hg3n : w.heap.size ≠ g3 := by omega
          have hg3r : G1 ≠ g3 := by omega
          have hg3w : w.heap.size ≤ g3 := by omega
          refine anyT_one (i := 7) (by kernel_rfl) rfl (fun K hK => ?_)
          refine wp_store_mid 112 _ _ rfl g3 0 (uV R 4).toArray rfl rfl hth2 sizeU2 (all_oneCell_toArray (uV_one R 4)) ?_
          refine hK.out _ _ hh2.range (fun _ => trivial) ?_
          clear hK K
          refine anyT_done (by kernel_rfl) ?_ _
          refine NoPanic.normal ?_
          generalize World.setCells wY3 g3 0 _ = w5 at hp hn2 hr2 hh2 bel2 h32 ⊢
          clear hp hth2 h3_3 hlt3 hnw hrw hhw bel1 CS CT hh2 hsk hn hr hh bel
          rw [← hVV.out] at h32
          have hra := h32.range
          have hws := h32.lt
          clear h32 hn2 CS1 CT1
          have hp := RowU.put hr2 (f' := V)
          have hth := RowU.there2 hr2 (f' := V)
          have hbel := Below.grown bel2 hp.2 (by omega) (fun k hk => by cases hk; exact hloR)
          have hld := run_loadVar_mid (P := Tryz.prog) _ G1 0 112 _ _ hp.1.range Tryz.underlying112 rfl sizeU
          clear hp
          go_wp2_with (first | (refine wpList_load_mid rfl 112 _ rfl g3 0 rfl (uV V 4) _ hra Tryz.underlying112 rfl sizeU ?_) | (refine wpList_store_mid rfl 112 _ _ rfl G1 0 (uV V 4).toArray rfl rfl hth sizeU2 (all_oneCell_toArray (uV_one V 4)) ?_))
          (try simp only [Exit.inBlock, Exit.then])
          refine bodyPost_ret (v := .agg (uV V 4).toArray) ?_ rfl ⟨rfl, hbel⟩
          simp [results, asAddr, Act.put, hld]
        · go_simp
          have h3_4 := RowU.made wY1 112 4 LO (fun _ => 0) (by decide) (by rw [hLO.out]; exact Below.size kY1)
          rw [← hZ.out] at h3_4
          have bY4 : Below wY1.heap.size wY1 (wY1.alloc (.cells Z 112)) := (Below.refl _ _).alloc (Nat.le_refl _) _
          have kY4 := below_on kY1 bY4
          refine hK.out _ _ (hh.below kY4).range (fun _ => trivial) ?_
          clear hK K
          generalize wY1.alloc (.cells Z 112) = wY4 at h3_4 bY4 kY4 ⊢
          obtain ⟨g3, hg3⟩ : ∃ g3, g3 = wY1.heap.size := ⟨_, rfl⟩
          rw [← hg3] at h3_4 ⊢
          clear hg3
          refine anyT_one (i := 5) (by kernel_rfl) rfl (fun K hK => ?_)
          go_simp
          refine (CT _).mono ?_
          rintro e wY5 ⟨rfl, bY5⟩
          have kY5 := below_on kY4 bY5
          have h3_5 := RowU.below h3_4 bY5
          go_wp2_with (fail)
          refine hK.out _ _ (hh.below kY5).range (fun _ => trivial) ?_
          clear hK K
          have hp := RowU.put h3_5 (f' := R)
          have hth2 := RowU.there2 h3_5 (f' := R)
          have hlt3 := RowU.lt h3_5
          rw [hLO.out] at hlt3
          have hnw := hn.lt
          have hrw := hr.lt
          have hhw := hh.lt
          have hn2 := (hn.below kY5).kept hp.2 (by omega)
          have hr2 := (hr.below kY5).kept hp.2 (by omega)
          have hh2 := (hh.below kY5).kept hp.2 (by omega)
          have bel1 := below_on bel kY5
          have hsk := Below.size kY5
          have bel2 := bel1.grown hp.2 (by omega) (fun k hk => by cases hk; omega)
          have h32 := hp.1
          have hg3n : w.heap.size ≠ g3 := by omega
          have hg3r : G1 ≠ g3 := by omega
          have hg3w : w.heap.size ≤ g3 := by omega
          refine anyT_one (i := 7) (by kernel_rfl) rfl (fun K hK => ?_)
          refine wp_store_mid 112 _ _ rfl g3 0 (uV R 4).toArray rfl rfl hth2 sizeU2 (all_oneCell_toArray (uV_one R 4)) ?_
          refine hK.out _ _ hh2.range (fun _ => trivial) ?_
          clear hK K
          refine anyT_done (by kernel_rfl) ?_ _
          refine NoPanic.normal ?_
          generalize World.setCells wY5 g3 0 _ = w5 at hp hn2 hr2 hh2 bel2 h32 ⊢
          clear hp hth2 h3_5 hlt3 hnw hrw hhw bel1 CS CT hh2 hsk hn hr hh bel
          rw [← hVV.out] at h32
          have hra := h32.range
          have hws := h32.lt
          clear h32 hn2 CS1 CT1
          have hp := RowU.put hr2 (f' := V)
          have hth := RowU.there2 hr2 (f' := V)
          have hbel := Below.grown bel2 hp.2 (by omega) (fun k hk => by cases hk; exact hloR)
          have hld := run_loadVar_mid (P := Tryz.prog) _ G1 0 112 _ _ hp.1.range Tryz.underlying112 rfl sizeU
          clear hp
          go_wp2_with (first | (refine wpList_load_mid rfl 112 _ rfl g3 0 rfl (uV V 4) _ hra Tryz.underlying112 rfl sizeU ?_) | (refine wpList_store_mid rfl 112 _ _ rfl G1 0 (uV V 4).toArray rfl rfl hth sizeU2 (all_oneCell_toArray (uV_one V 4)) ?_))
          (try simp only [Exit.inBlock, Exit.then])
          refine bodyPost_ret (v := .agg (uV V 4).toArray) ?_ rfl ⟨rfl, hbel⟩
          simp [results, asAddr, Act.put, hld]
      · go_simp
        have h3_6 := RowU.made W 112 4 LO (fun _ => 0) (by decide) (by rw [hLO.out]; exact Below.size kX)
        rw [← hZ.out] at h3_6
        have bY6 : Below W.heap.size W (W.alloc (.cells Z 112)) := (Below.refl _ _).alloc (Nat.le_refl _) _
        have kY6 := below_on kX bY6
        refine hK.out _ _ (hh.below kY6).range (fun _ => trivial) ?_
        clear hK K
        generalize W.alloc (.cells Z 112) = wY6 at h3_6 bY6 kY6 ⊢
        obtain ⟨g3, hg3⟩ : ∃ g3, g3 = W.heap.size := ⟨_, rfl⟩
        rw [← hg3] at h3_6 ⊢
        clear hg3
        refine anyT_one (i := 3) (by kernel_rfl) rfl (fun K hK => ?_)
        go_simp
        refine (CS _).mono ?_
        rintro e wY7 ⟨rfl, bY7⟩
        have kY7 := below_on kY6 bY7
        have h3_7 := RowU.below h3_6 bY7
        go_wp2_with (fail)
        refine hK.out _ _ (hh.below kY7).range (fun _ => trivial) ?_
        clear hK K
        refine anyT_one (i := 5) (by kernel_rfl) rfl (fun K hK => ?_)
        go_simp
        refine (CT _).mono ?_
        rintro e wY8 ⟨rfl, bY8⟩
        have kY8 := below_on kY7 bY8
        have h3_8 := RowU.below h3_7 bY8
        go_wp2_with (fail)
        refine hK.out _ _ (hh.below kY8).range (fun _ => trivial) ?_
        clear hK K
        have hp := RowU.put h3_8 (f' := R)
        have hth2 := RowU.there2 h3_8 (f' := R)
        have hlt3 := RowU.lt h3_8
        rw [hLO.out] at hlt3
        have hnw := hn.lt
        have hrw := hr.lt
        have hhw := hh.lt
        have hn2 := (hn.below kY8).kept hp.2 (by omega)
        have hr2 := (hr.below kY8).kept hp.2 (by omega)
        have hh2 := (hh.below kY8).kept hp.2 (by omega)
        have bel1 := below_on bel kY8
        have hsk := Below.size kY8
        have bel2 := bel1.grown hp.2 (by omega) (fun k hk => by cases hk; omega)
        have h32 := hp.1
        have hg3n : w.heap.size ≠ g3 := by omega
        have hg3r : G1 ≠ g3 := by omega
        have hg3w : w.heap.size ≤ g3 := by omega
        refine anyT_one (i := 7) (by kernel_rfl) rfl (fun K hK => ?_)
        refine wp_store_mid 112 _ _ rfl g3 0 (uV R 4).toArray rfl rfl hth2 sizeU2 (all_oneCell_toArray (uV_one R 4)) ?_
        refine hK.out _ _ hh2.range (fun _ => trivial) ?_
        clear hK K
        refine anyT_done (by kernel_rfl) ?_ _
        refine NoPanic.normal ?_
        generalize World.setCells wY8 g3 0 _ = w5 at hp hn2 hr2 hh2 bel2 h32 ⊢
        clear hp hth2 h3_8 hlt3 hnw hrw hhw bel1 CS CT hh2 hsk hn hr hh bel
        rw [← hVV.out] at h32
        have hra := h32.range
        have hws := h32.lt
        clear h32 hn2 CS1 CT1
        have hp := RowU.put hr2 (f' := V)
        have hth := RowU.there2 hr2 (f' := V)
        have hbel := Below.grown bel2 hp.2 (by omega) (fun k hk => by cases hk; exact hloR)
        have hld := run_loadVar_mid (P := Tryz.prog) _ G1 0 112 _ _ hp.1.range Tryz.underlying112 rfl sizeU
        clear hp
        go_wp2_with (first | (refine wpList_load_mid rfl 112 _ rfl g3 0 rfl (uV V 4) _ hra Tryz.underlying112 rfl sizeU ?_) | (refine wpList_store_mid rfl 112 _ _ rfl G1 0 (uV V 4).toArray rfl rfl hth sizeU2 (all_oneCell_toArray (uV_one V 4)) ?_))
        (try simp only [Exit.inBlock, Exit.then])
        refine bodyPost_ret (v := .agg (uV V 4).toArray) ?_ rfl ⟨rfl, hbel⟩
        simp [results, asAddr, Act.put, hld]
end Go.Proofs.YtnpffnhiefgglaaGreatDoor
