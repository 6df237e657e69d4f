/-
  What the specification's l8Add and l8Sub answer: each part with its fellow. Condition: parts that are not too great.
-/
import Derived.Test.YtghoibggmddkmaoFieldRow
namespace Go.Proofs.Ytghoibggmddkmao
open Go.RowKit

def addZK (f g : Nat → Int) (k i : Nat) : Int := if i < k then f i + g i else f i

set_option maxRecDepth 100000 in
set_option maxHeartbeats 4000000 in
theorem l8Add_any (f g : Nat → Int) (w : World) (h1 : ∀ i, -1073741824 ≤ f i ∧ f i ≤ 1073741824) (h2 : ∀ i, -1073741824 ≤ g i ∧ g i ≤ 1073741824) :
    Calls Try.prog 31 #[.agg (zV f 16).toArray, .agg (zV g 16).toArray] w fun e w' => e = .returned (.agg (zV (fun i => f i + g i) 16).toArray) ∧ Below w.heap.size w w' := by
  have hz := (zero_of_info infoZ16).1
  have hsz0 := (zero_of_info infoZ16).2
  have m0 := RowZ.made w 32 16 w.heap.size f (by decide) (Nat.le_refl _)
  obtain ⟨A, hA⟩ : ∃ A, A = (zV f 16).toArray := ⟨_, rfl⟩
  rw [← hA] at m0 ⊢
  have ba : Below w.heap.size w (w.alloc (.cells A 32)) := (Below.refl _ _).alloc (Nat.le_refl _) _
  have sa : (w.alloc (.cells A 32)).heap.size = w.heap.size + 1 := by simp
  have m1 := RowZ.made (w.alloc (.cells A 32)) 32 16 w.heap.size g (by decide) (by omega)
  obtain ⟨B, hB⟩ : ∃ B, B = (zV g 16).toArray := ⟨_, rfl⟩
  rw [← hB] at m1 ⊢
  have bb : Below (w.alloc (.cells A 32)).heap.size (w.alloc (.cells A 32)) ((w.alloc (.cells A 32)).alloc (.cells B 32)) := (Below.refl _ _).alloc (Nat.le_refl _) _
  have sb : ((w.alloc (.cells A 32)).alloc (.cells B 32)).heap.size = w.heap.size + 1 + 1 := by simp
  have m2 := RowZ.made ((w.alloc (.cells A 32)).alloc (.cells B 32)) 32 16 w.heap.size (fun _ => 0) (by decide) (by omega)
  obtain ⟨Z, hZ⟩ : ∃ Z, Z = (zV (fun _ => 0) 16).toArray := ⟨_, rfl⟩
  rw [← hZ] at hz m2
  clear hZ hA hB
  have bc : Below ((w.alloc (.cells A 32)).alloc (.cells B 32)).heap.size ((w.alloc (.cells A 32)).alloc (.cells B 32)) (((w.alloc (.cells A 32)).alloc (.cells B 32)).alloc (.cells Z 32)) := (Below.refl _ _).alloc (Nat.le_refl _) _
  have q0 := (m0.below bb).below bc
  have q1 := m1.below bc
  have bel := below_on (below_on ba bb) bc
  rw [sa] at q1
  rw [sb] at m2
  go_enter Try.func31, Try.ntmps31
  go_wp2_with (fail)
  obtain ⟨GB, hGB⟩ : ∃ GB, GB = w.heap.size + 1 := ⟨_, rfl⟩
  rw [← hGB] at q1 m2 ⊢
  obtain ⟨GR, hGR⟩ : ∃ GR, GR = GB + 1 := ⟨_, rfl⟩
  rw [← hGR] at m2 ⊢
  have hne1 : GB ≠ w.heap.size := by omega
  have hne2 : GR ≠ w.heap.size := by omega
  generalize ((w.alloc (.cells A 32)).alloc (.cells B 32)).alloc (.cells Z 32) = wb at q0 q1 m2 bel ⊢
  have hs0 : RowZ 32 16 wb w.heap.size w.heap.size (addZK f g 0) := q0.congr fun i _ => by
    unfold addZK
    rw [if_neg (by omega)]
  clear m0 m1 ba sa bb sb bc q0 hGB hGR hz
  go_loopw [5] (fun i wr => ∃ k : Nat, k ≤ 16 ∧ i = .int .i64 k ∧ RowZ 32 16 wr w.heap.size w.heap.size (addZK f g k) ∧ wb.grownBy wr (some w.heap.size))
    (fun i _ => 16 - (intOf i).toNat)
  case atStart => exact ⟨0, by omega, rfl, hs0, World.grownBy.refl _ _⟩
  case round =>
    clear hs0
    obtain ⟨k, hk, rfl, hr, hgr⟩ := hrel
    by_cases hlt : k < 16
    · have hlt' : (k : Int) < 16 := by omega
      have c0 := hr.cell k hlt
      have e0 : addZK f g k k = f k := by unfold addZK; rw [if_neg (by omega)]
      rw [e0] at c0
      have c1 := (q1.kept hgr hne1).cell k hlt
      have f0 := hr.frozen k
      have r1 := hr.set k (f k + g k)
      have HF : RowZ 32 16 _ w.heap.size w.heap.size (addZK f g (k + 1)) := r1.1.congr fun i hi => by
        unfold addZK
        by_cases a1 : i = k
        · subst a1
          rw [if_pos rfl, if_pos (by omega)]
        · rw [if_neg a1]
          have : i < k ↔ i < k + 1 := by omega
          simp only [this]
      have hgr' := grown_trans hgr r1.2
      have l1 := h1 k
      have l2 := h2 k
      generalize f k = x at c0 r1 HF hgr' l1
      generalize g k = y at c1 r1 HF hgr' l2
      obtain ⟨z, hz'⟩ : ∃ z, z = x + y := ⟨_, rfl⟩
      have ez : x + y = z := hz'.symm
      have lz : -2147483648 ≤ z ∧ z ≤ 2147483648 := by omega
      rw [ez] at HF hgr'
      clear r1 hr hgr hz'
      go_wp2_with (fail)
      go_region
      all_goals
        go_wp2
        go_roundw
        case rel => exact ⟨k + 1, by omega, by go_num, HF, ⟨hgr'.os, hgr'.tape, hgr'.output, hgr'.size, hgr'.block⟩⟩
        case measure => simp [intOf]; omega
    · obtain rfl : k = 16 := by omega
      have hnl : ¬ ((16 : Nat) : Int) < 16 := by omega
      obtain ⟨F, hF⟩ : ∃ F : Nat → Int, F = fun i => f i + g i := ⟨_, rfl⟩
      have hr16 : RowZ 32 16 wr w.heap.size w.heap.size F := hr.congr fun i hi => by rw [hF]; unfold addZK; rw [if_pos hi]
      have hra := hr16.range
      have hk2 := m2.kept hgr hne2
      have hsC : (zV F 16).toArray.size = 16 := by simp [zV_length]
      have hsz : (Try.prog.info? 32).map (·.size) = some (zV F 16).length := by rw [zV_length]; exact hsz0
      have hsz2 : (Try.prog.info? 32).map (·.size) = some (zV F 16).toArray.size := by rw [hsC]; exact hsz0
      have hth2 : wr.there GR 0 (zV F 16).toArray.size := by rw [hsC]; exact hk2.there
      have hp := hk2.put (f' := F)
      have hbel : Below w.heap.size w (wr.setCells GR 0 (zV F 16)) := (bel.grown hgr bel.size (fun k hk => by cases hk; exact Nat.le_refl _)).grown hp.2 (Nat.le_trans bel.size hgr.size) (fun k hk => by cases hk; exact m2.lt.1)
      have hld := run_loadVar_mid (P := Try.prog) _ GR 0 32 _ _ hp.1.range Try.underlying32 rfl hsz
      have hone := zV_one F 16
      obtain ⟨Cs, hCs⟩ : ∃ Cs, Cs = zV F 16 := ⟨_, rfl⟩
      rw [← hCs] at hra hsz hsz2 hth2 hbel hld hone
      replace hCs : Hid (Cs = zV (fun i => f i + g i) 16) := by rw [Hid, hCs, hF]
      clear hp hk2 hr hr16 hgr m2 q1 bel hsC hF
      go_wp2_with (first | (refine wpList_load_mid rfl 32 _ rfl w.heap.size 0 rfl Cs _ hra Try.underlying32 rfl hsz ?_) | (refine wpList_store_mid rfl 32 _ _ rfl GR 0 Cs.toArray rfl rfl hth2 hsz2 (all_oneCell_toArray hone) ?_))
      (try simp only [Exit.inBlock, Exit.then])
      refine bodyPost_ret (v := .agg Cs.toArray) ?_ rfl ⟨by rw [hCs.out], hbel⟩
      simp [results, asAddr, hld]

def subZK (f g : Nat → Int) (k i : Nat) : Int := if i < k then f i - g i else f i

set_option maxRecDepth 100000 in
set_option maxHeartbeats 4000000 in
theorem l8Sub_any (f g : Nat → Int) (w : World) (h1 : ∀ i, -1073741824 ≤ f i ∧ f i ≤ 1073741824) (h2 : ∀ i, -1073741824 ≤ g i ∧ g i ≤ 1073741824) :
    Calls Try.prog 32 #[.agg (zV f 16).toArray, .agg (zV g 16).toArray] w fun e w' => e = .returned (.agg (zV (fun i => f i - g i) 16).toArray) ∧ Below w.heap.size w w' := by
  have hz := (zero_of_info infoZ16).1
  have hsz0 := (zero_of_info infoZ16).2
  have m0 := RowZ.made w 32 16 w.heap.size f (by decide) (Nat.le_refl _)
  obtain ⟨A, hA⟩ : ∃ A, A = (zV f 16).toArray := ⟨_, rfl⟩
  rw [← hA] at m0 ⊢
  have ba : Below w.heap.size w (w.alloc (.cells A 32)) := (Below.refl _ _).alloc (Nat.le_refl _) _
  have sa : (w.alloc (.cells A 32)).heap.size = w.heap.size + 1 := by simp
  have m1 := RowZ.made (w.alloc (.cells A 32)) 32 16 w.heap.size g (by decide) (by omega)
  obtain ⟨B, hB⟩ : ∃ B, B = (zV g 16).toArray := ⟨_, rfl⟩
  rw [← hB] at m1 ⊢
  have bb : Below (w.alloc (.cells A 32)).heap.size (w.alloc (.cells A 32)) ((w.alloc (.cells A 32)).alloc (.cells B 32)) := (Below.refl _ _).alloc (Nat.le_refl _) _
  have sb : ((w.alloc (.cells A 32)).alloc (.cells B 32)).heap.size = w.heap.size + 1 + 1 := by simp
  have m2 := RowZ.made ((w.alloc (.cells A 32)).alloc (.cells B 32)) 32 16 w.heap.size (fun _ => 0) (by decide) (by omega)
  obtain ⟨Z, hZ⟩ : ∃ Z, Z = (zV (fun _ => 0) 16).toArray := ⟨_, rfl⟩
  rw [← hZ] at hz m2
  clear hZ hA hB
  have bc : Below ((w.alloc (.cells A 32)).alloc (.cells B 32)).heap.size ((w.alloc (.cells A 32)).alloc (.cells B 32)) (((w.alloc (.cells A 32)).alloc (.cells B 32)).alloc (.cells Z 32)) := (Below.refl _ _).alloc (Nat.le_refl _) _
  have q0 := (m0.below bb).below bc
  have q1 := m1.below bc
  have bel := below_on (below_on ba bb) bc
  rw [sa] at q1
  rw [sb] at m2
  go_enter Try.func32, Try.ntmps32
  go_wp2_with (fail)
  obtain ⟨GB, hGB⟩ : ∃ GB, GB = w.heap.size + 1 := ⟨_, rfl⟩
  rw [← hGB] at q1 m2 ⊢
  obtain ⟨GR, hGR⟩ : ∃ GR, GR = GB + 1 := ⟨_, rfl⟩
  rw [← hGR] at m2 ⊢
  have hne1 : GB ≠ w.heap.size := by omega
  have hne2 : GR ≠ w.heap.size := by omega
  generalize ((w.alloc (.cells A 32)).alloc (.cells B 32)).alloc (.cells Z 32) = wb at q0 q1 m2 bel ⊢
  have hs0 : RowZ 32 16 wb w.heap.size w.heap.size (subZK f g 0) := q0.congr fun i _ => by
    unfold subZK
    rw [if_neg (by omega)]
  clear m0 m1 ba sa bb sb bc q0 hGB hGR hz
  go_loopw [5] (fun i wr => ∃ k : Nat, k ≤ 16 ∧ i = .int .i64 k ∧ RowZ 32 16 wr w.heap.size w.heap.size (subZK f g k) ∧ wb.grownBy wr (some w.heap.size))
    (fun i _ => 16 - (intOf i).toNat)
  case atStart => exact ⟨0, by omega, rfl, hs0, World.grownBy.refl _ _⟩
  case round =>
    clear hs0
    obtain ⟨k, hk, rfl, hr, hgr⟩ := hrel
    by_cases hlt : k < 16
    · have hlt' : (k : Int) < 16 := by omega
      have c0 := hr.cell k hlt
      have e0 : subZK f g k k = f k := by unfold subZK; rw [if_neg (by omega)]
      rw [e0] at c0
      have c1 := (q1.kept hgr hne1).cell k hlt
      have f0 := hr.frozen k
      have r1 := hr.set k (f k - g k)
      have HF : RowZ 32 16 _ w.heap.size w.heap.size (subZK f g (k + 1)) := r1.1.congr fun i hi => by
        unfold subZK
        by_cases a1 : i = k
        · subst a1
          rw [if_pos rfl, if_pos (by omega)]
        · rw [if_neg a1]
          have : i < k ↔ i < k + 1 := by omega
          simp only [this]
      have hgr' := grown_trans hgr r1.2
      have l1 := h1 k
      have l2 := h2 k
      generalize f k = x at c0 r1 HF hgr' l1
      generalize g k = y at c1 r1 HF hgr' l2
      obtain ⟨z, hz'⟩ : ∃ z, z = x - y := ⟨_, rfl⟩
      have ez : x - y = z := hz'.symm
      have lz : -2147483648 ≤ z ∧ z ≤ 2147483648 := by omega
      rw [ez] at HF hgr'
      clear r1 hr hgr hz'
      go_wp2_with (fail)
      go_region
      all_goals
        go_wp2
        go_roundw
        case rel => exact ⟨k + 1, by omega, by go_num, HF, ⟨hgr'.os, hgr'.tape, hgr'.output, hgr'.size, hgr'.block⟩⟩
        case measure => simp [intOf]; omega
    · obtain rfl : k = 16 := by omega
      have hnl : ¬ ((16 : Nat) : Int) < 16 := by omega
      obtain ⟨F, hF⟩ : ∃ F : Nat → Int, F = fun i => f i - g i := ⟨_, rfl⟩
      have hr16 : RowZ 32 16 wr w.heap.size w.heap.size F := hr.congr fun i hi => by rw [hF]; unfold subZK; rw [if_pos hi]
      have hra := hr16.range
      have hk2 := m2.kept hgr hne2
      have hsC : (zV F 16).toArray.size = 16 := by simp [zV_length]
      have hsz : (Try.prog.info? 32).map (·.size) = some (zV F 16).length := by rw [zV_length]; exact hsz0
      have hsz2 : (Try.prog.info? 32).map (·.size) = some (zV F 16).toArray.size := by rw [hsC]; exact hsz0
      have hth2 : wr.there GR 0 (zV F 16).toArray.size := by rw [hsC]; exact hk2.there
      have hp := hk2.put (f' := F)
      have hbel : Below w.heap.size w (wr.setCells GR 0 (zV F 16)) := (bel.grown hgr bel.size (fun k hk => by cases hk; exact Nat.le_refl _)).grown hp.2 (Nat.le_trans bel.size hgr.size) (fun k hk => by cases hk; exact m2.lt.1)
      have hld := run_loadVar_mid (P := Try.prog) _ GR 0 32 _ _ hp.1.range Try.underlying32 rfl hsz
      have hone := zV_one F 16
      obtain ⟨Cs, hCs⟩ : ∃ Cs, Cs = zV F 16 := ⟨_, rfl⟩
      rw [← hCs] at hra hsz hsz2 hth2 hbel hld hone
      replace hCs : Hid (Cs = zV (fun i => f i - g i) 16) := by rw [Hid, hCs, hF]
      clear hp hk2 hr hr16 hgr m2 q1 bel hsC hF
      go_wp2_with (first | (refine wpList_load_mid rfl 32 _ rfl w.heap.size 0 rfl Cs _ hra Try.underlying32 rfl hsz ?_) | (refine wpList_store_mid rfl 32 _ _ rfl GR 0 Cs.toArray rfl rfl hth2 hsz2 (all_oneCell_toArray hone) ?_))
      (try simp only [Exit.inBlock, Exit.then])
      refine bodyPost_ret (v := .agg Cs.toArray) ?_ rfl ⟨by rw [hCs.out], hbel⟩
      simp [results, asAddr, hld]

end Go.Proofs.Ytghoibggmddkmao
