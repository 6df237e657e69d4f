/-
  What the specification's l8Mul answers: the product of two numbers, carried twice. Condition: parts that are not too great.
-/
import Derived.Test.YtghoibggmddkmaoFieldOf
namespace Go.Proofs.Ytghoibggmddkmao
open Go.RowKit

theorem infoZ31 : (Try.prog.info? 64).map (fun i => (i.zero, i.size)) = some (some (.agg (zV (fun _ => 0) 31).toArray), 31) := by kernel_rfl
def mtZ (a b : Nat → Int) (i j k : Nat) : Int := rwsZ a b i k + rowZ a b i j k
theorem mtZ_zero (a b : Nat → Int) (i k : Nat) : mtZ a b i 0 k = rwsZ a b i k := by unfold mtZ rowZ; rw [if_neg (by omega)]; omega
theorem mtZ_end (a b : Nat → Int) (i k : Nat) : mtZ a b i 16 k = rwsZ a b (i + 1) k := rfl
theorem mtZ_step (a b : Nat → Int) (i j k : Nat) : (if k = i + j then mtZ a b i j (i + j) + a i * b j else mtZ a b i j k) = mtZ a b i (j + 1) k := by
  by_cases h : k = i + j
  · subst h
    rw [if_pos rfl]
    unfold mtZ rowZ
    rw [if_neg (by omega), if_pos (by omega), show i + j - i = j by omega]
    omega
  · rw [if_neg h]
    unfold mtZ rowZ
    by_cases h2 : i ≤ k ∧ k - i < j
    · rw [if_pos h2, if_pos (by omega)]
    · rw [if_neg h2, if_neg (by omega)]
theorem mtZ_le {a b : Nat → Int} (ha : okZ a) (hb : okZ b) (i j k : Nat) (hi : i ≤ 16) : -1168231104512 ≤ mtZ a b i j k ∧ mtZ a b i j k ≤ 1168231104512 := by
  have h1 := rwsZ_le ha hb k i
  have h2 := rowZ_le ha hb i j k
  unfold mtZ
  omega

set_option maxRecDepth 100000 in
set_option maxHeartbeats 8000000 in
theorem l8Mul_any (f g : Nat → Int) (w : World) (h1 : okZ f) (h2 : okZ g) :
    Calls Try.prog 33 #[.agg (zV f 16).toArray, .agg (zV g 16).toArray] w fun e w' => e = .returned (.agg (zV (mulZ f g) 16).toArray) ∧ Below w.heap.size w w' := by
  have hz := (zero_of_info infoZ16).1
  have hsz0 := (zero_of_info infoZ16).2
  have hz3 := (zero_of_info infoZ31).1
  have HM : Hid (∀ (X : World) (n : Nat), n ≤ X.heap.size → RowZ 32 16 (X.alloc (.cells (zV (fun _ => 0) 16).toArray 32)) n X.heap.size (fun _ => 0)) := fun X n hX => RowZ.made X 32 16 n (fun _ => 0) (by decide) hX
  have m0 := RowZ.made w 32 16 w.heap.size f (by decide) (Nat.le_refl _)
  obtain ⟨A, hA⟩ : ∃ A, A = (zV f 16).toArray := ⟨_, rfl⟩
  rw [← hA] at m0 ⊢
  have ba : Below w.heap.size w (w.alloc (.cells A 32)) := (Below.refl _ _).alloc (Nat.le_refl _) _
  have sa : (w.alloc (.cells A 32)).heap.size = w.heap.size + 1 := by simp
  have m1 := RowZ.made (w.alloc (.cells A 32)) 32 16 w.heap.size g (by decide) (by omega)
  obtain ⟨B, hB⟩ : ∃ B, B = (zV g 16).toArray := ⟨_, rfl⟩
  rw [← hB] at m1 ⊢
  have bb : Below (w.alloc (.cells A 32)).heap.size (w.alloc (.cells A 32)) ((w.alloc (.cells A 32)).alloc (.cells B 32)) := (Below.refl _ _).alloc (Nat.le_refl _) _
  have sb : ((w.alloc (.cells A 32)).alloc (.cells B 32)).heap.size = w.heap.size + 1 + 1 := by simp
  have m2 := HM.out ((w.alloc (.cells A 32)).alloc (.cells B 32)) w.heap.size (by omega)
  obtain ⟨Z, hZ⟩ : ∃ Z, Z = (zV (fun _ => 0) 16).toArray := ⟨_, rfl⟩
  rw [← hZ] at hz m2
  simp only [← hZ] at HM
  have bc : Below ((w.alloc (.cells A 32)).alloc (.cells B 32)).heap.size ((w.alloc (.cells A 32)).alloc (.cells B 32)) (((w.alloc (.cells A 32)).alloc (.cells B 32)).alloc (.cells Z 32)) := (Below.refl _ _).alloc (Nat.le_refl _) _
  have sc : (((w.alloc (.cells A 32)).alloc (.cells B 32)).alloc (.cells Z 32)).heap.size = w.heap.size + 1 + 1 + 1 := by simp
  have m3 := RowZ.made (((w.alloc (.cells A 32)).alloc (.cells B 32)).alloc (.cells Z 32)) 64 31 w.heap.size (fun _ => 0) (by decide) (by omega)
  obtain ⟨Y, hY⟩ : ∃ Y, Y = (zV (fun _ => 0) 31).toArray := ⟨_, rfl⟩
  rw [← hY] at hz3 m3
  clear hZ hA hB hY
  have bd : Below (((w.alloc (.cells A 32)).alloc (.cells B 32)).alloc (.cells Z 32)).heap.size (((w.alloc (.cells A 32)).alloc (.cells B 32)).alloc (.cells Z 32)) ((((w.alloc (.cells A 32)).alloc (.cells B 32)).alloc (.cells Z 32)).alloc (.cells Y 64)) := (Below.refl _ _).alloc (Nat.le_refl _) _
  have q0 := ((m0.below bb).below bc).below bd
  have q1 := (m1.below bc).below bd
  have q2 := m2.below bd
  have bel := below_on (below_on (below_on ba bb) bc) bd
  rw [sa] at q1
  rw [sb] at q2
  rw [sc] at m3
  go_enter Try.func33, Try.ntmps33
  go_wp2_with (fail)
  obtain ⟨GB, hGB⟩ : ∃ GB, GB = w.heap.size + 1 := ⟨_, rfl⟩
  rw [← hGB] at q1 q2 m3 ⊢
  obtain ⟨GR, hGR⟩ : ∃ GR, GR = GB + 1 := ⟨_, rfl⟩
  rw [← hGR] at q2 m3 ⊢
  obtain ⟨GT, hGT⟩ : ∃ GT, GT = GR + 1 := ⟨_, rfl⟩
  rw [← hGT] at m3 ⊢
  have hneA : w.heap.size ≠ GT := by omega
  have hneB : GB ≠ GT := by omega
  have hneR : GR ≠ GT := by omega
  have hloT : w.heap.size ≤ GT := by omega
  have hloR : w.heap.size ≤ GR := by omega
  generalize (((w.alloc (.cells A 32)).alloc (.cells B 32)).alloc (.cells Z 32)).alloc (.cells Y 64) = wb at q0 q1 q2 m3 bel ⊢
  have hs0 : RowZ 64 31 wb w.heap.size GT (rwsZ f g 0) := m3
  clear m0 m1 m2 m3 ba sa bb sb bc sc bd hGB hGR hGT hz3
  go_loopw [6] (fun i wr => ∃ k : Nat, k ≤ 16 ∧ i = .int .i64 k ∧ RowZ 64 31 wr w.heap.size GT (rwsZ f g k) ∧ wb.grownBy wr (some GT))
    (fun i _ => 16 - (intOf i).toNat)
  case atStart => exact ⟨0, by omega, rfl, hs0, World.grownBy.refl _ _⟩
  case round =>
    clear hs0
    obtain ⟨k, hk, rfl, hr, hgr⟩ := hrel
    by_cases hlt : k < 16
    · have hlt' : (k : Int) < 16 := by omega
      have hr0 : RowZ 64 31 wr w.heap.size GT (mtZ f g k 0) := hr.congr fun i _ => (mtZ_zero f g k i).symm
      clear hr
      go_wp2_with (fail)
      go_loopw [7] (fun j wx => ∃ m : Nat, m ≤ 16 ∧ j = .int .i64 m ∧ RowZ 64 31 wx w.heap.size GT (mtZ f g k m) ∧ wb.grownBy wx (some GT))
        (fun j _ => 16 - (intOf j).toNat)
      case atStart => exact ⟨0, by omega, rfl, hr0, hgr⟩
      case round =>
        clear hr0 hgr
        obtain ⟨m, hm, rfl, hr, hgr⟩ := hrel
        by_cases hlm : m < 16
        · have hlm' : (m : Int) < 16 := by omega
          obtain ⟨s, hs⟩ : ∃ s : Nat, s = k + m := ⟨_, rfl⟩
          have es : (k : Int) + (m : Int) = (s : Int) := by omega
          have ls : (s : Int) < 31 := by omega
          have ct := hr.cell s (by omega)
          have ft := hr.frozen s
          have ca := (q0.kept hgr hneA).cell k hlt
          have cb := (q1.kept hgr hneB).cell m hlm
          have lt := mtZ_le h1 h2 k m s (by omega)
          have lp := prod_le (h1 k) (h2 m)
          have r1 := hr.set s (mtZ f g k m s + f k * g m)
          have HF : RowZ 64 31 _ w.heap.size GT (mtZ f g k (m + 1)) := r1.1.congr fun i _ => by
            rw [hs]
            exact mtZ_step f g k m i
          have hgr' := grown_trans hgr r1.2
          generalize mtZ f g k m s = t at ct lt HF hgr' r1
          generalize f k = x at ca lp HF hgr' r1
          generalize g m = y at cb lp HF hgr' r1
          obtain ⟨z, hz'⟩ : ∃ z, z = x * y := ⟨_, rfl⟩
          have ez : x * y = z := hz'.symm
          rw [ez] at lp HF hgr'
          obtain ⟨v, hv⟩ : ∃ v, v = t + z := ⟨_, rfl⟩
          have ev : t + z = v := hv.symm
          rw [ev] at HF hgr'
          have lv : -1236950581248 ≤ v ∧ v ≤ 1236950581248 := by omega
          clear r1 hr hgr hz' hv hs
          go_wp2_with (fail)
          go_region
          all_goals
            go_wp2
            go_roundw
            case rel => exact ⟨m + 1, by omega, by go_num, HF, ⟨hgr'.os, hgr'.tape, hgr'.output, hgr'.size, hgr'.block⟩⟩
            case measure => simp [intOf]; omega
        · obtain rfl : m = 16 := by omega
          have hnm : ¬ ((16 : Nat) : Int) < 16 := by omega
          have hr' : RowZ 64 31 wr w.heap.size GT (rwsZ f g (k + 1)) := hr
          go_wp2_with (fail)
          go_roundw
          case rel => exact ⟨k + 1, by omega, by go_num, hr', hgr⟩
          case measure => simp [intOf]; omega
    · obtain rfl : k = 16 := by omega
      have hnl : ¬ ((16 : Nat) : Int) < 16 := by omega
      have q2' := q2.kept hgr hneR
      have bel' := bel.grown hgr bel.size (fun k hk => by cases hk; exact hloT)
      have HT : Hid (∀ k, -1168231104512 ≤ rwsZ f g 16 k ∧ rwsZ f g 16 k ≤ 1168231104512) := fun k => by
        have := rwsZ_le h1 h2 k 16
        omega
      have CF := fldZ_le h1 h2
      have C1 := fun X => l8Carry_any (fldZ (rwsZ f g 16)) X (fun i => (CF i).1) (fun i => (CF i).2)
      have hc1 := cry_head (f := fldZ (rwsZ f g 16)) (M := 2147516417) (fun i => by have := (CF i).1; omega) (fun i => by have := (CF i).2; omega) (by omega)
      have C2 := fun X => l8Carry_any (cryZ (fldZ (rwsZ f g 16))) X (fun i => by
        by_cases h : i = 0
        · subst h; omega
        · have := cryZ_tail (fldZ (rwsZ f g 16)) i h; omega) (fun i => by
        by_cases h : i = 0
        · subst h; omega
        · have := cryZ_tail (fldZ (rwsZ f g 16)) i h; omega)
      have HE : Hid (cryZ (cryZ (fldZ (rwsZ f g 16))) = mulZ f g) := rfl
      rw [HE.out] at C2
      clear CF hc1 HE
      generalize rwsZ f g 16 = T at hr HT C1 C2
      have mO := HM.out wr w.heap.size bel'.size
      have bo : Below wr.heap.size wr (wr.alloc (.cells Z 32)) := (Below.refl _ _).alloc (Nat.le_refl _) _
      have hl2 := q2'.lt.2
      have hlT := hr.lt.2
      replace hr := hr.below bo
      replace q2' := q2'.below bo
      replace bel' := below_on bel' bo
      obtain ⟨GO, hGO⟩ : ∃ GO, GO = wr.heap.size := ⟨_, rfl⟩
      rw [← hGO] at mO hl2 hlT
      have hneT : GT ≠ GO := Nat.ne_of_lt hlT
      have hneR2 : GR ≠ GO := Nat.ne_of_lt hl2
      have hs0 : RowZ 32 16 (wr.alloc (.cells Z 32)) w.heap.size GO (fun i => if i < 0 then fldZ T i else 0) := mO.congr fun i _ => by rw [if_neg (by omega)]
      have hloO := mO.lt.1
      clear q0 q1 q2 bel HM mO bo hgr
      go_wp2_with (fail)
      rw [← hGO]
      generalize wr.alloc (.cells Z 32) = wc at hr q2' bel' hs0 ⊢
      clear hGO hz
      go_loopw [9] (fun i wx => ∃ k : Nat, k ≤ 16 ∧ i = .int .i64 k ∧ RowZ 32 16 wx w.heap.size GO (fun i => if i < k then fldZ T i else 0) ∧ wc.grownBy wx (some GO))
        (fun i _ => 16 - (intOf i).toNat)
      case atStart => exact ⟨0, by omega, rfl, hs0, World.grownBy.refl _ _⟩
      case round =>
        clear hs0
        obtain ⟨k, hk, rfl, ho, hgr⟩ := hrel
        by_cases hlt : k < 16
        · have hlt' : (k : Int) < 16 := by omega
          have hlt3 : (k : Int) < 31 := by omega
          have ct := (hr.kept hgr hneT).cell k (by omega)
          have co := ho.cell k hlt
          simp only [Nat.lt_irrefl, if_false] at co
          have fo := ho.frozen k
          have r1 := ho.set k (T k)
          have lt := HT.out k
          by_cases h15 : k < 15
          · have h15' : (k : Int) < 15 := by omega
            have hrk := (hr.kept hgr hneT).kept r1.2 hneT
            obtain ⟨k6, hk6⟩ : ∃ k6 : Nat, k6 = k + 16 := ⟨_, rfl⟩
            have ek6 : (k : Int) + 16 = (k6 : Int) := by omega
            have lk6 : (k6 : Int) < 31 := by omega
            have c6 := hrk.cell k6 (by omega)
            have l6 := HT.out k6
            have co2 := r1.1.cell k hlt
            simp only [if_true] at co2
            have fo2 := r1.1.frozen k
            have r2 := r1.1.set k (T k + 38 * T k6)
            have HF : RowZ 32 16 _ w.heap.size GO (fun i => if i < k + 1 then fldZ T i else 0) := r2.1.congr fun i hi => by
              by_cases a1 : i = k
              · subst a1
                rw [if_pos rfl, if_pos (by omega), fldZ, if_pos h15, hk6]
              · rw [if_neg a1, if_neg a1]
                have : i < k ↔ i < k + 1 := by omega
                simp only [this]
            have hgr' := grown_trans hgr (grown_trans r1.2 r2.2)
            generalize T k = x at ct lt co2 fo2 r1 r2 HF hgr' c6
            generalize T k6 = y at c6 l6 r2 HF hgr'
            obtain ⟨y3, hy3⟩ : ∃ y3, y3 = 38 * y := ⟨_, rfl⟩
            have ey3 : 38 * y = y3 := hy3.symm
            rw [ey3] at HF hgr'
            obtain ⟨z, hz'⟩ : ∃ z, z = x + y3 := ⟨_, rfl⟩
            have ez : x + y3 = z := hz'.symm
            rw [ez] at HF hgr'
            have ly3 : -44392781971456 ≤ y3 ∧ y3 ≤ 44392781971456 := by omega
            have lz : -45561013075968 ≤ z ∧ z ≤ 45561013075968 := by omega
            clear r1 r2 ho hgr hrk hz' hy3 hk6
            go_wp2_with (fail)
            go_region
            all_goals
              go_wp2
              go_roundw
              case rel => exact ⟨k + 1, by omega, by go_num, HF, ⟨hgr'.os, hgr'.tape, hgr'.output, hgr'.size, hgr'.block⟩⟩
              case measure => simp [intOf]; omega
          · obtain rfl : k = 15 := by omega
            have h15' : ¬ ((15 : Nat) : Int) < 15 := by omega
            have HF : RowZ 32 16 _ w.heap.size GO (fun i => if i < 15 + 1 then fldZ T i else 0) := r1.1.congr fun i hi => by
              by_cases a1 : i = 15
              · subst a1
                rw [if_pos rfl, if_pos (by omega), fldZ, if_neg (by omega)]
              · rw [if_neg a1]
                have : i < 15 ↔ i < 15 + 1 := by omega
                simp only [this]
            have hgr' := grown_trans hgr r1.2
            generalize T 15 = x at ct lt HF hgr' r1
            clear r1 ho hgr
            go_wp2_with (fail)
            go_roundw
            case rel => exact ⟨15 + 1, by omega, by go_num, HF, hgr'⟩
            case measure => simp [intOf]
        · obtain rfl : k = 16 := by omega
          have hno : ¬ ((16 : Nat) : Int) < 16 := by omega
          have ho16 : RowZ 32 16 wr w.heap.size GO (fldZ T) := ho.congr fun i hi => by rw [if_pos hi]
          have hra := ho16.range
          have hk2 := q2'.kept hgr hneR2
          have bel2 := bel'.grown hgr bel'.size (fun k hk => by cases hk; exact hloO)
          obtain ⟨F, hF⟩ : ∃ F, F = fldZ T := ⟨_, rfl⟩
          rw [← hF] at hra
          simp only [← hF] at C1 C2
          have hszF : (Try.prog.info? 32).map (·.size) = some (zV F 16).length := by rw [zV_length]; exact hsz0
          obtain ⟨Fs, hFs⟩ : ∃ Fs, Fs = zV F 16 := ⟨_, rfl⟩
          rw [← hFs] at hra hszF
          simp only [← hFs] at C1
          clear hF hFs ho ho16 hr HT hgr q2' bel'
          go_wp2_with (refine wpList_load_mid rfl 32 _ rfl GO 0 rfl Fs _ hra Try.underlying32 rfl hszF ?_)
          refine (C1 _).mono ?_
          rintro e w5 ⟨rfl, b5⟩
          go_wp2_with (fail)
          refine (C2 _).mono ?_
          rintro e w6 ⟨rfl, b6⟩
          have hk3 := (hk2.below b5).below b6
          have bel3 := below_on (below_on bel2 b5) b6
          obtain ⟨M, hM⟩ : ∃ M, M = mulZ f g := ⟨_, rfl⟩
          rw [← hM]
          have hsC : (zV M 16).toArray.size = 16 := by simp [zV_length]
          have hsz : (Try.prog.info? 32).map (·.size) = some (zV M 16).length := by rw [zV_length]; exact hsz0
          have hsz2 : (Try.prog.info? 32).map (·.size) = some (zV M 16).toArray.size := by rw [hsC]; exact hsz0
          have hth2 : w6.there GR 0 (zV M 16).toArray.size := by rw [hsC]; exact hk3.there
          have hp := hk3.put (f' := M)
          have hbel : Below w.heap.size w (w6.setCells GR 0 (zV M 16)) := bel3.grown hp.2 bel3.size (fun k hk => by cases hk; exact hloR)
          have hld := run_loadVar_mid (P := Try.prog) _ GR 0 32 _ _ hp.1.range Try.underlying32 rfl hsz
          have hone := zV_one M 16
          obtain ⟨Cs, hCs⟩ : ∃ Cs, Cs = zV M 16 := ⟨_, rfl⟩
          rw [← hCs] at hsz hsz2 hth2 hbel hld hone ⊢
          replace hCs : Hid (Cs = zV (mulZ f g) 16) := by rw [Hid, hCs, hM]
          clear hp hk2 hk3 bel2 bel3 hsC hM b5 b6 C1 C2
          go_wp2_with (refine wpList_store_mid rfl 32 _ _ rfl GR 0 Cs.toArray rfl rfl hth2 hsz2 (all_oneCell_toArray hone) ?_)
          (try simp only [Exit.inBlock, Exit.then])
          refine bodyPost_ret (v := .agg Cs.toArray) ?_ rfl ⟨by rw [hCs.out], hbel⟩
          simp [results, asAddr, Act.put, hld]

end Go.Proofs.Ytghoibggmddkmao
