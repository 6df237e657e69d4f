/-
  What the specification's l8Bytes answers: what is left of a number, as 32 bytes. Condition: parts that are not too great.
-/
import Derived.Test.YtghoibggmddkmaoSpecInv
import Derived.Test.YtghoibggmddkmaoRegionT
namespace Go.Proofs.Ytghoibggmddkmao
open Go.RowKit

theorem and_maskZ (k : Nat) (hk : k ≤ 32) (v : Int) : bits .and .i64 v ((2 ^ k - 1 : Nat) : Int) = v % (2 ^ k : Nat) := by
  have e : bits .and .i64 v ((2 ^ k - 1 : Nat) : Int) = IntKind.i64.wrap ((BitVec.ofInt 64 v &&& BitVec.ofInt 64 ((2 ^ k - 1 : Nat) : Int)).toNat : Int) := rfl
  have e1 : (BitVec.ofInt 64 v).toNat = (v % 18446744073709551616).toNat := BitVec.toNat_ofInt v
  have hp : 2 ^ k ≤ 4294967296 := Nat.le_trans (Nat.pow_le_pow_right (by decide) hk) (by decide)
  have hp0 : 0 < 2 ^ k := Nat.two_pow_pos k
  have e2 : (BitVec.ofInt 64 ((2 ^ k - 1 : Nat) : Int)).toNat = 2 ^ k - 1 := by rw [BitVec.toNat_ofInt]; omega
  have hd : ((2 ^ k : Nat) : Int) ∣ 18446744073709551616 := by
    have : 2 ^ k ∣ 2 ^ 64 := Nat.pow_dvd_pow 2 (by omega)
    exact Int.ofNat_dvd.2 this
  have e3 : (((v % 18446744073709551616).toNat % 2 ^ k : Nat) : Int) = v % (2 ^ k : Nat) := by
    rw [Int.natCast_emod, Int.toNat_of_nonneg (by omega), Int.emod_emod_of_dvd v hd]
  rw [e, BitVec.toNat_and, e1, e2, Nat.and_two_pow_sub_one_eq_mod, e3, IntKind.wrap_i64]
  have h1 : 0 ≤ v % ((2 ^ k : Nat) : Int) := Int.emod_nonneg _ (by omega)
  have h2 : v % ((2 ^ k : Nat) : Int) < ((2 ^ k : Nat) : Int) := Int.emod_lt_of_pos _ (by omega)
  omega
theorem and_65535Z (v : Int) : bits .and .i64 v 65535 = v % 65536 := and_maskZ 16 (by decide) v
theorem and_255Z (v : Int) : bits .and .i64 v 255 = v % 256 := and_maskZ 8 (by decide) v
theorem and_1Z (v : Int) : bits .and .i64 v 1 = v % 2 := and_maskZ 1 (by decide) v
/-- The parts in the midst of a taking away: i - 1 are done. -/
def dwnK (t : Nat → Int) (i j : Nat) : Int := if j + 1 < i then digZ (dffZ t) j else if j + 1 = i then dffZ t j + carZ (dffZ t) j else t j
theorem raw_range {t : Nat → Int} (ht : ∀ i, 0 ≤ t i ∧ t i < 65536) (j : Nat) : -65536 ≤ dffZ t j + carZ (dffZ t) j ∧ dffZ t j + carZ (dffZ t) j ≤ 32768 ∨ j = 0 := by
  by_cases h0 : j = 0
  · exact .inr h0
  · refine .inl ?_
    have hc := dff_car ht j
    have h := ht j
    have hp : 32767 ≤ prtZ j ∧ prtZ j ≤ 65535 := by
      unfold prtZ
      split
      · omega
      · split <;> omega
    have hd : dffZ t j = t j - prtZ j := rfl
    omega
theorem raw_le {t : Nat → Int} (ht : ∀ i, 0 ≤ t i ∧ t i < 65536) (j : Nat) : -65536 ≤ dffZ t j + carZ (dffZ t) j ∧ dffZ t j + carZ (dffZ t) j ≤ 32768 := by
  rcases raw_range ht j with h | h
  · exact h
  · subst h
    have h0 := ht 0
    have hd : dffZ t 0 = t 0 - 65517 := rfl
    have hc : carZ (dffZ t) 0 = 0 := rfl
    omega
def itZ (t : Nat → Int) : Nat → Nat → Int
  | 0 => t
  | k + 1 => lssZ (itZ t k)
theorem itZ_range {t : Nat → Int} (ht : ∀ i, 0 ≤ t i ∧ t i < 65536) : ∀ k i, 0 ≤ itZ t k i ∧ itZ t k i < 65536
  | 0 => ht
  | k + 1 => lss_range (itZ_range ht k)

set_option maxRecDepth 100000 in
set_option maxHeartbeats 8000000 in
theorem l8Bytes_any (f : Nat → Int) (w : World) (h1 : ∀ i, -140737488355328 ≤ f i) (h2 : ∀ i, f i ≤ 140737488355328) :
    Calls Try.prog 34 #[.agg (zV f 16).toArray] w fun e w' => ∃ p' c', e = .returned (.slice p' 32 c') ∧ Own 5 w' w.heap.size w'.heap.size (.slice p' 32 c') 32 (prtB (redZ f) 16) ∧ Below w.heap.size w w' := by
  have hz := (zero_of_info infoZ16).1
  have hsz0 := (zero_of_info infoZ16).2
  have HSZ : Hid (∀ g : Nat → Int, (Try.prog.info? 32).map (·.size) = some (zV g 16).length ∧ (Try.prog.info? 32).map (·.size) = some (zV g 16).toArray.size ∧ (zV g 16).toArray.size = 16) := fun g => by
    have e : (zV g 16).toArray.size = 16 := by simp [zV_length]
    exact ⟨by rw [zV_length]; exact hsz0, by rw [e]; exact hsz0, e⟩
  have HM : Hid (∀ (X : World) (n : Nat), n ≤ X.heap.size → RowZ 32 16 (X.alloc (.cells (zV (fun _ => 0) 16).toArray 32)) n X.heap.size (fun _ => 0)) := fun X n hX => RowZ.made X 32 16 n (fun _ => 0) (by decide) hX
  have m0 := RowZ.made w 32 16 w.heap.size f (by decide) (Nat.le_refl _)
  obtain ⟨As, hAs⟩ : ∃ As, As = zV f 16 := ⟨_, rfl⟩
  have hsA := (HSZ.out f).1
  have hra0 := m0.range
  rw [← hAs] at m0 hsA hra0 ⊢
  have ba : Below w.heap.size w (w.alloc (.cells As.toArray 32)) := (Below.refl _ _).alloc (Nat.le_refl _) _
  obtain ⟨Z, hZ⟩ : ∃ Z, Z = (zV (fun _ => 0) 16).toArray := ⟨_, rfl⟩
  rw [← hZ] at hz
  simp only [← hZ] at HM
  clear hZ
  have hh := cry_head (f := f) (M := 2147516417) (fun i => by have := h1 i; omega) (fun i => by have := h2 i; omega) (by omega)
  have h2nd := cry_twice h1 h2
  have C1 := fun X => l8Carry_any f X h1 h2
  have C2 := fun X => l8Carry_any (cryZ f) X (fun i => by
    by_cases h : i = 0
    · subst h; omega
    · have := cryZ_tail f i h; omega) (fun i => by
    by_cases h : i = 0
    · subst h; omega
    · have := cryZ_tail f i h; omega)
  have C3 := fun X => l8Carry_any (cryZ (cryZ f)) X (fun i => by
    by_cases h : i = 0
    · subst h; omega
    · have := h2nd.1 i h; omega) (fun i => by
    by_cases h : i = 0
    · subst h; omega
    · have := h2nd.1 i h; omega)
  have hT := cry_thrice h1 h2
  have HR : Hid (redZ f = itZ (cryZ (cryZ (cryZ f))) 2) := rfl
  rw [← hAs] at C1
  rw [HR.out]
  clear hh h2nd h1 h2 HR
  generalize cryZ (cryZ (cryZ f)) = T at C3 hT
  replace hAs : Hid (As = zV f 16) := hAs
  clear m0
  go_enter Try.func34, Try.ntmps34
  go_wp2_with (refine wpList_load_mid rfl 32 _ rfl w.heap.size 0 rfl As _ hra0 Try.underlying32 rfl hsA ?_)
  refine (C1 _).mono ?_
  rintro e w1 ⟨rfl, b1⟩
  go_wp2_with (fail)
  refine (C2 _).mono ?_
  rintro e w2 ⟨rfl, b2⟩
  go_wp2_with (fail)
  refine (C3 _).mono ?_
  rintro e w3 ⟨rfl, b3⟩
  have bel3 := below_on (below_on (below_on ba b1) b2) b3
  clear C1 C2 C3 b1 b2 b3 ba hra0 hsA hAs
  have mT := HM.out w3 w.heap.size bel3.size
  have bT : Below w3.heap.size w3 (w3.alloc (.cells Z 32)) := (Below.refl _ _).alloc (Nat.le_refl _) _
  have pT := mT.put (f' := T)
  have hs2 := (HSZ.out T).2.1
  have hs3 := (HSZ.out T).2.2
  have hoT := zV_one T 16
  have hthT : (w3.alloc (.cells Z 32)).there w3.heap.size 0 (zV T 16).toArray.size := by rw [hs3]; exact mT.there
  have bel4 := (below_on bel3 bT).grown pT.2 (below_on bel3 bT).size (fun k hk => by cases hk; exact bel3.size)
  have rT := pT.1
  obtain ⟨Ts, hTs⟩ : ∃ Ts, Ts = zV T 16 := ⟨_, rfl⟩
  rw [← hTs] at hs2 hoT hthT bel4 rT ⊢
  clear hTs pT mT bT hs3
  go_wp2_with (refine wpList_store_mid rfl 32 _ _ rfl w3.heap.size 0 Ts.toArray rfl rfl hthT hs2 (all_oneCell_toArray hoT) ?_)
  obtain ⟨GT, hGT⟩ : ∃ GT, GT = w3.heap.size := ⟨_, rfl⟩
  have hloT : w.heap.size ≤ GT := by rw [hGT]; exact bel3.size
  rw [← hGT] at rT bel4 ⊢
  generalize (w3.alloc (.cells Z 32)).setCells GT 0 Ts = wb at rT bel4 ⊢
  clear hthT hs2 hoT bel3 hGT
  go_loopw [4] (fun i wr => ∃ k : Nat, k ≤ 2 ∧ i = .int .i64 k ∧ RowZ 32 16 wr w.heap.size GT (itZ T k) ∧ Below w.heap.size w wr)
    (fun i _ => 2 - (intOf i).toNat)
  case atStart => exact ⟨0, by omega, rfl, rT, bel4⟩
  case round =>
    clear rT bel4
    obtain ⟨k, hk, rfl, rT, bel⟩ := hrel
    by_cases hlt : k < 2
    · have hlt' : (k : Int) < 2 := by omega
      have htr := itZ_range hT k
      have HI : Hid (lssZ (itZ T k) = itZ T (k + 1)) := rfl
      generalize itZ T k = t at rT htr HI
      have hrt := rT.range
      have hst := (HSZ.out t).1
      have hst2 := (HSZ.out t).2.1
      have hst3 := (HSZ.out t).2.2
      have hot := zV_one t 16
      have mM := HM.out wr w.heap.size bel.size
      have bM : Below wr.heap.size wr (wr.alloc (.cells Z 32)) := (Below.refl _ _).alloc (Nat.le_refl _) _
      have hthM : (wr.alloc (.cells Z 32)).there wr.heap.size 0 (zV t 16).toArray.size := by rw [hst3]; exact mM.there
      have pM := mM.put (f' := t)
      have hlTw := rT.lt.2
      have rT2 := (rT.below bM).kept pM.2 (Nat.ne_of_lt hlTw)
      have bel2 := (below_on bel bM).grown pM.2 (below_on bel bM).size (fun k hk => by cases hk; exact bel.size)
      have rM := pM.1
      obtain ⟨GM, hGM⟩ : ∃ GM, GM = wr.heap.size := ⟨_, rfl⟩
      have hloM : w.heap.size ≤ GM := by rw [hGM]; exact bel.size
      have hneM : GT ≠ GM := by rw [hGM]; exact Nat.ne_of_lt hlTw
      obtain ⟨Ss, hSs⟩ : ∃ Ss, Ss = zV t 16 := ⟨_, rfl⟩
      rw [← hSs] at hrt hst hst2 hot hthM rT2 bel2 rM
      clear hSs pM mM bM hst3 rT bel
      -- m[0]
      have c0 := rT2.cell 0 (by omega)
      have d0 := rM.cell 0 (by omega)
      have g0 := rM.frozen 0
      have r0 := rM.set 0 (dffZ t 0)
      have e0 : dffZ t 0 = t 0 - 65517 := rfl
      rw [e0] at r0
      have l0 := htr 0
      have rT3 := rT2.kept r0.2 (by rw [← hGM]; exact hneM)
      have bel3 := bel2.grown r0.2 bel2.size (fun k hk => by cases hk; rw [← hGM]; exact hloM)
      have rM3 : RowZ 32 16 _ w.heap.size wr.heap.size (dwnK t 1) := r0.1.congr fun i hi => by
        unfold dwnK
        by_cases a1 : i = 0
        · subst a1
          rw [if_pos rfl, if_neg (by omega), if_pos (by omega), e0]
          simp [carZ]
        · rw [if_neg a1, if_neg (by omega), if_neg (by omega)]
      generalize t 0 = t0 at c0 l0 r0 rT3 bel3 rM3 d0
      obtain ⟨z0, hz0⟩ : ∃ z0, z0 = t0 - 65517 := ⟨_, rfl⟩
      rw [← hz0] at rT3 bel3 rM3
      have ez0 : t0 - 65517 = z0 := hz0.symm
      clear r0 e0 hz0 rM
      go_wp2_with (first | (refine wpList_load_mid rfl 32 _ rfl GT 0 rfl Ss _ hrt Try.underlying32 rfl hst ?_) | (refine wpList_store_mid rfl 32 _ _ rfl wr.heap.size 0 Ss.toArray rfl rfl hthM hst2 (all_oneCell_toArray hot) ?_))
      rw [← hGM] at rT3 bel3 rM3 ⊢
      generalize ((wr.alloc (.cells Z 32)).setCells GM 0 Ss).setCell ⟨GM, 0, none⟩ (.int .i64 z0) = wm at rT3 bel3 rM3 ⊢
      clear hGM hthM hst hst2 hot hrt rT2 bel2 c0 d0 g0 l0 ez0 hlTw
      go_loopw [6] (fun i wx => ∃ j : Nat, 1 ≤ j ∧ j ≤ 15 ∧ i = .int .i64 j ∧ RowZ 32 16 wx w.heap.size GM (dwnK t j) ∧ RowZ 32 16 wx w.heap.size GT t ∧ Below w.heap.size w wx)
        (fun i _ => 15 - (intOf i).toNat)
      case atStart => exact ⟨1, by omega, by omega, rfl, rM3, rT3, bel3⟩
      case round =>
        clear rM3 rT3 bel3
        obtain ⟨j, hj1, hj2, rfl, rM, rT, bel⟩ := hrel
        by_cases hlj : j < 15
        · have hlj' : (j : Int) < 15 := by omega
          have hlj6 : (j : Int) < 16 := by omega
          obtain ⟨jp, hjp⟩ : ∃ jp : Nat, jp = j - 1 := ⟨_, rfl⟩
          have ejp : (j : Int) - 1 = (jp : Int) := by omega
          have ljp : (jp : Int) < 16 := by omega
          have cT := rT.cell j (by omega)
          have cM := rM.cell jp (by omega)
          have eM : dwnK t j jp = dffZ t jp + carZ (dffZ t) jp := by unfold dwnK; rw [if_neg (by omega), if_pos (by omega)]
          rw [eM] at cM
          have dM := rM.cell j (by omega)
          have fM := rM.frozen j
          have lr := raw_le htr jp
          have lt := htr j
          have hq := dff_car htr j
          have HQ : carZ (dffZ t) j = (dffZ t jp + carZ (dffZ t) jp) / 65536 := by
            have : j = jp + 1 := by omega
            rw [this]
            rfl
          have HD : digZ (dffZ t) jp = (dffZ t jp + carZ (dffZ t) jp) % 65536 := rfl
          have HV : dffZ t j = t j - 65535 := by
            unfold dffZ prtZ
            rw [if_neg (by omega), if_neg (by omega)]
          have r1 := rM.set j (dffZ t j + carZ (dffZ t) j)
          have c2 := r1.1.cell jp (by omega)
          have e2 : (if jp = j then dffZ t j + carZ (dffZ t) j else dwnK t j jp) = dffZ t jp + carZ (dffZ t) jp := by rw [if_neg (by omega), eM]
          rw [e2] at c2
          have f2 := r1.1.frozen jp
          have r2 := r1.1.set jp (digZ (dffZ t) jp)
          have HF : RowZ 32 16 _ w.heap.size GM (dwnK t (j + 1)) := r2.1.congr fun i hi => by
            unfold dwnK
            by_cases a1 : i = jp
            · subst a1
              rw [if_pos rfl, if_pos (by omega)]
            · rw [if_neg a1]
              by_cases a2 : i = j
              · subst a2
                rw [if_pos rfl, if_neg (by omega), if_pos rfl]
              · rw [if_neg a2]
                by_cases a3 : i + 1 < j
                · rw [if_pos a3, if_pos (by omega)]
                · rw [if_neg a3, if_neg (by omega), if_neg (by omega), if_neg (by omega)]
          have rT' := (rT.kept r1.2 hneM).kept r2.2 hneM
          have bel' := (bel.grown r1.2 bel.size (fun k hk => by cases hk; exact hloM)).grown r2.2 (Nat.le_trans bel.size r1.2.size) (fun k hk => by cases hk; exact hloM)
          rw [HD] at HF rT' bel'
          rw [HQ] at hq HF rT' bel' c2 f2
          rw [HV] at HF rT' bel' c2 f2
          obtain ⟨u, hu⟩ : ∃ u, u = dffZ t jp + carZ (dffZ t) jp := ⟨_, rfl⟩
          rw [← hu] at cM lr hq HF rT' bel' c2 f2
          generalize t j = x at cT lt HF rT' bel' c2 f2
          obtain ⟨x', hx'⟩ : ∃ x', x' = x - 65535 := ⟨_, rfl⟩
          have ex : x - 65535 = x' := hx'.symm
          obtain ⟨q, hqe⟩ : ∃ q, q = u / 65536 := ⟨_, rfl⟩
          have eq : u / 65536 = q := hqe.symm
          obtain ⟨b, hb'⟩ : ∃ b, b = q % 2 := ⟨_, rfl⟩
          have eb := and_1Z q
          rw [← hb'] at eb
          obtain ⟨v, hv⟩ : ∃ v, v = x' - b := ⟨_, rfl⟩
          have ev : x' - b = v := hv.symm
          have ed := and_65535Z u
          obtain ⟨d, hd⟩ : ∃ d, d = u % 65536 := ⟨_, rfl⟩
          rw [← hd] at ed HF rT' bel'
          rw [eq] at hq HF rT' bel' c2 f2
          rw [ex, show x' + q = v by omega] at HF rT' bel' c2 f2
          have lx' : -65535 ≤ x' ∧ x' ≤ 1 := by omega
          have lb : 0 ≤ b ∧ b ≤ 1 := by omega
          clear r1 r2 rM rT bel HQ HD HV eM e2 hu hx' hqe hb' hv hd hjp
          go_wp2_with (fail)
          go_region
          all_goals
            go_wp2
            go_roundw
            case rel => exact ⟨j + 1, by omega, by omega, by go_num, HF, rT', ⟨bel'.os, bel'.tape, bel'.output, bel'.size, bel'.block⟩⟩
            case measure => simp [intOf]; omega
        · obtain rfl : j = 15 := by omega
          have hnl : ¬ ((15 : Nat) : Int) < 15 := by omega
          have cT := rT.cell 15 (by omega)
          have cM := rM.cell 14 (by omega)
          have eM : dwnK t 15 14 = dffZ t 14 + carZ (dffZ t) 14 := by unfold dwnK; rw [if_neg (by omega), if_pos (by omega)]
          rw [eM] at cM
          have dM := rM.cell 15 (by omega)
          have fM := rM.frozen 15
          have lr := raw_le htr 14
          have lt := htr 15
          have hq := dff_car htr 15
          have HQ : carZ (dffZ t) 15 = (dffZ t 14 + carZ (dffZ t) 14) / 65536 := rfl
          have HD : digZ (dffZ t) 14 = (dffZ t 14 + carZ (dffZ t) 14) % 65536 := rfl
          have HV : topZ t = t 15 - 32767 + carZ (dffZ t) 15 := rfl
          have r1 := rM.set 15 (topZ t)
          have c15 := r1.1.cell 15 (by omega)
          simp only [if_true] at c15
          have c2 := r1.1.cell 14 (by omega)
          have e2 : (if 14 = 15 then topZ t else dwnK t 15 14) = dffZ t 14 + carZ (dffZ t) 14 := by rw [if_neg (by omega), eM]
          rw [e2] at c2
          have f2 := r1.1.frozen 14
          have r2 := r1.1.set 14 (digZ (dffZ t) 14)
          have HF : RowZ 32 16 _ w.heap.size GM (fun i => if i = 15 then topZ t else digZ (dffZ t) i) := r2.1.congr fun i hi => by
            by_cases a1 : i = 14
            · subst a1
              rw [if_pos rfl, if_neg (by omega)]
            · rw [if_neg a1]
              by_cases a2 : i = 15
              · rw [if_pos a2, if_pos a2]
              · rw [if_neg a2, if_neg a2]
                unfold dwnK
                rw [if_pos (by omega)]
          have rT' := (rT.kept r1.2 hneM).kept r2.2 hneM
          have bel' := (bel.grown r1.2 bel.size (fun k hk => by cases hk; exact hloM)).grown r2.2 (Nat.le_trans bel.size r1.2.size) (fun k hk => by cases hk; exact hloM)
          have HN : topZ t < 0 → lssZ t = t := fun h => by funext i; rw [lssZ, if_pos h]
          have HP : ¬ topZ t < 0 → lssZ t = fun i => if i = 15 then topZ t else digZ (dffZ t) i := fun h => by funext i; rw [lssZ, if_neg h]
          obtain ⟨F, hF⟩ : ∃ F : Nat → Int, F = fun i => if i = 15 then topZ t else digZ (dffZ t) i := ⟨_, rfl⟩
          rw [← hF] at HF
          simp only [← hF] at HP
          clear hF
          rw [HD] at rT' bel' HF
          obtain ⟨tp, htp⟩ : ∃ tp, tp = topZ t := ⟨_, rfl⟩
          rw [← htp] at HV rT' bel' HF c15 c2 f2 HN HP
          rw [HQ] at hq HV
          obtain ⟨u, hu⟩ : ∃ u, u = dffZ t 14 + carZ (dffZ t) 14 := ⟨_, rfl⟩
          rw [← hu] at cM lr hq HV rT' bel' HF c2
          obtain ⟨x, hx⟩ : ∃ x, x = t 15 := ⟨_, rfl⟩
          rw [← hx] at cT lt HV
          obtain ⟨x', hx'⟩ : ∃ x', x' = x - 32767 := ⟨_, rfl⟩
          have ex : x - 32767 = x' := hx'.symm
          obtain ⟨q, hqe⟩ : ∃ q, q = u / 65536 := ⟨_, rfl⟩
          have eq : u / 65536 = q := hqe.symm
          obtain ⟨b, hb'⟩ : ∃ b, b = q % 2 := ⟨_, rfl⟩
          have eb := and_1Z q
          rw [← hb'] at eb
          have ev : x' - b = tp := by omega
          obtain ⟨s5, hs5⟩ : ∃ s5, s5 = tp / 65536 := ⟨_, rfl⟩
          have es5 : tp / 65536 = s5 := hs5.symm
          obtain ⟨b5, hb5⟩ : ∃ b5, b5 = s5 % 2 := ⟨_, rfl⟩
          have eb5 := and_1Z s5
          rw [← hb5] at eb5
          have ed := and_65535Z u
          obtain ⟨d, hd⟩ : ∃ d, d = u % 65536 := ⟨_, rfl⟩
          rw [← hd] at ed HF rT' bel'
          have lx' : -32767 ≤ x' ∧ x' ≤ 32768 := by omega
          have lb : 0 ≤ b ∧ b ≤ 1 := by omega
          have ltp : -32768 ≤ tp ∧ tp ≤ 32768 := by omega
          by_cases hbl : tp < 0
          · have z5 : b5 = 1 := by omega
            have HE := HN hbl
            rw [HI.out] at HE
            subst z5
            clear r1 r2 rM rT bel HQ HD HV eM e2 hu hx hx' hqe hb' hd hs5 hb5 htp HN HP
            go_wp2_with (fail)
            go_roundw
            case rel => exact ⟨k + 1, by omega, by go_num, by rw [HE]; exact rT', bel'⟩
            case measure => simp [intOf]; omega
          · have z5 : b5 = 0 := by omega
            have HE := HP hbl
            rw [HI.out] at HE
            subst z5
            have hrF := HF.range
            have hf1 := (HSZ.out F).1
            have hf2 := (HSZ.out F).2.1
            have hf3 := (HSZ.out F).2.2
            have hoF := zV_one F 16
            have pF := rT'.put (f' := F)
            have hthF := rT'.there
            rw [← hf3] at hthF
            have bel9 := bel'.grown pF.2 bel'.size (fun k hk => by cases hk; exact hloT)
            have rT9 := pF.1
            obtain ⟨Fs, hFs⟩ : ∃ Fs, Fs = zV F 16 := ⟨_, rfl⟩
            rw [← hFs] at hrF hf1 hf2 hoF hthF bel9 rT9
            clear r1 r2 rM rT bel HQ HD HV eM e2 hu hx hx' hqe hb' hd hs5 hb5 htp HN HP pF hf3 hFs HF rT' bel'
            go_wp2_with (first | (refine wpList_load_mid rfl 32 _ rfl GM 0 rfl Fs _ hrF Try.underlying32 rfl hf1 ?_) | (refine wpList_store_mid rfl 32 _ _ rfl GT 0 Fs.toArray rfl rfl hthF hf2 (all_oneCell_toArray hoF) ?_))
            go_roundw
            case rel => exact ⟨k + 1, by omega, by go_num, by rw [HE]; exact rT9, bel9⟩
            case measure => simp [intOf]; omega
    · obtain rfl : k = 2 := by omega
      have hnl : ¬ ((2 : Nat) : Int) < 2 := by omega
      have htr := itZ_range hT 2
      obtain ⟨t, ht⟩ : ∃ t, t = itZ T 2 := ⟨_, rfl⟩
      rw [← ht] at rT htr
      replace ht : Hid (t = itZ T 2) := ht
      obtain ⟨j0, hj, hy0, hy1, hy2⟩ := info_parts infoByte
      have hsw := bel.size
      have hown0 : (wr.alloc (.cells #[] 5)).ownsRow wr.heap.size 5 1 (.slice (some ⟨wr.heap.size, 0, none⟩) 0 0) 0 ((prtB t 0).map (Value.int .u8)) := World.ownsRow_made wr #[] 0 (Nat.le_refl _) (by unfold maxLen; omega) rfl
      have hb0 : Below wr.heap.size wr (wr.alloc (.cells #[] 5)) := (Below.refl _ _).alloc (Nat.le_refl _) _
      have hlT := rT.lt.2
      have HC : Hid (∀ X i, i < 16 → Below wr.heap.size wr X → X.cell? ⟨GT, i, none⟩ = some (.int .i64 (t i))) := fun X i hi hX => (rT.below hX).cell i hi
      clear rT
      go_wp2_with (fail)
      obtain ⟨wo, hwo⟩ : ∃ wo, wo = wr := ⟨_, rfl⟩
      subst hwo
      go_loopw [8, 9] (fun v i wx => ∃ (k : Nat) (q : Option Addr) (cc : Nat), k ≤ 16 ∧ i = .int .i64 k ∧ v = .slice q (2 * k) cc ∧ wx.ownsRow wo.heap.size 5 1 (.slice q (2 * k) cc) (2 * k) ((prtB t k).map (Value.int .u8)) ∧ Below wo.heap.size wo wx)
        (fun _ i _ => 16 - (intOf i).toNat)
      case atStart => exact ⟨0, _, 0, by omega, rfl, rfl, hown0, hb0⟩
      case round =>
        clear hown0 hb0
        obtain ⟨k, q, cc, hk, rfl, rfl, hown, hbel⟩ := hrel
        by_cases hlt : k < 16
        · have hlt' : (k : Int) < 16 := by omega
          have HS : Hid (prtB t k ++ [t k % 256, t k / 256 % 256] = prtB t (k + 1)) := prtB_step t k
          have hx := htr k
          have hT0 := HC.out wr.drew k hlt (below_on hbel ((Below.refl _ _).drew))
          replace hown := owns_below hown (Below.refl wr.heap.size wr).drew
          replace hbel := below_on hbel ((Below.refl wr.heap.size wr).drew)
          have HK : Hid (∀ X, Below wo.heap.size wo X → X.cell? ⟨GT, k, none⟩ = some (.int .i64 (t k))) := fun X hX => HC.out X k hlt hX
          generalize t k = x at HS hx hT0 HK
          obtain ⟨lo, hlo⟩ : ∃ lo, lo = x % 256 := ⟨_, rfl⟩
          obtain ⟨x8, hx8⟩ : ∃ x8, x8 = x / 256 := ⟨_, rfl⟩
          have ex8 : x / 256 = x8 := hx8.symm
          obtain ⟨hi', hhi⟩ : ∃ hi', hi' = x8 % 256 := ⟨_, rfl⟩
          have ea := and_255Z x
          have eb := and_255Z x8
          rw [← hlo] at ea HS
          rw [← hhi] at eb
          rw [← hx8, ← hhi] at HS
          have llo : 0 ≤ lo ∧ lo < 256 := by omega
          have lhi : 0 ≤ hi' ∧ hi' < 256 := by omega
          have wl : IntKind.u8.wrap lo = lo := by rw [IntKind.wrap_u8]; omega
          have wh : IntKind.u8.wrap hi' = hi' := by rw [IntKind.wrap_u8]; omega
          have ml : lo % 256 = lo := by omega
          have mh : hi' % 256 = hi' := by omega
          have h2k : 2 * (k + 1) = 2 * k + 2 := by omega
          clear hlo hx8 hhi
          go_wp2_with (fail)
          refine wp_region_noPanic ?_
          refine wp_region_T 15 (fun X => X.cell? ⟨GT, k, none⟩ = some (.int .i64 x)) (fun _ => True) (by kernel_rfl) ?_
          generalize wr.drew = wX at hown hbel hT0 ⊢
          refine anyT_takeT (i := 0) (v := .slice q (2 * k) cc) rfl (by kernel_rfl) (by kernel_rfl) (by kernel_rfl) (by kernel_rfl) (fun _ _ _ h => h) (Or.inl ⟨by rfl, fun X _ => by go_simp⟩) hT0 (fun _ => trivial) ?_
          simp only [Act.put, List.getElem_toArray, List.getElem_cons_zero, List.setIfInBounds_toArray, List.set_cons_zero, List.set_cons_succ]
          refine anyT_takeT (i := 1) (v := .int .i64 (k : Int)) rfl (by kernel_rfl) (by kernel_rfl) (by kernel_rfl) (by kernel_rfl) (fun _ _ _ h => h) (Or.inl ⟨by rfl, fun X _ => by go_simp⟩) hT0 (fun _ => trivial) ?_
          simp only [Act.put, List.getElem_toArray, List.getElem_cons_zero, List.getElem_cons_succ, List.setIfInBounds_toArray, List.set_cons_zero, List.set_cons_succ]
          refine anyT_takeT (i := 2) (v := .pointer (some ⟨GT, k, none⟩)) rfl (by kernel_rfl) (by kernel_rfl) (by kernel_rfl) (by kernel_rfl) (fun _ _ _ h => h) (Or.inl ⟨by rfl, fun X _ => by go_simp⟩) hT0 (fun _ => trivial) ?_
          simp only [Act.put, List.getElem_toArray, List.getElem_cons_zero, List.getElem_cons_succ, List.setIfInBounds_toArray, List.set_cons_zero, List.set_cons_succ]
          refine anyT_takeT (i := 3) (v := .int .i64 x) rfl (by kernel_rfl) (by kernel_rfl) (by kernel_rfl) (by kernel_rfl) (fun _ _ _ h => h) (Or.inl ⟨by rfl, fun X hSw => by (try dsimp only at hSw); go_simp⟩) hT0 (fun _ => trivial) ?_
          simp only [Act.put, List.getElem_toArray, List.getElem_cons_zero, List.getElem_cons_succ, List.setIfInBounds_toArray, List.set_cons_zero, List.set_cons_succ]
          refine anyT_takeT (i := 4) (v := .int .i64 lo) rfl (by kernel_rfl) (by kernel_rfl) (by kernel_rfl) (by kernel_rfl) (fun _ _ _ h => h) (Or.inl ⟨by rfl, fun X _ => by go_simp⟩) hT0 (fun _ => trivial) ?_
          simp only [Act.put, List.getElem_toArray, List.getElem_cons_zero, List.getElem_cons_succ, List.setIfInBounds_toArray, List.set_cons_zero, List.set_cons_succ]
          refine anyT_takeT (i := 5) (v := .int .u8 lo) rfl (by kernel_rfl) (by kernel_rfl) (by kernel_rfl) (by kernel_rfl) (fun _ _ _ h => h) (Or.inl ⟨by rfl, fun X _ => by go_simp⟩) hT0 (fun _ => trivial) ?_
          simp only [Act.put, List.getElem_toArray, List.getElem_cons_zero, List.getElem_cons_succ, List.setIfInBounds_toArray, List.set_cons_zero, List.set_cons_succ]
          refine anyT_takeT (i := 6) (v := .int .i64 (k : Int)) rfl (by kernel_rfl) (by kernel_rfl) (by kernel_rfl) (by kernel_rfl) (fun _ _ _ h => h) (Or.inl ⟨by rfl, fun X _ => by go_simp⟩) hT0 (fun _ => trivial) ?_
          simp only [Act.put, List.getElem_toArray, List.getElem_cons_zero, List.getElem_cons_succ, List.setIfInBounds_toArray, List.set_cons_zero, List.set_cons_succ]
          refine anyT_takeT (i := 7) (v := .pointer (some ⟨GT, k, none⟩)) rfl (by kernel_rfl) (by kernel_rfl) (by kernel_rfl) (by kernel_rfl) (fun _ _ _ h => h) (Or.inl ⟨by rfl, fun X _ => by go_simp⟩) hT0 (fun _ => trivial) ?_
          simp only [Act.put, List.getElem_toArray, List.getElem_cons_zero, List.getElem_cons_succ, List.setIfInBounds_toArray, List.set_cons_zero, List.set_cons_succ]
          refine anyT_takeT (i := 8) (v := .int .i64 x) rfl (by kernel_rfl) (by kernel_rfl) (by kernel_rfl) (by kernel_rfl) (fun _ _ _ h => h) (Or.inl ⟨by rfl, fun X hSw => by (try dsimp only at hSw); go_simp⟩) hT0 (fun _ => trivial) ?_
          simp only [Act.put, List.getElem_toArray, List.getElem_cons_zero, List.getElem_cons_succ, List.setIfInBounds_toArray, List.set_cons_zero, List.set_cons_succ]
          refine anyT_takeT (i := 9) (v := .int .i64 x8) rfl (by kernel_rfl) (by kernel_rfl) (by kernel_rfl) (by kernel_rfl) (fun _ _ _ h => h) (Or.inl ⟨by rfl, fun X _ => by go_simp⟩) hT0 (fun _ => trivial) ?_
          simp only [Act.put, List.getElem_toArray, List.getElem_cons_zero, List.getElem_cons_succ, List.setIfInBounds_toArray, List.set_cons_zero, List.set_cons_succ]
          refine anyT_takeT (i := 10) (v := .int .i64 hi') rfl (by kernel_rfl) (by kernel_rfl) (by kernel_rfl) (by kernel_rfl) (fun _ _ _ h => h) (Or.inl ⟨by rfl, fun X _ => by go_simp⟩) hT0 (fun _ => trivial) ?_
          simp only [Act.put, List.getElem_toArray, List.getElem_cons_zero, List.getElem_cons_succ, List.setIfInBounds_toArray, List.set_cons_zero, List.set_cons_succ]
          refine anyT_takeT (i := 11) (v := .int .u8 hi') rfl (by kernel_rfl) (by kernel_rfl) (by kernel_rfl) (by kernel_rfl) (fun _ _ _ h => h) (Or.inl ⟨by rfl, fun X _ => by go_simp⟩) hT0 (fun _ => trivial) ?_
          simp only [Act.put, List.getElem_toArray, List.getElem_cons_zero, List.getElem_cons_succ, List.setIfInBounds_toArray, List.set_cons_zero, List.set_cons_succ]
          have bB : Below wX.heap.size wX (wX.alloc (.cells #[.int .u8 lo, .int .u8 hi'] 5)) := (Below.refl _ _).alloc (Nat.le_refl _) _
          have hT1 := HK.out _ (below_on hbel bB)
          refine anyT_one (i := 12) (by kernel_rfl) rfl (fun K hK => ?_)
          go_simp
          refine hK.out _ _ hT1 (fun _ => trivial) ?_
          clear hK K
          have hin2 : BytesIn (wX.alloc (.cells #[.int .u8 lo, .int .u8 hi'] 5)) (some ⟨wX.heap.size, 0, none⟩) 2 [lo, hi'] := owns_in (base := wX.heap.size) (e := 5) (c := 2) ⟨rfl, .inr ⟨wX.heap.size, 2, _, rfl, Nat.le_refl _, heap_alloc_new wX _, Nat.le_refl _, by unfold maxLen; omega, rfl, rfl⟩⟩
          have hsz2 := (below_on hbel bB).size
          refine anyT_one (i := 13) (by kernel_rfl) rfl (fun K hK => ?_)
          refine step_spread hj hy0 hy1 hy2 (.tmp 74) (.tmp 86) 22 Try.underlying22 (owns_below hown bB) hin2 rfl (by decide) (by omega) (by omega) hsz2 (by rfl) (by rfl) (by rfl) (by rfl) ?_
          intro gn cn wn ho hgn hbn
          rw [HS.out, ← h2k] at ho
          have hbel' := (below_on hbel bB).trans hbn
          refine hK.out _ _ (HK.out _ hbel') (fun _ => trivial) ?_
          clear hK K
          have hT0 := HK.out _ hbel'
          try rw [← h2k]
          refine anyT_takeT (i := 14) (v := .slice (some ⟨gn, 0, none⟩) (2 * (k + 1)) cn) rfl (by kernel_rfl) (by kernel_rfl) (by kernel_rfl) (by kernel_rfl) (fun _ _ _ h => h) (Or.inl ⟨by rfl, fun X _ => by go_simp⟩) hT0 (fun _ => trivial) ?_
          simp only [Act.put, List.getElem_toArray, List.getElem_cons_zero, List.getElem_cons_succ, List.setIfInBounds_toArray, List.set_cons_zero, List.set_cons_succ]
          refine anyT_done (by kernel_rfl) ?_ _
          refine NoPanic.normal ?_
          clear hT0 hT1 hown hin2 bB hbel
          go_wp2_with (fail)
          go_roundw
          case rel => exact ⟨k + 1, _, cn, by omega, by go_num, rfl, ho, hbel'⟩
          case measure => simp [intOf]; omega
        · obtain rfl : k = 16 := by omega
          have hno : ¬ ((16 : Nat) : Int) < 16 := by omega
          go_wp2_with (fail)
          go_ret
          rw [ht.out] at hown
          exact ⟨_, _, rfl, .of (owns_mono hown hsw), below_on bel hbel⟩

end Go.Proofs.Ytghoibggmddkmao
