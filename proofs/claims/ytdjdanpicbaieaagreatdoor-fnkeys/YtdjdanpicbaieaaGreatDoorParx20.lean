/-
  What the specification's l8Bytes answers: what is left of a number, as 32 bytes. Condition: parts that are not too great.
  What the specification's FieldAdd, FieldSub, FieldMul, FieldInv and FieldOf answer at whatever bytes: 32 bytes of what is left by p, or nothing. Condition: bytes all.
  What is left by p, read again: the number itself; and what follows for sums, products and inverses. Plain laws of whole numbers.
  The ladder of a point by whole numbers, and by numbers of 16 parts: plain laws.
  What Clamp answers, the specification's and the program's, at whatever bytes: 32 bytes, clamped, or nothing. Condition: bytes all.
  What the specification's l9Ladder answers: the bytes of the point's number. Conditions: 32 bytes; parts of 16 bits or nearly so.
  What the specification's l9Ladder answers: the bytes of the point's number. Conditions: 32 bytes; parts of 16 bits or nearly so.
  Numbers of four parts of 64 bits, and sums told part by part with what goes over: plain laws of whole numbers.
-/
import Derived.Test.YtdjdanpicbaieaaGreatDoorParx18
import Derived.Test.YtdjdanpicbaieaaGreatDoorParx19
import Derived.Test.YtdjdanpicbaieaaGreatDoorParx02
import Derived.Test.YtdjdanpicbaieaaGreatDoorParx01
namespace Go.Proofs.YtdjdanpicbaieaaGreatDoor
open Go.RowKit

theorem and_maskZ (k : Nat) (hk : k ≤ 32) (v : Int) : bits .and .i64 v ((2 ^ k - 1 : Nat) : Int) = v % (2 ^ k : Nat) := by
  have e : bits .and .i64 v ((2 ^ k - 1 : Nat) : Int) = IntKind.i64.wrap ((BitVec.ofInt 64 v &&& BitVec.ofInt 64 ((2 ^ k - 1 : Nat) : Int)).toNat : Int) := rfl
  have e1 : (BitVec.ofInt 64 v).toNat = (v % 18446744073709551616).toNat := BitVec.toNat_ofInt v
  have hp : 2 ^ k ≤ 4294967296 := Nat.le_trans (Nat.pow_le_pow_right (by decide) hk) (by decide)
  have hp0 : 0 < 2 ^ k := Nat.two_pow_pos k
  have e2 : (BitVec.ofInt 64 ((2 ^ k - 1 : Nat) : Int)).toNat = 2 ^ k - 1 := by rw [BitVec.toNat_ofInt]; omega
  have hd : ((2 ^ k : Nat) : Int) ∣ 18446744073709551616 := by
    have : 2 ^ k ∣ 2 ^ 64 := Nat.pow_dvd_pow 2 (by omega)
    exact Int.ofNat_dvd.2 this
  have e3 : (((v % 18446744073709551616).toNat % 2 ^ k : Nat) : Int) = v % (2 ^ k : Nat) := by
    rw [Int.natCast_emod, Int.toNat_of_nonneg (by omega), Int.emod_emod_of_dvd v hd]
  rw [e, BitVec.toNat_and, e1, e2, Nat.and_two_pow_sub_one_eq_mod, e3, IntKind.wrap_i64]
  have h1 : 0 ≤ v % ((2 ^ k : Nat) : Int) := Int.emod_nonneg _ (by omega)
  have h2 : v % ((2 ^ k : Nat) : Int) < ((2 ^ k : Nat) : Int) := Int.emod_lt_of_pos _ (by omega)
  omega
theorem and_65535Z (v : Int) : bits .and .i64 v 65535 = v % 65536 := and_maskZ 16 (by decide) v
theorem and_255Z (v : Int) : bits .and .i64 v 255 = v % 256 := and_maskZ 8 (by decide) v
theorem and_1Z (v : Int) : bits .and .i64 v 1 = v % 2 := and_maskZ 1 (by decide) v
/-- The parts in the midst of a taking away: i - 1 are done. -/
def dwnK (t : Nat → Int) (i j : Nat) : Int := if j + 1 < i then digZ (dffZ t) j else if j + 1 = i then dffZ t j + carZ (dffZ t) j else t j
theorem raw_range {t : Nat → Int} (ht : ∀ i, 0 ≤ t i ∧ t i < 65536) (j : Nat) : -65536 ≤ dffZ t j + carZ (dffZ t) j ∧ dffZ t j + carZ (dffZ t) j ≤ 32768 ∨ j = 0 := by
  by_cases h0 : j = 0
  · exact .inr h0
  · refine .inl ?_
    have hc := dff_car ht j
    have h := ht j
    have hp : 32767 ≤ prtZ j ∧ prtZ j ≤ 65535 := by
      unfold prtZ
      split
      · omega
      · split <;> omega
    have hd : dffZ t j = t j - prtZ j := rfl
    omega
theorem raw_le {t : Nat → Int} (ht : ∀ i, 0 ≤ t i ∧ t i < 65536) (j : Nat) : -65536 ≤ dffZ t j + carZ (dffZ t) j ∧ dffZ t j + carZ (dffZ t) j ≤ 32768 := by
  rcases raw_range ht j with h | h
  · exact h
  · subst h
    have h0 := ht 0
    have hd : dffZ t 0 = t 0 - 65517 := rfl
    have hc : carZ (dffZ t) 0 = 0 := rfl
    omega
def itZ (t : Nat → Int) : Nat → Nat → Int
  | 0 => t
  | k + 1 => lssZ (itZ t k)
theorem itZ_range {t : Nat → Int} (ht : ∀ i, 0 ≤ t i ∧ t i < 65536) : ∀ k i, 0 ≤ itZ t k i ∧ itZ t k i < 65536
  | 0 => ht
  | k + 1 => lss_range (itZ_range ht k)

set_option maxRecDepth 100000 in
set_option maxHeartbeats 8000000 in
theorem l8Bytes_any (f : Nat → Int) (w : World) (h1 : ∀ i, -140737488355328 ≤ f i) (h2 : ∀ i, f i ≤ 140737488355328) :
    Calls Tryz.prog 123 #[.agg (zV f 16).toArray] w fun e w' => ∃ p' c', e = .returned (.slice p' 32 c') ∧ Own 5 w' w.heap.size w'.heap.size (.slice p' 32 c') 32 (prtB (redZ f) 16) ∧ Below w.heap.size w w' := by
  have hz := (zero_of_info infoZ16).1
  have hsz0 := (zero_of_info infoZ16).2
  have HSZ : Hid (∀ g : Nat → Int, (Tryz.prog.info? 108).map (·.size) = some (zV g 16).length ∧ (Tryz.prog.info? 108).map (·.size) = some (zV g 16).toArray.size ∧ (zV g 16).toArray.size = 16) := fun g => by
    have e : (zV g 16).toArray.size = 16 := by simp [zV_length]
    exact ⟨by rw [zV_length]; exact hsz0, by rw [e]; exact hsz0, e⟩
  have HM : Hid (∀ (X : World) (n : Nat), n ≤ X.heap.size → RowZ 108 16 (X.alloc (.cells (zV (fun _ => 0) 16).toArray 108)) n X.heap.size (fun _ => 0)) := fun X n hX => RowZ.made X 108 16 n (fun _ => 0) (by decide) hX
  have m0 := RowZ.made w 108 16 w.heap.size f (by decide) (Nat.le_refl _)
  obtain ⟨As, hAs⟩ : ∃ As, As = zV f 16 := ⟨_, rfl⟩
  have hsA := (HSZ.out f).1
  have hra0 := m0.range
  rw [← hAs] at m0 hsA hra0 ⊢
  have ba : Below w.heap.size w (w.alloc (.cells As.toArray 108)) := (Below.refl _ _).alloc (Nat.le_refl _) _
  obtain ⟨Z, hZ⟩ : ∃ Z, Z = (zV (fun _ => 0) 16).toArray := ⟨_, rfl⟩
  rw [← hZ] at hz
  simp only [← hZ] at HM
  clear hZ
  have hh := cry_head (f := f) (M := 2147516417) (fun i => by have := h1 i; omega) (fun i => by have := h2 i; omega) (by omega)
  have h2nd := cry_twice h1 h2
  have C1 := fun X => l8Carry_any f X h1 h2
  have C2 := fun X => l8Carry_any (cryZ f) X (fun i => by
    by_cases h : i = 0
    · subst h; omega
    · have := cryZ_tail f i h; omega) (fun i => by
    by_cases h : i = 0
    · subst h; omega
    · have := cryZ_tail f i h; omega)
  have C3 := fun X => l8Carry_any (cryZ (cryZ f)) X (fun i => by
    by_cases h : i = 0
    · subst h; omega
    · have := h2nd.1 i h; omega) (fun i => by
    by_cases h : i = 0
    · subst h; omega
    · have := h2nd.1 i h; omega)
  have hT := cry_thrice h1 h2
  have HR : Hid (redZ f = itZ (cryZ (cryZ (cryZ f))) 2) := rfl
  rw [← hAs] at C1
  rw [HR.out]
  clear hh h2nd h1 h2 HR
  generalize cryZ (cryZ (cryZ f)) = T at C3 hT
  replace hAs : Hid (As = zV f 16) := hAs
  clear m0
  go_enter Tryz.func123, Tryz.ntmps123
  go_wp2_with (refine wpList_load_mid rfl 108 _ rfl w.heap.size 0 rfl As _ hra0 Tryz.underlying108 rfl hsA ?_)
  refine (C1 _).mono ?_
  rintro e w1 ⟨rfl, b1⟩
  go_wp2_with (fail)
  refine (C2 _).mono ?_
  rintro e w2 ⟨rfl, b2⟩
  go_wp2_with (fail)
  refine (C3 _).mono ?_
  rintro e w3 ⟨rfl, b3⟩
  have bel3 := below_on (below_on (below_on ba b1) b2) b3
  clear C1 C2 C3 b1 b2 b3 ba hra0 hsA hAs
  have mT := HM.out w3 w.heap.size bel3.size
  have bT : Below w3.heap.size w3 (w3.alloc (.cells Z 108)) := (Below.refl _ _).alloc (Nat.le_refl _) _
  have pT := mT.put (f' := T)
  have hs2 := (HSZ.out T).2.1
  have hs3 := (HSZ.out T).2.2
  have hoT := zV_one T 16
  have hthT : (w3.alloc (.cells Z 108)).there w3.heap.size 0 (zV T 16).toArray.size := by rw [hs3]; exact mT.there
  have bel4 := (below_on bel3 bT).grown pT.2 (below_on bel3 bT).size (fun k hk => by cases hk; exact bel3.size)
  have rT := pT.1
  obtain ⟨Ts, hTs⟩ : ∃ Ts, Ts = zV T 16 := ⟨_, rfl⟩
  rw [← hTs] at hs2 hoT hthT bel4 rT ⊢
  clear hTs pT mT bT hs3
  go_wp2_with (refine wpList_store_mid rfl 108 _ _ rfl w3.heap.size 0 Ts.toArray rfl rfl hthT hs2 (all_oneCell_toArray hoT) ?_)
  obtain ⟨GT, hGT⟩ : ∃ GT, GT = w3.heap.size := ⟨_, rfl⟩
  have hloT : w.heap.size ≤ GT := by rw [hGT]; exact bel3.size
  rw [← hGT] at rT bel4 ⊢
  generalize (w3.alloc (.cells Z 108)).setCells GT 0 Ts = wb at rT bel4 ⊢
  clear hthT hs2 hoT bel3 hGT
  go_loopw [4] (fun i wr => ∃ k : Nat, k ≤ 2 ∧ i = .int .i64 k ∧ RowZ 108 16 wr w.heap.size GT (itZ T k) ∧ Below w.heap.size w wr)
    (fun i _ => 2 - (intOf i).toNat)
  case atStart => exact ⟨0, by omega, rfl, rT, bel4⟩
  case round =>
    clear rT bel4
    obtain ⟨k, hk, rfl, rT, bel⟩ := hrel
    by_cases hlt : k < 2
    · have hlt' : (k : Int) < 2 := by omega
      have htr := itZ_range hT k
      have HI : Hid (lssZ (itZ T k) = itZ T (k + 1)) := rfl
      generalize itZ T k = t at rT htr HI
      have hrt := rT.range
      have hst := (HSZ.out t).1
      have hst2 := (HSZ.out t).2.1
      have hst3 := (HSZ.out t).2.2
      have hot := zV_one t 16
      have mM := HM.out wr w.heap.size bel.size
      have bM : Below wr.heap.size wr (wr.alloc (.cells Z 108)) := (Below.refl _ _).alloc (Nat.le_refl _) _
      have hthM : (wr.alloc (.cells Z 108)).there wr.heap.size 0 (zV t 16).toArray.size := by rw [hst3]; exact mM.there
      have pM := mM.put (f' := t)
      have hlTw := rT.lt.2
      have rT2 := (rT.below bM).kept pM.2 (Nat.ne_of_lt hlTw)
      have bel2 := (below_on bel bM).grown pM.2 (below_on bel bM).size (fun k hk => by cases hk; exact bel.size)
      have rM := pM.1
      obtain ⟨GM, hGM⟩ : ∃ GM, GM = wr.heap.size := ⟨_, rfl⟩
      have hloM : w.heap.size ≤ GM := by rw [hGM]; exact bel.size
      have hneM : GT ≠ GM := by rw [hGM]; exact Nat.ne_of_lt hlTw
      obtain ⟨Ss, hSs⟩ : ∃ Ss, Ss = zV t 16 := ⟨_, rfl⟩
      rw [← hSs] at hrt hst hst2 hot hthM rT2 bel2 rM
      clear hSs pM mM bM hst3 rT bel
      -- m[0]
      have c0 := rT2.cell 0 (by omega)
      have d0 := rM.cell 0 (by omega)
      have g0 := rM.frozen 0
      have r0 := rM.set 0 (dffZ t 0)
      have e0 : dffZ t 0 = t 0 - 65517 := rfl
      rw [e0] at r0
      have l0 := htr 0
      have rT3 := rT2.kept r0.2 (by rw [← hGM]; exact hneM)
      have bel3 := bel2.grown r0.2 bel2.size (fun k hk => by cases hk; rw [← hGM]; exact hloM)
      have rM3 : RowZ 108 16 _ w.heap.size wr.heap.size (dwnK t 1) := r0.1.congr fun i hi => by
        unfold dwnK
        by_cases a1 : i = 0
        · subst a1
          rw [if_pos rfl, if_neg (by omega), if_pos (by omega), e0]
          simp [carZ]
        · rw [if_neg a1, if_neg (by omega), if_neg (by omega)]
      generalize t 0 = t0 at c0 l0 r0 rT3 bel3 rM3 d0
      obtain ⟨z0, hz0⟩ : ∃ z0, z0 = t0 - 65517 := ⟨_, rfl⟩
      rw [← hz0] at rT3 bel3 rM3
      have ez0 : t0 - 65517 = z0 := hz0.symm
      clear r0 e0 hz0 rM
      go_wp2_with (first | (refine wpList_load_mid rfl 108 _ rfl GT 0 rfl Ss _ hrt Tryz.underlying108 rfl hst ?_) | (refine wpList_store_mid rfl 108 _ _ rfl wr.heap.size 0 Ss.toArray rfl rfl hthM hst2 (all_oneCell_toArray hot) ?_))
      rw [← hGM] at rT3 bel3 rM3 ⊢
      generalize ((wr.alloc (.cells Z 108)).setCells GM 0 Ss).setCell ⟨GM, 0, none⟩ (.int .i64 z0) = wm at rT3 bel3 rM3 ⊢
      clear hGM hthM hst hst2 hot hrt rT2 bel2 c0 d0 g0 l0 ez0 hlTw
      go_loopw [6] (fun i wx => ∃ j : Nat, 1 ≤ j ∧ j ≤ 15 ∧ i = .int .i64 j ∧ RowZ 108 16 wx w.heap.size GM (dwnK t j) ∧ RowZ 108 16 wx w.heap.size GT t ∧ Below w.heap.size w wx)
        (fun i _ => 15 - (intOf i).toNat)
      case atStart => exact ⟨1, by omega, by omega, rfl, rM3, rT3, bel3⟩
      case round =>
        clear rM3 rT3 bel3
        obtain ⟨j, hj1, hj2, rfl, rM, rT, bel⟩ := hrel
        by_cases hlj : j < 15
        · have hlj' : (j : Int) < 15 := by omega
          have hlj6 : (j : Int) < 16 := by omega
          obtain ⟨jp, hjp⟩ : ∃ jp : Nat, jp = j - 1 := ⟨_, rfl⟩
          have ejp : (j : Int) - 1 = (jp : Int) := by omega
          have ljp : (jp : Int) < 16 := by omega
          have cT := rT.cell j (by omega)
          have cM := rM.cell jp (by omega)
          have eM : dwnK t j jp = dffZ t jp + carZ (dffZ t) jp := by unfold dwnK; rw [if_neg (by omega), if_pos (by omega)]
          rw [eM] at cM
          have dM := rM.cell j (by omega)
          have fM := rM.frozen j
          have lr := raw_le htr jp
          have lt := htr j
          have hq := dff_car htr j
          have HQ : carZ (dffZ t) j = (dffZ t jp + carZ (dffZ t) jp) / 65536 := by
            have : j = jp + 1 := by omega
            rw [this]
            rfl
          have HD : digZ (dffZ t) jp = (dffZ t jp + carZ (dffZ t) jp) % 65536 := rfl
          have HV : dffZ t j = t j - 65535 := by
            unfold dffZ prtZ
            rw [if_neg (by omega), if_neg (by omega)]
          have r1 := rM.set j (dffZ t j + carZ (dffZ t) j)
          have c2 := r1.1.cell jp (by omega)
          have e2 : (if jp = j then dffZ t j + carZ (dffZ t) j else dwnK t j jp) = dffZ t jp + carZ (dffZ t) jp := by rw [if_neg (by omega), eM]
          rw [e2] at c2
          have f2 := r1.1.frozen jp
          have r2 := r1.1.set jp (digZ (dffZ t) jp)
          have HF : RowZ 108 16 _ w.heap.size GM (dwnK t (j + 1)) := r2.1.congr fun i hi => by
            unfold dwnK
            by_cases a1 : i = jp
            · subst a1
              rw [if_pos rfl, if_pos (by omega)]
            · rw [if_neg a1]
              by_cases a2 : i = j
              · subst a2
                rw [if_pos rfl, if_neg (by omega), if_pos rfl]
              · rw [if_neg a2]
                by_cases a3 : i + 1 < j
                · rw [if_pos a3, if_pos (by omega)]
                · rw [if_neg a3, if_neg (by omega), if_neg (by omega), if_neg (by omega)]
          have rT' := (rT.kept r1.2 hneM).kept r2.2 hneM
          have bel' := (bel.grown r1.2 bel.size (fun k hk => by cases hk; exact hloM)).grown r2.2 (Nat.le_trans bel.size r1.2.size) (fun k hk => by cases hk; exact hloM)
          rw [HD] at HF rT' bel'
          rw [HQ] at hq HF rT' bel' c2 f2
          rw [HV] at HF rT' bel' c2 f2
          obtain ⟨u, hu⟩ : ∃ u, u = dffZ t jp + carZ (dffZ t) jp := ⟨_, rfl⟩
          rw [← hu] at cM lr hq HF rT' bel' c2 f2
          generalize t j = x at cT lt HF rT' bel' c2 f2
          obtain ⟨x', hx'⟩ : ∃ x', x' = x - 65535 := ⟨_, rfl⟩
          have ex : x - 65535 = x' := hx'.symm
          obtain ⟨q, hqe⟩ : ∃ q, q = u / 65536 := ⟨_, rfl⟩
          have eq : u / 65536 = q := hqe.symm
          obtain ⟨b, hb'⟩ : ∃ b, b = q % 2 := ⟨_, rfl⟩
          have eb := and_1Z q
          rw [← hb'] at eb
          obtain ⟨v, hv⟩ : ∃ v, v = x' - b := ⟨_, rfl⟩
          have ev : x' - b = v := hv.symm
          have ed := and_65535Z u
          obtain ⟨d, hd⟩ : ∃ d, d = u % 65536 := ⟨_, rfl⟩
          rw [← hd] at ed HF rT' bel'
          rw [eq] at hq HF rT' bel' c2 f2
          rw [ex, show x' + q = v by omega] at HF rT' bel' c2 f2
          have lx' : -65535 ≤ x' ∧ x' ≤ 1 := by omega
          have lb : 0 ≤ b ∧ b ≤ 1 := by omega
          clear r1 r2 rM rT bel HQ HD HV eM e2 hu hx' hqe hb' hv hd hjp
          go_wp2_with (fail)
          go_region
          all_goals
            go_wp2
            go_roundw
            case rel => exact ⟨j + 1, by omega, by omega, by go_num, HF, rT', ⟨bel'.os, bel'.tape, bel'.output, bel'.size, bel'.block⟩⟩
            case measure => simp [intOf]; omega
        · obtain rfl : j = 15 := by omega
          have hnl : ¬ ((15 : Nat) : Int) < 15 := by omega
          have cT := rT.cell 15 (by omega)
          have cM := rM.cell 14 (by omega)
          have eM : dwnK t 15 14 = dffZ t 14 + carZ (dffZ t) 14 := by unfold dwnK; rw [if_neg (by omega), if_pos (by omega)]
          rw [eM] at cM
          have dM := rM.cell 15 (by omega)
          have fM := rM.frozen 15
          have lr := raw_le htr 14
          have lt := htr 15
          have hq := dff_car htr 15
          have HQ : carZ (dffZ t) 15 = (dffZ t 14 + carZ (dffZ t) 14) / 65536 := rfl
          have HD : digZ (dffZ t) 14 = (dffZ t 14 + carZ (dffZ t) 14) % 65536 := rfl
          have HV : topZ t = t 15 - 32767 + carZ (dffZ t) 15 := rfl
          have r1 := rM.set 15 (topZ t)
          have c15 := r1.1.cell 15 (by omega)
          simp only [if_true] at c15
          have c2 := r1.1.cell 14 (by omega)
          have e2 : (if 14 = 15 then topZ t else dwnK t 15 14) = dffZ t 14 + carZ (dffZ t) 14 := by rw [if_neg (by omega), eM]
          rw [e2] at c2
          have f2 := r1.1.frozen 14
          have r2 := r1.1.set 14 (digZ (dffZ t) 14)
          have HF : RowZ 108 16 _ w.heap.size GM (fun i => if i = 15 then topZ t else digZ (dffZ t) i) := r2.1.congr fun i hi => by
            by_cases a1 : i = 14
            · subst a1
              rw [if_pos rfl, if_neg (by omega)]
            · rw [if_neg a1]
              by_cases a2 : i = 15
              · rw [if_pos a2, if_pos a2]
              · rw [if_neg a2, if_neg a2]
                unfold dwnK
                rw [if_pos (by omega)]
          have rT' := (rT.kept r1.2 hneM).kept r2.2 hneM
          have bel' := (bel.grown r1.2 bel.size (fun k hk => by cases hk; exact hloM)).grown r2.2 (Nat.le_trans bel.size r1.2.size) (fun k hk => by cases hk; exact hloM)
          have HN : topZ t < 0 → lssZ t = t := fun h => by funext i; rw [lssZ, if_pos h]
          have HP : ¬ topZ t < 0 → lssZ t = fun i => if i = 15 then topZ t else digZ (dffZ t) i := fun h => by funext i; rw [lssZ, if_neg h]
          obtain ⟨F, hF⟩ : ∃ F : Nat → Int, F = fun i => if i = 15 then topZ t else digZ (dffZ t) i := ⟨_, rfl⟩
          rw [← hF] at HF
          simp only [← hF] at HP
          clear hF
          rw [HD] at rT' bel' HF
          obtain ⟨tp, htp⟩ : ∃ tp, tp = topZ t := ⟨_, rfl⟩
          rw [← htp] at HV rT' bel' HF c15 c2 f2 HN HP
          rw [HQ] at hq HV
          obtain ⟨u, hu⟩ : ∃ u, u = dffZ t 14 + carZ (dffZ t) 14 := ⟨_, rfl⟩
          rw [← hu] at cM lr hq HV rT' bel' HF c2
          obtain ⟨x, hx⟩ : ∃ x, x = t 15 := ⟨_, rfl⟩
          rw [← hx] at cT lt HV
          obtain ⟨x', hx'⟩ : ∃ x', x' = x - 32767 := ⟨_, rfl⟩
          have ex : x - 32767 = x' := hx'.symm
          obtain ⟨q, hqe⟩ : ∃ q, q = u / 65536 := ⟨_, rfl⟩
          have eq : u / 65536 = q := hqe.symm
          obtain ⟨b, hb'⟩ : ∃ b, b = q % 2 := ⟨_, rfl⟩
          have eb := and_1Z q
          rw [← hb'] at eb
          have ev : x' - b = tp := by omega
          obtain ⟨s5, hs5⟩ : ∃ s5, s5 = tp / 65536 := ⟨_, rfl⟩
          have es5 : tp / 65536 = s5 := hs5.symm
          obtain ⟨b5, hb5⟩ : ∃ b5, b5 = s5 % 2 := ⟨_, rfl⟩
          have eb5 := and_1Z s5
          rw [← hb5] at eb5
          have ed := and_65535Z u
          obtain ⟨d, hd⟩ : ∃ d, d = u % 65536 := ⟨_, rfl⟩
          rw [← hd] at ed HF rT' bel'
          have lx' : -32767 ≤ x' ∧ x' ≤ 32768 := by omega
          have lb : 0 ≤ b ∧ b ≤ 1 := by omega
          have ltp : -32768 ≤ tp ∧ tp ≤ 32768 := by omega
          by_cases hbl : tp < 0
          · have z5 : b5 = 1 := by omega
            have HE := HN hbl
            rw [HI.out] at HE
            subst z5
            clear r1 r2 rM rT bel HQ HD HV eM e2 hu hx hx' hqe hb' hd hs5 hb5 htp HN HP
            go_wp2_with (fail)
            go_roundw
            case rel => exact ⟨k + 1, by omega, by go_num, by rw [HE]; exact rT', bel'⟩
            case measure => simp [intOf]; omega
          · have z5 : b5 = 0 := by omega
            have HE := HP hbl
            rw [HI.out] at HE
            subst z5
            have hrF := HF.range
            have hf1 := (HSZ.out F).1
            have hf2 := (HSZ.out F).2.1
            have hf3 := (HSZ.out F).2.2
            have hoF := zV_one F 16
            have pF := rT'.put (f' := F)
            have hthF := rT'.there
            rw [← hf3] at hthF
            have bel9 := bel'.grown pF.2 bel'.size (fun k hk => by cases hk; exact hloT)
            have rT9 := pF.1
            obtain ⟨Fs, hFs⟩ : ∃ Fs, Fs = zV F 16 := ⟨_, rfl⟩
            rw [← hFs] at hrF hf1 hf2 hoF hthF bel9 rT9
            clear r1 r2 rM rT bel HQ HD HV eM e2 hu hx hx' hqe hb' hd hs5 hb5 htp HN HP pF hf3 hFs HF rT' bel'
            go_wp2_with (first | (refine wpList_load_mid rfl 108 _ rfl GM 0 rfl Fs _ hrF Tryz.underlying108 rfl hf1 ?_) | (refine wpList_store_mid rfl 108 _ _ rfl GT 0 Fs.toArray rfl rfl hthF hf2 (all_oneCell_toArray hoF) ?_))
            go_roundw
            case rel => exact ⟨k + 1, by omega, by go_num, by rw [HE]; exact rT9, bel9⟩
            case measure => simp [intOf]; omega
    · obtain rfl : k = 2 := by omega
      have hnl : ¬ ((2 : Nat) : Int) < 2 := by omega
      have htr := itZ_range hT 2
      obtain ⟨t, ht⟩ : ∃ t, t = itZ T 2 := ⟨_, rfl⟩
      rw [← ht] at rT htr
      replace ht : Hid (t = itZ T 2) := ht
      obtain ⟨j0, hj, hy0, hy1, hy2⟩ := info_parts infoByte
      have hsw := bel.size
      have hown0 : (wr.alloc (.cells #[] 5)).ownsRow wr.heap.size 5 1 (.slice (some ⟨wr.heap.size, 0, none⟩) 0 0) 0 ((prtB t 0).map (Value.int .u8)) := World.ownsRow_made wr #[] 0 (Nat.le_refl _) (by unfold maxLen; omega) rfl
      have hb0 : Below wr.heap.size wr (wr.alloc (.cells #[] 5)) := (Below.refl _ _).alloc (Nat.le_refl _) _
      have hlT := rT.lt.2
      have HC : Hid (∀ X i, i < 16 → Below wr.heap.size wr X → X.cell? ⟨GT, i, none⟩ = some (.int .i64 (t i))) := fun X i hi hX => (rT.below hX).cell i hi
      clear rT
      go_wp2_with (fail)
      obtain ⟨wo, hwo⟩ : ∃ wo, wo = wr := ⟨_, rfl⟩
      subst hwo
      go_loopw [8, 9] (fun v i wx => ∃ (k : Nat) (q : Option Addr) (cc : Nat), k ≤ 16 ∧ i = .int .i64 k ∧ v = .slice q (2 * k) cc ∧ wx.ownsRow wo.heap.size 5 1 (.slice q (2 * k) cc) (2 * k) ((prtB t k).map (Value.int .u8)) ∧ Below wo.heap.size wo wx)
        (fun _ i _ => 16 - (intOf i).toNat)
      case atStart => exact ⟨0, _, 0, by omega, rfl, rfl, hown0, hb0⟩
      case round =>
        clear hown0 hb0
        obtain ⟨k, q, cc, hk, rfl, rfl, hown, hbel⟩ := hrel
        by_cases hlt : k < 16
        · have hlt' : (k : Int) < 16 := by omega
          have HS : Hid (prtB t k ++ [t k % 256, t k / 256 % 256] = prtB t (k + 1)) := prtB_step t k
          have hx := htr k
          have hT0 := HC.out wr.drew k hlt (below_on hbel ((Below.refl _ _).drew))
          replace hown := owns_below hown (Below.refl wr.heap.size wr).drew
          replace hbel := below_on hbel ((Below.refl wr.heap.size wr).drew)
          have HK : Hid (∀ X, Below wo.heap.size wo X → X.cell? ⟨GT, k, none⟩ = some (.int .i64 (t k))) := fun X hX => HC.out X k hlt hX
          generalize t k = x at HS hx hT0 HK
          obtain ⟨lo, hlo⟩ : ∃ lo, lo = x % 256 := ⟨_, rfl⟩
          obtain ⟨x8, hx8⟩ : ∃ x8, x8 = x / 256 := ⟨_, rfl⟩
          have ex8 : x / 256 = x8 := hx8.symm
          obtain ⟨hi', hhi⟩ : ∃ hi', hi' = x8 % 256 := ⟨_, rfl⟩
          have ea := and_255Z x
          have eb := and_255Z x8
          rw [← hlo] at ea HS
          rw [← hhi] at eb
          rw [← hx8, ← hhi] at HS
          have llo : 0 ≤ lo ∧ lo < 256 := by omega
          have lhi : 0 ≤ hi' ∧ hi' < 256 := by omega
          have wl : IntKind.u8.wrap lo = lo := by rw [IntKind.wrap_u8]; omega
          have wh : IntKind.u8.wrap hi' = hi' := by rw [IntKind.wrap_u8]; omega
          have ml : lo % 256 = lo := by omega
          have mh : hi' % 256 = hi' := by omega
          have h2k : 2 * (k + 1) = 2 * k + 2 := by omega
          clear hlo hx8 hhi
          go_wp2_with (fail)
          refine wp_region_noPanic ?_
          refine wp_region_T 15 (fun X => X.cell? ⟨GT, k, none⟩ = some (.int .i64 x)) (fun _ => True) (by kernel_rfl) ?_
          generalize wr.drew = wX at hown hbel hT0 ⊢
          refine anyT_takeT (i := 0) (v := .slice q (2 * k) cc) rfl (by kernel_rfl) (by kernel_rfl) (by kernel_rfl) (by kernel_rfl) (fun _ _ _ h => h) (Or.inl ⟨by rfl, fun X _ => by go_simp⟩) hT0 (fun _ => trivial) ?_
          simp only [Act.put, List.getElem_toArray, List.getElem_cons_zero, List.setIfInBounds_toArray, List.set_cons_zero, List.set_cons_succ]
          refine anyT_takeT (i := 1) (v := .int .i64 (k : Int)) rfl (by kernel_rfl) (by kernel_rfl) (by kernel_rfl) (by kernel_rfl) (fun _ _ _ h => h) (Or.inl ⟨by rfl, fun X _ => by go_simp⟩) hT0 (fun _ => trivial) ?_
          simp only [Act.put, List.getElem_toArray, List.getElem_cons_zero, List.getElem_cons_succ, List.setIfInBounds_toArray, List.set_cons_zero, List.set_cons_succ]
          refine anyT_takeT (i := 2) (v := .pointer (some ⟨GT, k, none⟩)) rfl (by kernel_rfl) (by kernel_rfl) (by kernel_rfl) (by kernel_rfl) (fun _ _ _ h => h) (Or.inl ⟨by rfl, fun X _ => by go_simp⟩) hT0 (fun _ => trivial) ?_
          simp only [Act.put, List.getElem_toArray, List.getElem_cons_zero, List.getElem_cons_succ, List.setIfInBounds_toArray, List.set_cons_zero, List.set_cons_succ]
          refine anyT_takeT (i := 3) (v := .int .i64 x) rfl (by kernel_rfl) (by kernel_rfl) (by kernel_rfl) (by kernel_rfl) (fun _ _ _ h => h) (Or.inl ⟨by rfl, fun X hSw => by (try dsimp only at hSw); go_simp⟩) hT0 (fun _ => trivial) ?_
          simp only [Act.put, List.getElem_toArray, List.getElem_cons_zero, List.getElem_cons_succ, List.setIfInBounds_toArray, List.set_cons_zero, List.set_cons_succ]
          refine anyT_takeT (i := 4) (v := .int .i64 lo) rfl (by kernel_rfl) (by kernel_rfl) (by kernel_rfl) (by kernel_rfl) (fun _ _ _ h => h) (Or.inl ⟨by rfl, fun X _ => by go_simp⟩) hT0 (fun _ => trivial) ?_
          simp only [Act.put, List.getElem_toArray, List.getElem_cons_zero, List.getElem_cons_succ, List.setIfInBounds_toArray, List.set_cons_zero, List.set_cons_succ]
          refine anyT_takeT (i := 5) (v := .int .u8 lo) rfl (by kernel_rfl) (by kernel_rfl) (by kernel_rfl) (by kernel_rfl) (fun _ _ _ h => h) (Or.inl ⟨by rfl, fun X _ => by go_simp⟩) hT0 (fun _ => trivial) ?_
          simp only [Act.put, List.getElem_toArray, List.getElem_cons_zero, List.getElem_cons_succ, List.setIfInBounds_toArray, List.set_cons_zero, List.set_cons_succ]
          refine anyT_takeT (i := 6) (v := .int .i64 (k : Int)) rfl (by kernel_rfl) (by kernel_rfl) (by kernel_rfl) (by kernel_rfl) (fun _ _ _ h => h) (Or.inl ⟨by rfl, fun X _ => by go_simp⟩) hT0 (fun _ => trivial) ?_
          simp only [Act.put, List.getElem_toArray, List.getElem_cons_zero, List.getElem_cons_succ, List.setIfInBounds_toArray, List.set_cons_zero, List.set_cons_succ]
          refine anyT_takeT (i := 7) (v := .pointer (some ⟨GT, k, none⟩)) rfl (by kernel_rfl) (by kernel_rfl) (by kernel_rfl) (by kernel_rfl) (fun _ _ _ h => h) (Or.inl ⟨by rfl, fun X _ => by go_simp⟩) hT0 (fun _ => trivial) ?_
          simp only [Act.put, List.getElem_toArray, List.getElem_cons_zero, List.getElem_cons_succ, List.setIfInBounds_toArray, List.set_cons_zero, List.set_cons_succ]
          refine anyT_takeT (i := 8) (v := .int .i64 x) rfl (by kernel_rfl) (by kernel_rfl) (by kernel_rfl) (by kernel_rfl) (fun _ _ _ h => h) (Or.inl ⟨by rfl, fun X hSw => by (try dsimp only at hSw); go_simp⟩) hT0 (fun _ => trivial) ?_
          simp only [Act.put, List.getElem_toArray, List.getElem_cons_zero, List.getElem_cons_succ, List.setIfInBounds_toArray, List.set_cons_zero, List.set_cons_succ]
          refine anyT_takeT (i := 9) (v := .int .i64 x8) rfl (by kernel_rfl) (by kernel_rfl) (by kernel_rfl) (by kernel_rfl) (fun _ _ _ h => h) (Or.inl ⟨by rfl, fun X _ => by go_simp⟩) hT0 (fun _ => trivial) ?_
          simp only [Act.put, List.getElem_toArray, List.getElem_cons_zero, List.getElem_cons_succ, List.setIfInBounds_toArray, List.set_cons_zero, List.set_cons_succ]
          refine anyT_takeT (i := 10) (v := .int .i64 hi') rfl (by kernel_rfl) (by kernel_rfl) (by kernel_rfl) (by kernel_rfl) (fun _ _ _ h => h) (Or.inl ⟨by rfl, fun X _ => by go_simp⟩) hT0 (fun _ => trivial) ?_
          simp only [Act.put, List.getElem_toArray, List.getElem_cons_zero, List.getElem_cons_succ, List.setIfInBounds_toArray, List.set_cons_zero, List.set_cons_succ]
          refine anyT_takeT (i := 11) (v := .int .u8 hi') rfl (by kernel_rfl) (by kernel_rfl) (by kernel_rfl) (by kernel_rfl) (fun _ _ _ h => h) (Or.inl ⟨by rfl, fun X _ => by go_simp⟩) hT0 (fun _ => trivial) ?_
          simp only [Act.put, List.getElem_toArray, List.getElem_cons_zero, List.getElem_cons_succ, List.setIfInBounds_toArray, List.set_cons_zero, List.set_cons_succ]
          have bB : Below wX.heap.size wX (wX.alloc (.cells #[.int .u8 lo, .int .u8 hi'] 5)) := (Below.refl _ _).alloc (Nat.le_refl _) _
          have hT1 := HK.out _ (below_on hbel bB)
          refine anyT_one (i := 12) (by kernel_rfl) rfl (fun K hK => ?_)
          go_simp
          refine hK.out _ _ hT1 (fun _ => trivial) ?_
          clear hK K
          have hin2 : BytesIn (wX.alloc (.cells #[.int .u8 lo, .int .u8 hi'] 5)) (some ⟨wX.heap.size, 0, none⟩) 2 [lo, hi'] := owns_in (base := wX.heap.size) (e := 5) (c := 2) ⟨rfl, .inr ⟨wX.heap.size, 2, _, rfl, Nat.le_refl _, heap_alloc_new wX _, Nat.le_refl _, by unfold maxLen; omega, rfl, rfl⟩⟩
          have hsz2 := (below_on hbel bB).size
          refine anyT_one (i := 13) (by kernel_rfl) rfl (fun K hK => ?_)
          refine step_spread hj hy0 hy1 hy2 (.tmp 74) (.tmp 86) 22 Tryz.underlying22 (owns_below hown bB) hin2 rfl (by decide) (by omega) (by omega) hsz2 (by rfl) (by rfl) (by rfl) (by rfl) ?_
          intro gn cn wn ho hgn hbn
          rw [HS.out, ← h2k] at ho
          have hbel' := (below_on hbel bB).trans hbn
          refine hK.out _ _ (HK.out _ hbel') (fun _ => trivial) ?_
          clear hK K
          have hT0 := HK.out _ hbel'
          try rw [← h2k]
          refine anyT_takeT (i := 14) (v := .slice (some ⟨gn, 0, none⟩) (2 * (k + 1)) cn) rfl (by kernel_rfl) (by kernel_rfl) (by kernel_rfl) (by kernel_rfl) (fun _ _ _ h => h) (Or.inl ⟨by rfl, fun X _ => by go_simp⟩) hT0 (fun _ => trivial) ?_
          simp only [Act.put, List.getElem_toArray, List.getElem_cons_zero, List.getElem_cons_succ, List.setIfInBounds_toArray, List.set_cons_zero, List.set_cons_succ]
          refine anyT_done (by kernel_rfl) ?_ _
          refine NoPanic.normal ?_
          clear hT0 hT1 hown hin2 bB hbel
          go_wp2_with (fail)
          go_roundw
          case rel => exact ⟨k + 1, _, cn, by omega, by go_num, rfl, ho, hbel'⟩
          case measure => simp [intOf]; omega
        · obtain rfl : k = 16 := by omega
          have hno : ¬ ((16 : Nat) : Int) < 16 := by omega
          go_wp2_with (fail)
          go_ret
          rw [ht.out] at hown
          exact ⟨_, _, rfl, .of (owns_mono hown hsw), below_on bel hbel⟩

end Go.Proofs.YtdjdanpicbaieaaGreatDoor

namespace Go.Proofs.YtdjdanpicbaieaaGreatDoor
open Go.RowKit
set_option maxRecDepth 100000

/-- The number of 32 bytes, the highest bit left away. -/
def numF (xs : List Int) : Int := valZ (ofZ xs) 16
def two32 (n m : Nat) : Prop := n = 32 ∧ m = 32
instance (n m : Nat) : Decidable (two32 n m) := inferInstanceAs (Decidable (_ ∧ _))
def fldN (n m : Nat) : Nat := if two32 n m then 32 else 0
/-- The bytes of z, where both are of 32 bytes. -/
def fldL (z : Int) (n m : Nat) : List Int := if two32 n m then numB (z % fldP) else []
theorem fldN_le (n m : Nat) : fldN n m ≤ 32 := by unfold fldN; split <;> omega
theorem numB_length (z : Int) : (numB z).length = 32 := rfl
theorem fldL_length (z : Int) (n m : Nat) : (fldL z n m).length = fldN n m := by
  unfold fldL fldN
  split
  · exact numB_length _
  · rfl
theorem numB_byte (z : Int) : ∀ y ∈ numB z, 0 ≤ y ∧ y < 256 := by
  intro y hy
  simp only [numB, List.mem_flatMap, List.mem_cons, List.not_mem_nil, or_false] at hy
  obtain ⟨i, _, h | h⟩ := hy <;> omega
theorem fldL_byte (z : Int) (n m : Nat) : ∀ y ∈ fldL z n m, 0 ≤ y ∧ y < 256 := by
  unfold fldL
  split
  · exact numB_byte _
  · intro y hy; cases hy
theorem okOf {xs : List Int} (hb : ∀ x ∈ xs, 0 ≤ x ∧ x < 256) : okZ (ofZ xs) := fun i => by
  have := ofZ_range hb i
  omega
theorem okZ_wide {f : Nat → Int} (h : okZ f) : (∀ i, -140737488355328 ≤ f i) ∧ ∀ i, f i ≤ 140737488355328 := ⟨fun i => by have := h i; omega, fun i => by have := h i; omega⟩
theorem invE_val : (fldP - 2).toNat = invE 254 := by
  have := invE_last
  omega

def oneN (n : Nat) : Nat := if n = 32 then 32 else 0
def oneL (z : Int) (n : Nat) : List Int := if n = 32 then numB (z % fldP) else []
theorem oneN_le (n : Nat) : oneN n ≤ 32 := by unfold oneN; split <;> omega
theorem oneL_length (z : Int) (n : Nat) : (oneL z n).length = oneN n := by
  unfold oneL oneN
  split
  · exact numB_length _
  · rfl
theorem oneL_byte (z : Int) (n : Nat) : ∀ y ∈ oneL z n, 0 ≤ y ∧ y < 256 := by
  unfold oneL
  split
  · exact numB_byte _
  · intro y hy; cases hy

end Go.Proofs.YtdjdanpicbaieaaGreatDoor

namespace Go.Proofs.YtdjdanpicbaieaaGreatDoor
set_option maxRecDepth 100000

theorem numB_lo (z : Int) (i : Nat) (hi : i < 16) : (numB z).getD (2 * i) 0 = z / 65536 ^ i % 65536 % 256 := by
  have h : i = 0 ∨ i = 1 ∨ i = 2 ∨ i = 3 ∨ i = 4 ∨ i = 5 ∨ i = 6 ∨ i = 7 ∨ i = 8 ∨ i = 9 ∨ i = 10 ∨ i = 11 ∨ i = 12 ∨ i = 13 ∨ i = 14 ∨ i = 15 := by omega
  rcases h with rfl | rfl | rfl | rfl | rfl | rfl | rfl | rfl | rfl | rfl | rfl | rfl | rfl | rfl | rfl | rfl <;> rfl
theorem numB_hi (z : Int) (i : Nat) (hi : i < 16) : (numB z).getD (2 * i + 1) 0 = z / 65536 ^ i % 65536 / 256 % 256 := by
  have h : i = 0 ∨ i = 1 ∨ i = 2 ∨ i = 3 ∨ i = 4 ∨ i = 5 ∨ i = 6 ∨ i = 7 ∨ i = 8 ∨ i = 9 ∨ i = 10 ∨ i = 11 ∨ i = 12 ∨ i = 13 ∨ i = 14 ∨ i = 15 := by omega
  rcases h with rfl | rfl | rfl | rfl | rfl | rfl | rfl | rfl | rfl | rfl | rfl | rfl | rfl | rfl | rfl | rfl <;> rfl
theorem parts_val (z : Int) : ∀ n, valZ (fun i => z / 65536 ^ i % 65536) n = z % 65536 ^ n
  | 0 => by simp [valZ, Int.emod_one]
  | n + 1 => by
    have hp := powZ_pos n
    rw [valZ, parts_val z n, Int.pow_succ]
    have h1 := Int.mul_ediv_add_emod z (65536 ^ n)
    have h2 := Int.mul_ediv_add_emod (z / 65536 ^ n) 65536
    have e : z = (65536 ^ n * 65536) * (z / 65536 ^ n / 65536) + (z % 65536 ^ n + z / 65536 ^ n % 65536 * 65536 ^ n) := by
      have : 65536 ^ n * (z / 65536 ^ n) = 65536 ^ n * (65536 * (z / 65536 ^ n / 65536)) + 65536 ^ n * (z / 65536 ^ n % 65536) := by rw [← Int.mul_add, h2]
      rw [Int.mul_assoc, Int.mul_comm (z / 65536 ^ n % 65536)]
      omega
    have r1 : 0 ≤ z % 65536 ^ n := Int.emod_nonneg _ (by omega)
    have r2 : z % 65536 ^ n < 65536 ^ n := Int.emod_lt_of_pos _ hp
    have r3 : 0 ≤ z / 65536 ^ n % 65536 := by omega
    have r4 : z / 65536 ^ n % 65536 ≤ 65535 := by omega
    have r5 : 0 ≤ z / 65536 ^ n % 65536 * 65536 ^ n := Int.mul_nonneg r3 (by omega)
    have r6 : z / 65536 ^ n % 65536 * 65536 ^ n ≤ 65535 * 65536 ^ n := Int.mul_le_mul_of_nonneg_right r4 (by omega)
    have k : z % (65536 ^ n * 65536) = (65536 ^ n * 65536 * (z / 65536 ^ n / 65536) + (z % 65536 ^ n + z / 65536 ^ n % 65536 * 65536 ^ n)) % (65536 ^ n * 65536) := congrArg (fun x => x % (65536 ^ n * 65536)) e
    rw [Int.mul_add_emod_self_left, Int.emod_eq_of_lt (a := z % 65536 ^ n + z / 65536 ^ n % 65536 * 65536 ^ n) (by omega) (by omega)] at k
    exact k.symm
theorem numF_numB {z : Int} (h0 : 0 ≤ z) (h1 : z < fldP) : numF (numB z) = z := by
  have hb : (65536 : Int) ^ 16 = 65536 * 65536 ^ 15 := by decide
  have hP : fldP < 32768 * 65536 ^ 15 := by decide
  have h15 : z / 65536 ^ 15 < 32768 := Int.ediv_lt_of_lt_mul (by decide) (by omega)
  have h15' : 0 ≤ z / 65536 ^ 15 := Int.ediv_nonneg h0 (by decide)
  have e : valZ (ofZ (numB z)) 16 = valZ (fun i => z / 65536 ^ i % 65536) 16 := valZ_congr fun i hi => by
    have hp : pairZ (numB z) i = z / 65536 ^ i % 65536 := by
      unfold pairZ
      rw [numB_lo z i hi, numB_hi z i hi]
      omega
    unfold ofZ
    split
    · rename_i h
      subst h
      rw [hp]
      omega
    · exact hp
  rw [numF, e, parts_val, Int.emod_eq_of_lt h0 (by rw [hb]; omega)]
theorem fldP_pos : 0 < fldP := by decide
theorem numF_left (z : Int) : numF (numB (z % fldP)) = z % fldP := numF_numB (Int.emod_nonneg _ (by have := fldP_pos; omega)) (Int.emod_lt_of_pos _ fldP_pos)

/-! ### what follows -/
theorem left_mul (x y : Int) : (x % fldP * y) % fldP = (x * y) % fldP := ((likeP_mod x).mulR y).mod
theorem right_mul (x y : Int) : (x * (y % fldP)) % fldP = (x * y) % fldP := ((likeP_mod y).mulL x).mod
theorem left_add (x y : Int) : (x % fldP + y) % fldP = (x + y) % fldP := ((likeP_mod x).add (likeP.refl y)).mod
theorem both_add (x y : Int) : (x % fldP + y % fldP) % fldP = (x + y) % fldP := ((likeP_mod x).add (likeP_mod y)).mod
theorem left_sub (x y : Int) : (x % fldP - y) % fldP = (x - y) % fldP := ((likeP_mod x).sub (likeP.refl y)).mod
theorem mod_left (x : Int) : x % fldP % fldP = x % fldP := (likeP_mod x).mod
theorem like_pow {a b : Int} (h : likeP a b) : ∀ n, likeP (a ^ n) (b ^ n)
  | 0 => by rw [Int.pow_zero, Int.pow_zero]; exact likeP.refl _
  | n + 1 => by rw [Int.pow_succ, Int.pow_succ]; exact (like_pow h n).mul h
theorem left_pow (x : Int) (n : Nat) : ((x % fldP) ^ n) % fldP = (x ^ n) % fldP := (like_pow (likeP_mod x) n).mod
/-- Fermat's word for p. -/
theorem fermatP (z : Int) (hz : z % fldP ≠ 0) : z ^ ((fldP - 2).toNat + 1) % fldP = 1 := by
  have hpos := fldP_pos
  obtain ⟨n, hn⟩ : ∃ n : Nat, z % fldP = n := ⟨(z % fldP).toNat, by have := Int.emod_nonneg z (show fldP ≠ 0 by omega); omega⟩
  have hP : fldP = ((57896044618658097711785492504343953926634992332820282019728792003956564819949 : Nat) : Int) := rfl
  have hlt : z % fldP < fldP := Int.emod_lt_of_pos _ hpos
  have hn0 : n % 57896044618658097711785492504343953926634992332820282019728792003956564819949 ≠ 0 := by
    rw [Nat.mod_eq_of_lt (by omega)]
    omega
  have hf := prime_n77.2 n hn0
  have he : (fldP - 2).toNat + 1 = 57896044618658097711785492504343953926634992332820282019728792003956564819949 - 1 := by decide
  rw [he, ← left_pow, hn, hP, ← Int.natCast_pow, ← Int.natCast_emod, hf]
  rfl
/-- An inverse's inverse. -/
theorem fermat_back (z : Int) (hz : z % fldP ≠ 0) : ((z ^ (fldP - 2).toNat) ^ (fldP - 2).toNat) % fldP = z % fldP := by
  have h := fermatP z hz
  have hl : likeP (z ^ ((fldP - 2).toNat + 1)) 1 := likeP_of_mod (by rw [h]; decide)
  have e : (z ^ (fldP - 2).toNat) ^ (fldP - 2).toNat = (z ^ ((fldP - 2).toNat + 1)) ^ ((fldP - 2).toNat - 1) * z := by
    rw [← Int.pow_mul, ← Int.pow_mul]
    have : (fldP - 2).toNat * (fldP - 2).toNat = ((fldP - 2).toNat + 1) * ((fldP - 2).toNat - 1) + 1 := by decide
    rw [this, Int.pow_succ]
  rw [e]
  have h2 := (like_pow hl ((fldP - 2).toNat - 1)).mulR z
  rw [Int.one_pow, Int.one_mul] at h2
  exact h2.mod

end Go.Proofs.YtdjdanpicbaieaaGreatDoor

namespace Go.Proofs.YtdjdanpicbaieaaGreatDoor
set_option maxRecDepth 100000

/-- Parts of 16 bits or nearly so. -/
def smZ (f : Nat → Int) : Prop := ∀ i, -65600 ≤ f i ∧ f i ≤ 65600
theorem mulZ_sm {a b : Nat → Int} (ha : okZ a) (hb : okZ b) : smZ (mulZ a b) := fun i => by
  have h := cry_twice (f := fldZ (rwsZ a b 16)) (fun i => (fldZ_le ha hb i).1) (fun i => (fldZ_le ha hb i).2)
  by_cases hi : i = 0
  · subst hi
    have h1 : mulZ a b 0 = cryZ (cryZ (fldZ (rwsZ a b 16))) 0 := rfl
    omega
  · have h1 := h.1 i hi
    have h2 : mulZ a b i = cryZ (cryZ (fldZ (rwsZ a b 16))) i := rfl
    omega
theorem smZ.ok {f : Nat → Int} (h : smZ f) : okZ f := fun i => by have := h i; omega
def addZ (f g : Nat → Int) (i : Nat) : Int := f i + g i
def subZ (f g : Nat → Int) (i : Nat) : Int := f i - g i
theorem add_ok {f g : Nat → Int} (h : smZ f) (k : smZ g) : okZ (addZ f g) := fun i => by have := h i; have := k i; unfold addZ; omega
theorem sub_ok {f g : Nat → Int} (h : smZ f) (k : smZ g) : okZ (subZ f g) := fun i => by have := h i; have := k i; unfold subZ; omega
theorem val_addZ (f g : Nat → Int) : valZ (addZ f g) 16 = valZ f 16 + valZ g 16 := valZ_add f g 16
theorem val_subZ (f g : Nat → Int) : valZ (subZ f g) 16 = valZ f 16 - valZ g 16 := valZ_sub f g 16

/-- x2, x3, z2, z3. -/
structure Lad where
  a : Int
  b : Int
  c : Int
  d : Int
def ladEE (s : Lad) : Int := (s.a + s.c) * (s.a + s.c)
def ladFF (s : Lad) : Int := (s.a - s.c) * (s.a - s.c)
def ladHE (s : Lad) : Int := (s.b - s.d) * (s.a + s.c)
def ladGF (s : Lad) : Int := (s.b + s.d) * (s.a - s.c)
def ladStep (x : Int) (s : Lad) : Lad := ⟨ladEE s * ladFF s, (ladHE s + ladGF s) * (ladHE s + ladGF s), (ladEE s - ladFF s) * (ladEE s + (ladEE s - ladFF s) * 121665), x * ((ladHE s - ladGF s) * (ladHE s - ladGF s))⟩
def ladSw (s : Lad) : Lad := ⟨s.b, s.a, s.d, s.c⟩
def ladIf (t : Bool) (s : Lad) : Lad := if t then ladSw s else s
def likeL (s t : Lad) : Prop := likeP s.a t.a ∧ likeP s.b t.b ∧ likeP s.c t.c ∧ likeP s.d t.d
theorem likeL.refl (s : Lad) : likeL s s := ⟨likeP.refl _, likeP.refl _, likeP.refl _, likeP.refl _⟩
theorem likeL.trans {s t u : Lad} (h : likeL s t) (k : likeL t u) : likeL s u := ⟨h.1.trans k.1, h.2.1.trans k.2.1, h.2.2.1.trans k.2.2.1, h.2.2.2.trans k.2.2.2⟩
theorem likeL.symm {s t : Lad} (h : likeL s t) : likeL t s := ⟨h.1.symm, h.2.1.symm, h.2.2.1.symm, h.2.2.2.symm⟩
theorem likeL.ladIf {s t : Lad} (h : likeL s t) (b : Bool) : likeL (ladIf b s) (ladIf b t) := by
  unfold Go.Proofs.YtdjdanpicbaieaaGreatDoor.ladIf
  cases b
  · exact h
  · exact ⟨h.2.1, h.1, h.2.2.2, h.2.2.1⟩
theorem like_EE {s t : Lad} (h : likeL s t) : likeP (ladEE s) (ladEE t) := (h.1.add h.2.2.1).mul (h.1.add h.2.2.1)
theorem like_FF {s t : Lad} (h : likeL s t) : likeP (ladFF s) (ladFF t) := (h.1.sub h.2.2.1).mul (h.1.sub h.2.2.1)
theorem like_HE {s t : Lad} (h : likeL s t) : likeP (ladHE s) (ladHE t) := (h.2.1.sub h.2.2.2).mul (h.1.add h.2.2.1)
theorem like_GF {s t : Lad} (h : likeL s t) : likeP (ladGF s) (ladGF t) := (h.2.1.add h.2.2.2).mul (h.1.sub h.2.2.1)
theorem like_step {x y : Int} {s t : Lad} (hx : likeP x y) (h : likeL s t) : likeL (ladStep x s) (ladStep y t) :=
  ⟨(like_EE h).mul (like_FF h), ((like_HE h).add (like_GF h)).mul ((like_HE h).add (like_GF h)), ((like_EE h).sub (like_FF h)).mul ((like_EE h).add (((like_EE h).sub (like_FF h)).mulR _)), hx.mul (((like_HE h).sub (like_GF h)).mul ((like_HE h).sub (like_GF h)))⟩
/-- The ladder behind n of its 255 bits, from the highest down. -/
def ladN (bit : Nat → Bool) (x : Int) : Nat → Lad
  | 0 => ⟨1, x, 0, 1⟩
  | n + 1 => ladStep x (ladIf (bit (254 - n) != (if n = 0 then false else bit (255 - n))) (ladN bit x n))
/-- The bit that was met last. -/
def lastB (bit : Nat → Bool) (n : Nat) : Bool := if n = 0 then false else bit (255 - n)
def ladE (bit : Nat → Bool) (x : Int) : Lad := ladIf (bit 0) (ladN bit x 255)
/-- The point's number. -/
def ladZ (bit : Nat → Bool) (x : Int) : Int := (ladE bit x).a * (ladE bit x).c ^ (fldP - 2).toNat % fldP
theorem ladN_like {x y : Int} (hx : likeP x y) (bit : Nat → Bool) : ∀ n, likeL (ladN bit x n) (ladN bit y n)
  | 0 => ⟨likeP.refl _, hx, likeP.refl _, likeP.refl _⟩
  | n + 1 => like_step hx ((ladN_like hx bit n).ladIf _)
theorem ladZ_of {s : Lad} {bit : Nat → Bool} {x : Int} (h : likeL s (ladE bit x)) : s.a * s.c ^ (fldP - 2).toNat % fldP = ladZ bit x := (h.1.mul (like_pow h.2.2.1 _)).mod
theorem ladZ_like {x y : Int} (hx : likeP x y) (bit : Nat → Bool) : ladZ bit x = ladZ bit y := ladZ_of ((ladN_like hx bit 255).ladIf _)
theorem ladN_congr {bit bit' : Nat → Bool} (x : Int) (h : ∀ i, i < 255 → bit i = bit' i) : ∀ n, n ≤ 255 → ladN bit x n = ladN bit' x n
  | 0, _ => rfl
  | n + 1, hn => by
    have ih := ladN_congr x h n (by omega)
    rw [ladN, ladN, ih, h (254 - n) (by omega)]
    by_cases h0 : n = 0
    · rw [if_pos h0, if_pos h0]
    · rw [if_neg h0, if_neg h0, h (255 - n) (by omega)]
theorem ladZ_congr {bit bit' : Nat → Bool} (x : Int) (h : ∀ i, i < 255 → bit i = bit' i) : ladZ bit x = ladZ bit' x := by
  unfold ladZ ladE
  rw [ladN_congr x h 255 (by omega), h 0 (by omega)]

/-! ### the ladder by numbers of 16 parts -/
structure Az where
  a : Nat → Int
  b : Nat → Int
  c : Nat → Int
  d : Nat → Int
def azVal (s : Az) : Lad := ⟨valZ s.a 16, valZ s.b 16, valZ s.c 16, valZ s.d 16⟩
def azOk (s : Az) : Prop := smZ s.a ∧ smZ s.b ∧ smZ s.c ∧ smZ s.d
def azSw (s : Az) : Az := ⟨s.b, s.a, s.d, s.c⟩
def azIf (t : Bool) (s : Az) : Az := if t then azSw s else s
theorem azIf_val (t : Bool) (s : Az) : azVal (azIf t s) = ladIf t (azVal s) := by cases t <;> rfl
theorem azIf_ok {t : Bool} {s : Az} (h : azOk s) : azOk (azIf t s) := by
  cases t
  · exact h
  · exact ⟨h.2.1, h.1, h.2.2.2, h.2.2.1⟩
def oneAt (v : Int) (i : Nat) : Int := if i = 0 then v else 0
/-- 121665 in 16 parts. -/
def mZ (i : Nat) : Int := if i = 0 then 56129 else if i = 1 then 1 else 0
theorem mZ_val : valZ mZ 16 = 121665 := by decide
theorem mZ_sm : smZ mZ := fun i => by
  unfold mZ
  split
  · omega
  · split <;> omega
theorem oneAt_val (v : Int) : valZ (oneAt v) 16 = v := by
  have h := valZ_split (oneAt v) 1 15
  have e : valZ (fun i => oneAt v (1 + i)) 15 = 0 := by
    have e0 : valZ (fun i => oneAt v (1 + i)) 15 = valZ (fun _ => 0) 15 := valZ_congr fun i _ => by rw [oneAt, if_neg (by omega)]
    rw [e0, valZ_zero]
  rw [e] at h
  have h2 : valZ (oneAt v) 1 = v := by simp [valZ, oneAt]
  show valZ (oneAt v) (1 + 15) = v
  rw [h, h2]
  omega
theorem oneAt_sm {v : Int} (h0 : 0 ≤ v) (h1 : v ≤ 65535) : smZ (oneAt v) := fun i => by unfold oneAt; split <;> omega
def azEE (s : Az) : Nat → Int := mulZ (addZ s.a s.c) (addZ s.a s.c)
def azFF (s : Az) : Nat → Int := mulZ (subZ s.a s.c) (subZ s.a s.c)
def azHE (s : Az) : Nat → Int := mulZ (subZ s.b s.d) (addZ s.a s.c)
def azGF (s : Az) : Nat → Int := mulZ (addZ s.b s.d) (subZ s.a s.c)
def azW (s : Az) : Nat → Int := subZ (azEE s) (azFF s)
def azStep (x : Nat → Int) (s : Az) : Az := ⟨mulZ (azEE s) (azFF s), mulZ (addZ (azHE s) (azGF s)) (addZ (azHE s) (azGF s)), mulZ (azW s) (addZ (azEE s) (mulZ (azW s) mZ)), mulZ x (mulZ (subZ (azHE s) (azGF s)) (subZ (azHE s) (azGF s)))⟩
theorem azEE_sm {s : Az} (h : azOk s) : smZ (azEE s) := mulZ_sm (add_ok h.1 h.2.2.1) (add_ok h.1 h.2.2.1)
theorem azFF_sm {s : Az} (h : azOk s) : smZ (azFF s) := mulZ_sm (sub_ok h.1 h.2.2.1) (sub_ok h.1 h.2.2.1)
theorem azHE_sm {s : Az} (h : azOk s) : smZ (azHE s) := mulZ_sm (sub_ok h.2.1 h.2.2.2) (add_ok h.1 h.2.2.1)
theorem azGF_sm {s : Az} (h : azOk s) : smZ (azGF s) := mulZ_sm (add_ok h.2.1 h.2.2.2) (sub_ok h.1 h.2.2.1)
theorem azW_ok {s : Az} (h : azOk s) : okZ (azW s) := sub_ok (azEE_sm h) (azFF_sm h)
theorem azWM_sm {s : Az} (h : azOk s) : smZ (mulZ (azW s) mZ) := mulZ_sm (azW_ok h) mZ_sm.ok
theorem azStep_ok {x : Nat → Int} {s : Az} (hx : smZ x) (h : azOk s) : azOk (azStep x s) :=
  ⟨mulZ_sm (azEE_sm h).ok (azFF_sm h).ok, mulZ_sm (add_ok (azHE_sm h) (azGF_sm h)) (add_ok (azHE_sm h) (azGF_sm h)), mulZ_sm (azW_ok h) (add_ok (azEE_sm h) (azWM_sm h)), mulZ_sm hx.ok (mulZ_sm (sub_ok (azHE_sm h) (azGF_sm h)) (sub_ok (azHE_sm h) (azGF_sm h))).ok⟩
theorem like_mul2 {f g : Nat → Int} {u v : Int} (hf : likeP (valZ f 16) u) (hg : likeP (valZ g 16) v) : likeP (valZ (mulZ f g) 16) (u * v) := (like_mul f g).trans (hf.mul hg)
theorem like_add2 {f g : Nat → Int} {u v : Int} (hf : likeP (valZ f 16) u) (hg : likeP (valZ g 16) v) : likeP (valZ (addZ f g) 16) (u + v) := by rw [val_addZ]; exact hf.add hg
theorem like_sub2 {f g : Nat → Int} {u v : Int} (hf : likeP (valZ f 16) u) (hg : likeP (valZ g 16) v) : likeP (valZ (subZ f g) 16) (u - v) := by rw [val_subZ]; exact hf.sub hg
theorem azStep_like {x : Nat → Int} {y : Int} {s : Az} {t : Lad} (hx : likeP (valZ x 16) y) (h : likeL (azVal s) t) : likeL (azVal (azStep x s)) (ladStep y t) := by
  have hac := like_add2 h.1 h.2.2.1
  have sac := like_sub2 h.1 h.2.2.1
  have hbd := like_add2 h.2.1 h.2.2.2
  have sbd := like_sub2 h.2.1 h.2.2.2
  have ee := like_mul2 hac hac
  have ff := like_mul2 sac sac
  have he := like_mul2 sbd hac
  have gf := like_mul2 hbd sac
  have ww := like_sub2 ee ff
  have mm : likeP (valZ mZ 16) 121665 := by rw [mZ_val]; exact likeP.refl _
  exact ⟨like_mul2 ee ff, like_mul2 (like_add2 he gf) (like_add2 he gf), like_mul2 ww (like_add2 ee (like_mul2 ww mm)), like_mul2 hx (like_mul2 (like_sub2 he gf) (like_sub2 he gf))⟩
def azN (bit : Nat → Bool) (x : Nat → Int) : Nat → Az
  | 0 => ⟨oneAt 1, x, fun _ => 0, oneAt 1⟩
  | n + 1 => azStep x (azIf (bit (254 - n) != lastB bit n) (azN bit x n))
theorem azN_ok {x : Nat → Int} (hx : smZ x) (bit : Nat → Bool) : ∀ n, azOk (azN bit x n)
  | 0 => ⟨oneAt_sm (by decide) (by decide), hx, fun _ => ⟨by show (-65600 : Int) ≤ 0; omega, by show (0 : Int) ≤ 65600; omega⟩, oneAt_sm (by decide) (by decide)⟩
  | n + 1 => azStep_ok hx (azIf_ok (azN_ok hx bit n))
theorem azN_like (x : Nat → Int) (bit : Nat → Bool) : ∀ n, likeL (azVal (azN bit x n)) (ladN bit (valZ x 16) n)
  | 0 => by
    refine ⟨?_, likeP.refl _, ?_, ?_⟩
    · show likeP (valZ (oneAt 1) 16) 1
      rw [oneAt_val]; exact likeP.refl _
    · show likeP (valZ (fun _ => 0) 16) 0
      rw [valZ_zero]; exact likeP.refl _
    · show likeP (valZ (oneAt 1) 16) 1
      rw [oneAt_val]; exact likeP.refl _
  | n + 1 => by
    refine azStep_like (likeP.refl _) ?_
    rw [azIf_val]
    exact (azN_like x bit n).ladIf _
/-- What the specification's ladder comes to. -/
theorem az_point {x : Nat → Int} (bit : Nat → Bool) : (valZ (mulZ (azIf (bit 0) (azN bit x 255)).a (invZ (azIf (bit 0) (azN bit x 255)).c 254)) 16) % fldP = ladZ bit (valZ x 16) := by
  have h : likeL (azVal (azIf (bit 0) (azN bit x 255))) (ladE bit (valZ x 16)) := by
    rw [azIf_val]
    exact (azN_like x bit 255).ladIf _
  have hi := like_inv (azIf (bit 0) (azN bit x 255)).c 254
  rw [← invE_val] at hi
  have hm := (like_mul (azIf (bit 0) (azN bit x 255)).a (invZ (azIf (bit 0) (azN bit x 255)).c 254)).trans (hi.mulL _)
  rw [hm.mod]
  exact ladZ_of h

/-! ### clamped -/
def clampL (ks : List Int) : List Int := (ks.set 0 (ks.getD 0 0 / 8 * 8)).set 31 (ks.getD 31 0 % 64 + 64)
theorem clampL_length (ks : List Int) : (clampL ks).length = ks.length := by simp [clampL]
theorem clampL_byte {ks : List Int} (hb : ∀ x ∈ ks, 0 ≤ x ∧ x < 256) : ∀ x ∈ clampL ks, 0 ≤ x ∧ x < 256 := by
  intro x hx
  have h0 := byteZ hb 0
  have h1 := byteZ hb 31
  rcases List.mem_or_eq_of_mem_set hx with h | h
  · rcases List.mem_or_eq_of_mem_set h with h | h
    · exact hb x h
    · omega
  · omega
/-- Bit i of bytes. -/
def bitB (ks : List Int) (i : Nat) : Bool := decide ((ks.getD (i / 8) 0).toNat / 2 ^ (i % 8) % 2 = 1)

end Go.Proofs.YtdjdanpicbaieaaGreatDoor

namespace Go.Proofs.YtdjdanpicbaieaaGreatDoor
open Go.RowKit

theorem byte_all {f g : Int → Int} (h : ((List.range 256).all fun n => f (n : Nat) == g (n : Nat)) = true) {x : Int} (h0 : 0 ≤ x) (h1 : x < 256) : f x = g x := by
  obtain ⟨n, rfl⟩ : ∃ n : Nat, x = n := ⟨x.toNat, by omega⟩
  rw [List.all_eq_true] at h
  simpa using h n (List.mem_range.2 (by omega))
theorem and248 {x : Int} (h0 : 0 ≤ x) (h1 : x < 256) : bits .and .u8 x 248 = x / 8 * 8 := byte_all (f := fun x => bits .and .u8 x 248) (g := fun x => x / 8 * 8) (by kernel_rfl) h0 h1
theorem and127 {x : Int} (h0 : 0 ≤ x) (h1 : x < 256) : bits .and .u8 x 127 = x % 128 := byte_all (f := fun x => bits .and .u8 x 127) (g := fun x => x % 128) (by kernel_rfl) h0 h1
theorem or64 {x : Int} (h0 : 0 ≤ x) (h1 : x < 256) : bits .or .u8 (x % 128) 64 = x % 64 + 64 := byte_all (f := fun x => bits .or .u8 (x % 128) 64) (g := fun x => x % 64 + 64) (by kernel_rfl) h0 h1
theorem not7 {x : Int} (h0 : 0 ≤ x) (h1 : x < 256) : bits .andNot .u8 x 7 = x / 8 * 8 := byte_all (f := fun x => bits .andNot .u8 x 7) (g := fun x => x / 8 * 8) (by kernel_rfl) h0 h1
theorem not128 {x : Int} (h0 : 0 ≤ x) (h1 : x < 256) : bits .andNot .u8 x 128 = x % 128 := byte_all (f := fun x => bits .andNot .u8 x 128) (g := fun x => x % 128) (by kernel_rfl) h0 h1
def clampR (ks : List Int) (n : Nat) : List Int := if n = 32 then clampL ks else []
theorem clampR_length {ks : List Int} {n : Nat} (h : ks.length = n) : (clampR ks n).length = oneN n := by
  unfold clampR oneN
  split
  · rw [clampL_length, h]; omega
  · rfl
theorem clampR_byte {ks : List Int} {n : Nat} (hb : ∀ x ∈ ks, 0 ≤ x ∧ x < 256) : ∀ x ∈ clampR ks n, 0 ≤ x ∧ x < 256 := by
  unfold clampR
  split
  · exact clampL_byte hb
  · intro x hx; cases hx
theorem mapU_set (xs : List Int) (k : Nat) (v : Int) : (xs.map (Value.int .u8)).set k (.int .u8 v) = (xs.set k v).map (Value.int .u8) := List.map_set.symm
theorem rowU_cell {w : World} {lo e g n c : Nat} {xs : List Int} (h : w.ownsRow lo e 1 (.slice (some ⟨g, 0, none⟩) n c) n (xs.map (Value.int .u8))) (k : Nat) (hk : k < n) : w.cell? ⟨g, k, none⟩ = some (.int .u8 (xs.getD k 0)) := by
  have hl : xs.length = n := owns_len h
  rw [h.cellAt k (by omega)]
  simp [List.getD_eq_getElem?_getD, List.getElem?_eq_getElem (show k < xs.length by omega)]

set_option maxRecDepth 100000 in
set_option maxHeartbeats 4000000 in
theorem specClamp_any (p : Option Addr) (n c : Nat) (ks : List Int) (w : World) (hl : ks.length = n) (h : BytesIn w p n ks) (hb : ∀ x ∈ ks, 0 ≤ x ∧ x < 256) :
    Calls Tryz.prog 88 #[.slice p n c] w fun e w' => ∃ p' c', e = .returned (.slice p' (oneN n) c') ∧ Own 5 w' w.heap.size w'.heap.size (.slice p' (oneN n) c') (oneN n) (clampR ks n) ∧ Below w.heap.size w w' := by
  obtain ⟨i0, hi, hz0, hz1, hz2⟩ := info_parts infoByte
  have hown0 : (w.alloc (.cells #[] 5)).ownsRow w.heap.size 5 1 (.slice (some ⟨w.heap.size, 0, none⟩) 0 0) 0 (([] : List Int).map (Value.int .u8)) := World.ownsRow_made w #[] 0 (Nat.le_refl _) (by unfold maxLen; omega) rfl
  have hb0 : Below w.heap.size w (w.alloc (.cells #[] 5)) := (Below.refl _ _).alloc (Nat.le_refl _) _
  have h1 := in_below h hb0
  clear h
  unfold oneN clampR
  by_cases hok : n = 32
  · rw [if_pos hok, if_pos hok]
    subst hok
    have x0 := byteZ hb 0
    have x1 := byteZ hb 31
    have a0 := and248 x0.1 x0.2
    have a1 := and127 x1.1 x1.2
    have a2 := or64 x1.1 x1.2
    have hc31 : (ks.set 0 (ks.getD 0 0 / 8 * 8)).getD 31 0 = ks.getD 31 0 := by rw [List.getD_eq_getElem?_getD, List.getElem?_set_ne (by decide), ← List.getD_eq_getElem?_getD]
    unfold clampL
    obtain ⟨u, hu⟩ : ∃ u, u = ks.getD 0 0 := ⟨_, rfl⟩
    obtain ⟨v, hv⟩ : ∃ v, v = ks.getD 31 0 := ⟨_, rfl⟩
    rw [← hu] at a0 hc31 ⊢
    rw [← hv] at a1 a2 hc31 ⊢
    obtain ⟨u', hu'⟩ : ∃ u', u' = u / 8 * 8 := ⟨_, rfl⟩
    obtain ⟨v', hv'⟩ : ∃ v', v' = v % 64 + 64 := ⟨_, rfl⟩
    obtain ⟨v1, hv1⟩ : ∃ v1, v1 = v % 128 := ⟨_, rfl⟩
    rw [← hu'] at a0 hc31 ⊢
    rw [← hv1] at a1 a2
    rw [← hv'] at a2 ⊢
    clear hu' hv' hv1 x0 x1 hb
    replace hu : Hid (u = ks.getD 0 0) := hu
    replace hc31 : Hid ((ks.set 0 u').getD 31 0 = v) := hc31
    clear hv
    go_enter Tryz.func88, Tryz.ntmps88
    go_wp2_with (at_builtin; refine list_spread hi hz0 hz1 hz2 (.tmp 8) (.tmp 9) 22 Tryz.underlying22 hown0 h1 hl (by decide) (by decide) (by decide) (by simp) (by rfl) (by rfl) (by rfl) (by rfl) ?_; intro g cap w1 ho1 hg1 hb1; simp only [Nat.zero_add, List.nil_append] at ho1 ⊢; have c0 := rowU_cell ho1 0 (by decide); rw [← hu.out] at c0; have f0 := ho1.frozenAt 0; have s0 := ho1.stored 0 (.int .u8 u'); rw [mapU_set] at s0; have c1 := rowU_cell s0.1 31 (by decide); rw [hc31.out] at c1; have f1 := s0.1.frozenAt 31; have s1 := s0.1.stored 31 (.int .u8 v'); rw [mapU_set] at s1)
    go_ret
    have hlt := ho1.lt g rfl
    have k0 := hb0.trans hb1
    have k1 := k0.grown s0.2 k0.size (fun k hk => by cases hk; exact hlt.1)
    exact ⟨_, _, rfl, .of s1.1, k1.grown s1.2 k1.size (fun k hk => by cases hk; exact hlt.1)⟩
  · rw [if_neg hok, if_neg hok]
    have z1 : ((n : Int) != 32) = true := by simp; omega
    clear h1 hb
    go_enter Tryz.func88, Tryz.ntmps88
    go_wp2_with (fail)
    go_ret
    exact ⟨_, _, rfl, .of hown0, hb0⟩

theorem cloneB_any (p : Option Addr) (c : Nat) (ks : List Int) (w : World) (hl : ks.length = 32) (h : BytesIn w p 32 ks) :
    Calls Tryz.prog 94 #[.slice p 32 c] w fun e w' => ∃ g c', e = .returned (.slice (some ⟨g, 0, none⟩) 32 c') ∧ w'.ownsRow w.heap.size 5 1 (.slice (some ⟨g, 0, none⟩) 32 c') 32 (ks.map (Value.int .u8)) ∧ Below w.heap.size w w' := by
  obtain ⟨i0, hi, hz0, hz1, hz2⟩ := info_parts infoByte
  have hown0 : (w.alloc (.cells #[] 5)).ownsRow w.heap.size 5 1 (.slice (some ⟨w.heap.size, 0, none⟩) 0 0) 0 (([] : List Int).map (Value.int .u8)) := World.ownsRow_made w #[] 0 (Nat.le_refl _) (by unfold maxLen; omega) rfl
  have hb0 : Below w.heap.size w (w.alloc (.cells #[] 5)) := (Below.refl _ _).alloc (Nat.le_refl _) _
  have h1 := in_below h hb0
  obtain ⟨b, o, rfl, _⟩ := h (by decide)
  have hnil := fun w => Lib.run_eql_slice_nil (P := Tryz.prog) w 22 5 (some ⟨b, o, none⟩) 32 c 0 0 Tryz.underlying22
  simp only [Option.isNone_some] at hnil
  clear h
  go_enter Tryz.func94, Tryz.ntmps94
  go_wp2_with (at_builtin; refine list_spread hi hz0 hz1 hz2 (.tmp 5) (.tmp 6) 22 Tryz.underlying22 hown0 h1 hl (by decide) (by decide) (by decide) (by simp) (by rfl) (by rfl) (by rfl) (by rfl) ?_; intro g cap w1 ho1 hg1 hb1; simp only [Nat.zero_add, List.nil_append] at ho1 ⊢)
  go_ret
  exact ⟨_, _, rfl, ho1, hb0.trans hb1⟩

set_option maxRecDepth 100000 in
set_option maxHeartbeats 4000000 in
theorem implClamp_any (p : Option Addr) (n c : Nat) (ks : List Int) (w : World) (hl : ks.length = n) (h : BytesIn w p n ks) (hb : ∀ x ∈ ks, 0 ≤ x ∧ x < 256) :
    Calls Tryz.prog 60 #[.slice p n c] w fun e w' => ∃ p' c', e = .returned (.slice p' (oneN n) c') ∧ Own 5 w' w.heap.size w'.heap.size (.slice p' (oneN n) c') (oneN n) (clampR ks n) ∧ Below w.heap.size w w' := by
  unfold oneN clampR
  by_cases hok : n = 32
  · rw [if_pos hok, if_pos hok]
    subst hok
    have x0 := byteZ hb 0
    have x1 := byteZ hb 31
    have a0 := not7 x0.1 x0.2
    have a1 := not128 x1.1 x1.2
    have a2 := or64 x1.1 x1.2
    have hc31 : (ks.set 0 (ks.getD 0 0 / 8 * 8)).getD 31 0 = ks.getD 31 0 := by rw [List.getD_eq_getElem?_getD, List.getElem?_set_ne (by decide), ← List.getD_eq_getElem?_getD]
    have hc32 : ((ks.set 0 (ks.getD 0 0 / 8 * 8)).set 31 (ks.getD 31 0 % 128)).getD 31 0 = ks.getD 31 0 % 128 := by rw [List.getD_eq_getElem?_getD, List.getElem?_set_self (by simp [hl])]; rfl
    have hss : ((ks.set 0 (ks.getD 0 0 / 8 * 8)).set 31 (ks.getD 31 0 % 128)).set 31 (ks.getD 31 0 % 64 + 64) = (ks.set 0 (ks.getD 0 0 / 8 * 8)).set 31 (ks.getD 31 0 % 64 + 64) := List.set_set _
    have CC := cloneB_any p c ks w hl h
    unfold clampL
    obtain ⟨u, hu⟩ : ∃ u, u = ks.getD 0 0 := ⟨_, rfl⟩
    obtain ⟨v, hv⟩ : ∃ v, v = ks.getD 31 0 := ⟨_, rfl⟩
    rw [← hu] at a0 hc31 hc32 hss ⊢
    rw [← hv] at a1 a2 hc31 hc32 hss ⊢
    obtain ⟨u', hu'⟩ : ∃ u', u' = u / 8 * 8 := ⟨_, rfl⟩
    obtain ⟨v', hv'⟩ : ∃ v', v' = v % 64 + 64 := ⟨_, rfl⟩
    obtain ⟨v1, hv1⟩ : ∃ v1, v1 = v % 128 := ⟨_, rfl⟩
    rw [← hu'] at a0 hc31 hc32 hss ⊢
    rw [← hv1] at a1 a2 hc32 hss
    rw [← hv'] at a2 hss ⊢
    rw [← hss]
    clear hu' hv' hv1 x0 x1 hb h hss
    replace hu : Hid (u = ks.getD 0 0) := hu
    replace hc31 : Hid ((ks.set 0 u').getD 31 0 = v) := hc31
    replace hc32 : Hid (((ks.set 0 u').set 31 v1).getD 31 0 = v1) := hc32
    clear hv
    go_enter Tryz.func60, Tryz.ntmps60
    go_wp2_with (fail)
    refine CC.mono ?_
    rintro e w1 ⟨g, cap, rfl, ho1, hb1⟩
    have c0 := rowU_cell ho1 0 (by decide)
    rw [← hu.out] at c0
    have f0 := ho1.frozenAt 0
    have s0 := ho1.stored 0 (.int .u8 u')
    rw [mapU_set] at s0
    have c1 := rowU_cell s0.1 31 (by decide)
    rw [hc31.out] at c1
    have f1 := s0.1.frozenAt 31
    have s1 := s0.1.stored 31 (.int .u8 v1)
    rw [mapU_set] at s1
    have c2 := rowU_cell s1.1 31 (by decide)
    rw [hc32.out] at c2
    have f2 := s1.1.frozenAt 31
    have s2 := s1.1.stored 31 (.int .u8 v')
    rw [mapU_set] at s2
    have hlt := ho1.lt g rfl
    have k1 := hb1.grown s0.2 hb1.size (fun k hk => by cases hk; exact hlt.1)
    have k2 := k1.grown s1.2 k1.size (fun k hk => by cases hk; exact hlt.1)
    have hbel := k2.grown s2.2 k2.size (fun k hk => by cases hk; exact hlt.1)
    clear k1 k2
    have hown := s2.1
    clear s0 s1 s2 ho1 hb1 hlt CC
    go_wp2_with (fail)
    go_ret
    exact ⟨_, _, rfl, .of hown, hbel⟩
  · rw [if_neg hok, if_neg hok]
    have z1 : ((n : Int) != 32) = true := by simp; omega
    clear h hb
    go_enter Tryz.func60, Tryz.ntmps60
    go_wp2_with (fail)
    go_ret
    exact ⟨_, _, rfl, ⟨⟨rfl, .inl ⟨rfl, rfl⟩⟩, fun k hk => by cases hk⟩, Below.refl _ _⟩

end Go.Proofs.YtdjdanpicbaieaaGreatDoor

namespace Go.Proofs.YtdjdanpicbaieaaGreatDoor
open Go.RowKit
set_option maxRecDepth 100000

theorem szZ {f : Nat → Int} : (Tryz.prog.info? 108).map (·.size) = some (zV f 16).length := by rw [zV_length]; exact (zero_of_info infoZ16).2
theorem szZ2 {f : Nat → Int} : (Tryz.prog.info? 108).map (·.size) = some (zV f 16).toArray.size := by
  have : (zV f 16).toArray.size = 16 := by simp [zV_length]
  rw [this]; exact (zero_of_info infoZ16).2
theorem RowZ.there2 {ty : Nat} {w : World} {lo g : Nat} {f f' : Nat → Int} (h : RowZ ty 16 w lo g f) : w.there g 0 (zV f' 16).toArray.size := by
  have : (zV f' 16).toArray.size = 16 := by simp [zV_length]
  rw [this]; exact h.there
theorem RowZ.drew {ty n : Nat} {w : World} {lo g : Nat} {f : Nat → Int} (h : RowZ ty n w lo g f) : RowZ ty n w.drew lo g f := h.below (Below.refl _ _).drew
/-- A list of 16 parts: f's. -/
structure IsZ (L : List Value) (f : Nat → Int) : Prop where
  eq : zV f 16 = L
theorem IsZ.sz {L : List Value} {f : Nat → Int} (h : IsZ L f) : (Tryz.prog.info? 108).map (·.size) = some L.length := by rw [← h.eq]; exact szZ
theorem IsZ.sz2 {L : List Value} {f : Nat → Int} (h : IsZ L f) : (Tryz.prog.info? 108).map (·.size) = some L.toArray.size := by rw [← h.eq]; exact szZ2
theorem IsZ.one {L : List Value} {f : Nat → Int} (h : IsZ L f) : ∀ v ∈ L, v.oneCell' = true := by rw [← h.eq]; exact zV_one f 16
theorem IsZ.range {L : List Value} {f : Nat → Int} {ty : Nat} {w : World} {lo g : Nat} (h : IsZ L f) (r : RowZ ty 16 w lo g f) : w.rangeAt g 0 L := by rw [← h.eq]; exact r.range
/-- A new variable with a value. -/
theorem IsZ.made {L : List Value} {f : Nat → Int} (h : IsZ L f) (w : World) (lo : Nat) (hlo : lo ≤ w.heap.size) {Z : Array Value} (hZ : Z = (zV (fun _ => 0) 16).toArray) :
    RowZ 108 16 ((w.alloc (.cells Z 108)).setCells w.heap.size 0 L) lo w.heap.size f ∧ Below w.heap.size w ((w.alloc (.cells Z 108)).setCells w.heap.size 0 L) ∧ (w.alloc (.cells Z 108)).there w.heap.size 0 L.toArray.size := by
  have m := RowZ.made w 108 16 lo (fun _ => 0) (by decide) hlo
  rw [← hZ] at m
  have p := m.put (f' := f)
  have t := m.there2 (f' := f)
  have b : Below w.heap.size w (w.alloc (.cells Z 108)) := (Below.refl _ _).alloc (Nat.le_refl _) _
  rw [h.eq] at p t
  exact ⟨p.1, b.grown p.2 (Nat.le_trans (Nat.le_refl _) b.size) (fun k hk => by cases hk; exact Nat.le_refl _), t⟩
theorem IsZ.put {L : List Value} {f f0 : Nat → Int} {w : World} {lo g : Nat} (h : IsZ L f) (r : RowZ 108 16 w lo g f0) :
    RowZ 108 16 (w.setCells g 0 L) lo g f ∧ w.grownBy (w.setCells g 0 L) (some g) ∧ w.there g 0 L.toArray.size := by
  have p := r.put (f' := f)
  have t := r.there2 (f' := f)
  rw [h.eq] at p t
  exact ⟨p.1, p.2, t⟩

theorem cAdd {La Lc Le : List Value} {fa fc : Nat → Int} (ia : IsZ La fa) (ic : IsZ Lc fc) (ie : IsZ Le (addZ fa fc)) (ha : okZ fa) (hc : okZ fc) (X : World) : Calls Tryz.prog 120 #[.agg La.toArray, .agg Lc.toArray] X fun e w' => e = .returned (.agg Le.toArray) ∧ Below X.heap.size X w' := by
  have h := l8Add_any fa fc X (fun i => by have := ha i; omega) (fun i => by have := hc i; omega)
  have h2 : zV (fun i => fa i + fc i) 16 = Le := ie.eq
  rw [h2, ia.eq, ic.eq] at h
  exact h

theorem cSub {La Lc Le : List Value} {fa fc : Nat → Int} (ia : IsZ La fa) (ic : IsZ Lc fc) (ie : IsZ Le (subZ fa fc)) (ha : okZ fa) (hc : okZ fc) (X : World) : Calls Tryz.prog 121 #[.agg La.toArray, .agg Lc.toArray] X fun e w' => e = .returned (.agg Le.toArray) ∧ Below X.heap.size X w' := by
  have h := l8Sub_any fa fc X (fun i => by have := ha i; omega) (fun i => by have := hc i; omega)
  have h2 : zV (fun i => fa i - fc i) 16 = Le := ie.eq
  rw [h2, ia.eq, ic.eq] at h
  exact h

theorem cMul {La Lc Le : List Value} {fa fc : Nat → Int} (ia : IsZ La fa) (ic : IsZ Lc fc) (ie : IsZ Le (mulZ fa fc)) (ha : okZ fa) (hc : okZ fc) (X : World) : Calls Tryz.prog 122 #[.agg La.toArray, .agg Lc.toArray] X fun e w' => e = .returned (.agg Le.toArray) ∧ Below X.heap.size X w' := by
  have h := l8Mul_any fa fc X ha hc
  rw [ie.eq, ia.eq, ic.eq] at h
  exact h

theorem mZ_set (i : Nat) : (if i = 1 then 1 else if i = 0 then 56129 else (0 : Int)) = mZ i := by
  unfold mZ
  by_cases h0 : i = 0
  · subst h0; rfl
  · by_cases h1 : i = 1
    · subst h1; rfl
    · rw [if_neg h1, if_neg h0, if_neg h0, if_neg h1]
def bitI (b : Bool) : Int := if b then 1 else 0
theorem and7 (j : Nat) (h : j < 256) : bits .and .i64 (j : Int) 7 = ((j % 8 : Nat) : Int) := by
  have e : bits .and .i64 (j : Int) 7 = IntKind.i64.wrap ((BitVec.ofInt 64 (j : Int) &&& BitVec.ofInt 64 7).toNat : Int) := rfl
  have e1 : (BitVec.ofInt 64 (j : Int)).toNat = j := by rw [BitVec.toNat_ofInt]; omega
  have e2 : (BitVec.ofInt 64 7).toNat = 2 ^ 3 - 1 := rfl
  rw [e, BitVec.toNat_and, e1, e2, Nat.and_two_pow_sub_one_eq_mod, IntKind.wrap_i64]
  omega
theorem and1 (v : Nat) (h : v < 256) : bits .and .i64 (v : Int) 1 = bitI (decide (v % 2 = 1)) := by
  have e : bits .and .i64 (v : Int) 1 = IntKind.i64.wrap ((BitVec.ofInt 64 (v : Int) &&& BitVec.ofInt 64 1).toNat : Int) := rfl
  have e1 : (BitVec.ofInt 64 (v : Int)).toNat = v := by rw [BitVec.toNat_ofInt]; omega
  have e2 : (BitVec.ofInt 64 1).toNat = 2 ^ 1 - 1 := rfl
  rw [e, BitVec.toNat_and, e1, e2, Nat.and_two_pow_sub_one_eq_mod, IntKind.wrap_i64]
  unfold bitI
  by_cases h2 : v % 2 = 1
  · simp [h2]
  · have : v % 2 = 0 := by omega
    simp [this]

end Go.Proofs.YtdjdanpicbaieaaGreatDoor

namespace Go.Proofs.YtdjdanpicbaieaaGreatDoor
open Go.RowKit

set_option maxRecDepth 100000 in
set_option maxHeartbeats 32000000 in
theorem l9Ladder_any (bk ok ck : Nat) (ks : List Int) (fx : Nat → Int) (w : World) (hb : ∀ x ∈ ks, 0 ≤ x ∧ x < 256) (hk : ∀ i, i < 32 → w.cell? ⟨bk, ok + i, none⟩ = some (.int .u8 (ks.getD i 0))) (hx : smZ fx) :
    Calls Tryz.prog 87 #[.slice (some ⟨bk, ok, none⟩) 32 ck, .agg (zV fx 16).toArray] w fun e w' => ∃ p' c', e = .returned (.slice p' 32 c') ∧ Own 5 w' w.heap.size w'.heap.size (.slice p' 32 c') 32 (numB (ladZ (bitB ks) (valZ fx 16))) ∧ Below w.heap.size w w' := by
  have hz := (zero_of_info infoZ16).1
  have hblt : bk < w.heap.size := World.block_lt_of_cell? w ⟨bk, ok + 0, none⟩ (hk 0 (by decide))
  have HK : Hid (∀ X, Below w.heap.size w X → ∀ i, i < 32 → X.cell? ⟨bk, ok + i, none⟩ = some (.int .u8 (ks.getD i 0))) := fun X hX i hi => (hX.cell (p := ⟨bk, ok + i, none⟩) hblt).trans (hk i hi)
  have HB : Hid (∀ i, 0 ≤ ks.getD i 0 ∧ ks.getD i 0 < 256) := fun i => byteZ hb i
  obtain ⟨bit, hbit⟩ : ∃ bit, bit = bitB ks := ⟨_, rfl⟩
  rw [← hbit]
  replace hbit : Hid (bit = bitB ks) := hbit
  obtain ⟨V, hV⟩ : ∃ V, V = numB (ladZ bit (valZ fx 16)) := ⟨_, rfl⟩
  rw [← hV]
  replace hV : Hid (V = numB (ladZ bit (valZ fx 16))) := hV
  have HO : Hid (∀ n, azOk (azN bit fx n)) := fun n => azN_ok hx bit n
  obtain ⟨Z, hZ⟩ : ∃ Z, Z = (zV (fun _ => 0) 16).toArray := ⟨_, rfl⟩
  rw [← hZ] at hz
  obtain ⟨Lx, ix⟩ : ∃ L, IsZ L fx := ⟨_, ⟨rfl⟩⟩
  obtain ⟨Lm, im⟩ : ∃ L, IsZ L mZ := ⟨_, ⟨rfl⟩⟩
  rw [ix.eq]
  clear hblt hk hb
  have m0 := RowZ.made w 108 16 w.heap.size fx (by decide) (Nat.le_refl _)
  rw [ix.eq] at m0
  obtain ⟨W0, hW0⟩ : ∃ W, W = w.alloc (.cells Lx.toArray 108) := ⟨_, rfl⟩
  rw [← hW0] at m0
  have s0 : W0.heap.size = w.heap.size + 1 := by rw [hW0]; simp
  have bel : Below w.heap.size w W0 := by rw [hW0]; exact (Below.refl _ _).alloc (Nat.le_refl _) _
  have m1 := RowZ.made W0 108 16 w.heap.size (fun _ => 0) (by decide) (by omega)
  rw [← hZ, s0] at m1
  have b1 : Below W0.heap.size W0 (W0.alloc (.cells Z 108)) := (Below.refl _ _).alloc (Nat.le_refl _) _
  obtain ⟨W1, hW1⟩ : ∃ W, W = W0.alloc (.cells Z 108) := ⟨_, rfl⟩
  rw [← hW1] at m1 b1
  have s1 : W1.heap.size = w.heap.size + 1 + 1 := by rw [hW1]; simp [s0]
  replace m0 := m0.below b1
  replace bel := below_on bel b1
  have m2 := RowZ.made W1 108 16 w.heap.size (fun _ => 0) (by decide) (by omega)
  rw [← hZ, s1] at m2
  have b2 : Below W1.heap.size W1 (W1.alloc (.cells Z 108)) := (Below.refl _ _).alloc (Nat.le_refl _) _
  obtain ⟨W2, hW2⟩ : ∃ W, W = W1.alloc (.cells Z 108) := ⟨_, rfl⟩
  rw [← hW2] at m2 b2
  have s2 : W2.heap.size = w.heap.size + 1 + 1 + 1 := by rw [hW2]; simp [s1]
  replace m0 := m0.below b2
  replace m1 := m1.below b2
  replace bel := below_on bel b2
  have m3 := RowZ.made W2 108 16 w.heap.size (fun _ => 0) (by decide) (by omega)
  rw [← hZ, s2] at m3
  have b3 : Below W2.heap.size W2 (W2.alloc (.cells Z 108)) := (Below.refl _ _).alloc (Nat.le_refl _) _
  obtain ⟨W3, hW3⟩ : ∃ W, W = W2.alloc (.cells Z 108) := ⟨_, rfl⟩
  rw [← hW3] at m3 b3
  have s3 : W3.heap.size = w.heap.size + 1 + 1 + 1 + 1 := by rw [hW3]; simp [s2]
  replace m0 := m0.below b3
  replace m1 := m1.below b3
  replace m2 := m2.below b3
  replace bel := below_on bel b3
  have m4 := RowZ.made W3 108 16 w.heap.size (fun _ => 0) (by decide) (by omega)
  rw [← hZ, s3] at m4
  have b4 : Below W3.heap.size W3 (W3.alloc (.cells Z 108)) := (Below.refl _ _).alloc (Nat.le_refl _) _
  obtain ⟨W4, hW4⟩ : ∃ W, W = W3.alloc (.cells Z 108) := ⟨_, rfl⟩
  rw [← hW4] at m4 b4
  have s4 : W4.heap.size = w.heap.size + 1 + 1 + 1 + 1 + 1 := by rw [hW4]; simp [s3]
  replace m0 := m0.below b4
  replace m1 := m1.below b4
  replace m2 := m2.below b4
  replace m3 := m3.below b4
  replace bel := below_on bel b4
  have m5 := RowZ.made W4 108 16 w.heap.size (fun _ => 0) (by decide) (by omega)
  rw [← hZ, s4] at m5
  have b5 : Below W4.heap.size W4 (W4.alloc (.cells Z 108)) := (Below.refl _ _).alloc (Nat.le_refl _) _
  obtain ⟨W5, hW5⟩ : ∃ W, W = W4.alloc (.cells Z 108) := ⟨_, rfl⟩
  rw [← hW5] at m5 b5
  have s5 : W5.heap.size = w.heap.size + 1 + 1 + 1 + 1 + 1 + 1 := by rw [hW5]; simp [s4]
  replace m0 := m0.below b5
  replace m1 := m1.below b5
  replace m2 := m2.below b5
  replace m3 := m3.below b5
  replace m4 := m4.below b5
  replace bel := below_on bel b5
  replace hZ : Hid (Z = (zV (fun _ => 0) 16).toArray) := hZ
  have qx := ix.range m0
  obtain ⟨mb, gb, tb⟩ := ix.put m2
  replace m0 := m0.kept gb (by omega)
  replace m1 := m1.kept gb (by omega)
  replace m3 := m3.kept gb (by omega)
  replace m4 := m4.kept gb (by omega)
  replace m5 := m5.kept gb (by omega)
  replace bel := bel.grown gb bel.size (fun k hk => by cases hk; omega)
  clear m2
  have c10 := m1.cell 0 (by decide)
  have f10 := m1.frozen 0
  have st := m1.set 0 1
  replace m0 := m0.kept st.2 (by omega)
  replace m3 := m3.kept st.2 (by omega)
  replace m4 := m4.kept st.2 (by omega)
  replace m5 := m5.kept st.2 (by omega)
  replace mb := mb.kept st.2 (by omega)
  replace bel := bel.grown st.2 bel.size (fun k hk => by cases hk; omega)
  replace m1 := st.1
  clear st
  have c40 := m4.cell 0 (by decide)
  have f40 := m4.frozen 0
  have st := m4.set 0 1
  replace m0 := m0.kept st.2 (by omega)
  replace m1 := m1.kept st.2 (by omega)
  replace m3 := m3.kept st.2 (by omega)
  replace m5 := m5.kept st.2 (by omega)
  replace mb := mb.kept st.2 (by omega)
  replace bel := bel.grown st.2 bel.size (fun k hk => by cases hk; omega)
  replace m4 := st.1
  clear st
  have c50 := m5.cell 0 (by decide)
  have f50 := m5.frozen 0
  have st := m5.set 0 56129
  replace m0 := m0.kept st.2 (by omega)
  replace m1 := m1.kept st.2 (by omega)
  replace m3 := m3.kept st.2 (by omega)
  replace m4 := m4.kept st.2 (by omega)
  replace mb := mb.kept st.2 (by omega)
  replace bel := bel.grown st.2 bel.size (fun k hk => by cases hk; omega)
  replace m5 := st.1
  clear st
  have c51 := m5.cell 1 (by decide)
  rw [if_neg (by decide)] at c51
  have f51 := m5.frozen 1
  have st := m5.set 1 1
  replace m0 := m0.kept st.2 (by omega)
  replace m1 := m1.kept st.2 (by omega)
  replace m3 := m3.kept st.2 (by omega)
  replace m4 := m4.kept st.2 (by omega)
  replace mb := mb.kept st.2 (by omega)
  replace bel := bel.grown st.2 bel.size (fun k hk => by cases hk; omega)
  replace m5 := st.1
  clear st
  replace m1 := m1.congr (f' := oneAt 1) fun i _ => rfl
  replace m4 := m4.congr (f' := oneAt 1) fun i _ => rfl
  replace m5 := m5.congr (f' := mZ) fun i _ => mZ_set i
  rw [hW5, hW4, hW3, hW2, hW1, hW0] at m0 m1 mb m3 m4 m5 bel qx tb c10 f10 c40 f40 c50 f50 c51 f51
  clear hW5 hW4 hW3 hW2 hW1 hW0 s0 s1 s2 s3 s4 s5 b1 b2 b3 b4 b5 gb
  clear W0 W1 W2 W3 W4 W5
  go_enter Tryz.func87, Tryz.ntmps87
  go_wp2_with (first | (with_reducible refine wpList_load_mid rfl 108 _ rfl w.heap.size 0 rfl Lx _ qx Tryz.underlying108 rfl ix.sz ?_) | (with_reducible refine wpList_store_mid rfl 108 _ _ rfl (w.heap.size + 1 + 1) 0 Lx.toArray rfl rfl tb ix.sz2 (all_oneCell_toArray ix.one) ?_; (try dsimp only); generalize World.setCells _ (w.heap.size + 1 + 1) 0 _ = W9 at m0 m1 mb m3 m4 m5 bel c10 f10 c40 f40 c50 f50 c51 f51 ⊢))
  clear qx tb c10 f10 c40 f40 c50 f50 c51 f51
  generalize ((((W9.setCell ⟨w.heap.size + 1, 0, none⟩ (.int .i64 1)).setCell ⟨w.heap.size + 1 + 1 + 1 + 1, 0, none⟩ (.int .i64 1)).setCell ⟨w.heap.size + 1 + 1 + 1 + 1 + 1, 0, none⟩ (.int .i64 56129)).setCell ⟨w.heap.size + 1 + 1 + 1 + 1 + 1, 1, none⟩ (.int .i64 1)) = wb at m0 m1 mb m3 m4 m5 bel ⊢
  obtain ⟨Ga, hGa⟩ : ∃ G, G = w.heap.size + 1 := ⟨_, rfl⟩
  rw [← hGa] at m1 mb m3 m4 m5 ⊢
  obtain ⟨Gb, hGb⟩ : ∃ G, G = Ga + 1 := ⟨_, rfl⟩
  rw [← hGb] at mb m3 m4 m5 ⊢
  obtain ⟨Gc, hGc⟩ : ∃ G, G = Gb + 1 := ⟨_, rfl⟩
  rw [← hGc] at m3 m4 m5 ⊢
  obtain ⟨Gd, hGd⟩ : ∃ G, G = Gc + 1 := ⟨_, rfl⟩
  rw [← hGd] at m4 m5 ⊢
  obtain ⟨Gm, hGm⟩ : ∃ G, G = Gd + 1 := ⟨_, rfl⟩
  rw [← hGm] at m5 ⊢
  have o1 : w.heap.size < Ga := by omega
  have o2 : Ga < Gb := by omega
  have o3 : Gb < Gc := by omega
  have o4 : Gc < Gd := by omega
  have o5 : Gd < Gm := by omega
  clear hGa hGb hGc hGd hGm
  have ra := m1
  have rb := mb
  have rc := m3
  have rd := m4
  have rm := m5
  have rx := m0
  clear m0 m1 mb m3 m4 m5
  go_loopw [10, 11] (fun l i wr => ∃ n : Nat, n ≤ 255 ∧ i = .int .i64 (254 - (n : Int)) ∧ l = .int .i64 (bitI (lastB bit n)) ∧ RowZ 108 16 wr w.heap.size w.heap.size fx ∧ RowZ 108 16 wr w.heap.size Ga (azN bit fx n).a ∧ RowZ 108 16 wr w.heap.size Gb (azN bit fx n).b ∧ RowZ 108 16 wr w.heap.size Gc (azN bit fx n).c ∧ RowZ 108 16 wr w.heap.size Gd (azN bit fx n).d ∧ RowZ 108 16 wr w.heap.size Gm mZ ∧ Below w.heap.size w wr)
    (fun _ i _ => (intOf i + 1).toNat)
  case atStart => exact ⟨0, by omega, rfl, rfl, rx, ra, rb, rc, rd, rm, bel⟩
  case round =>
    clear rx ra rb rc rd rm bel
    obtain ⟨n, hn, rfl, rfl, rx, ra, rb, rc, rd, rm, bel⟩ := hrel
    by_cases hlt : n < 255
    · obtain ⟨j, hj⟩ : ∃ j : Nat, j = 254 - n := ⟨_, rfl⟩
      have ej : (254 : Int) - (n : Int) = (j : Int) := by omega
      rw [ej]
      have lj : j < 256 := by omega
      have hge : (j : Int) ≥ 0 := by omega
      have cv := HK.out _ bel (j / 8) (by omega)
      have hvb := HB.out (j / 8)
      obtain ⟨v, hv⟩ : ∃ v : Nat, (v : Int) = ks.getD (j / 8) 0 := ⟨(ks.getD (j / 8) 0).toNat, by omega⟩
      rw [← hv] at cv
      have a7 := and7 j lj
      obtain ⟨q, hq⟩ : ∃ q : Nat, q = j / 8 := ⟨_, rfl⟩
      rw [← hq] at cv
      have eq : (j : Int) / 8 = (q : Int) := by omega
      have lq : (q : Int) < 32 := by omega
      obtain ⟨r, hr⟩ : ∃ r : Nat, r = j % 8 := ⟨_, rfl⟩
      rw [← hr] at a7
      have lr : r < 8 := by omega
      have lr' : (r : Int) < 64 := by omega
      have hvl : v < 256 := by omega
      obtain ⟨u, hu⟩ : ∃ u : Nat, u = v / 2 ^ r := ⟨_, rfl⟩
      have eu : (v : Int) / 2 ^ r = (u : Int) := by rw [hu, Int.natCast_ediv, Int.natCast_pow]; rfl
      have lu : u < 256 := by rw [hu]; exact Nat.lt_of_le_of_lt (Nat.div_le_self _ _) hvl
      have a1 := and1 u lu
      have hv2 : (ks.getD q 0).toNat = v := by rw [hq]; omega
      have ebt : decide (u % 2 = 1) = bit j := by rw [hbit.out]; unfold bitB; rw [← hq, ← hr, hv2, hu]
      rw [ebt] at a1
      obtain ⟨lb, hlb⟩ : ∃ lb, lb = lastB bit n := ⟨_, rfl⟩
      rw [← hlb]
      obtain ⟨bj, hbj⟩ : ∃ bj, bj = bit j := ⟨_, rfl⟩
      rw [← hbj] at a1
      have lvv : (v : Int) < 256 := by omega
      have luu : (u : Int) < 256 := by omega
      clear hq hr hu ebt hvb hv hv2
      have hO := HO.out n
      obtain ⟨P, hP⟩ : ∃ P, P = azN bit fx n := ⟨_, rfl⟩
      rw [← hP] at ra rb rc rd hO
      by_cases hsw : bj = lb
      · have hne : (bitI bj != bitI lb) = false := by rw [hsw]; simp
        obtain ⟨S, hSe⟩ : ∃ S, S = P := ⟨_, rfl⟩
        have hSn : Hid (azN bit fx (n + 1) = azStep fx S) := by rw [Hid, azN, hSe, hP, ← hj, ← hbj, ← hlb, hsw]; simp [azIf]
        rw [← hSe] at ra rb rc rd hO
        have hS := hO
        clear hO hSe hP hsw
        obtain ⟨La, ia⟩ : ∃ L, IsZ L S.a := ⟨_, ⟨rfl⟩⟩
        obtain ⟨Lb, ib⟩ : ∃ L, IsZ L S.b := ⟨_, ⟨rfl⟩⟩
        obtain ⟨Lc, ic⟩ : ∃ L, IsZ L S.c := ⟨_, ⟨rfl⟩⟩
        obtain ⟨Ld, id⟩ : ∃ L, IsZ L S.d := ⟨_, ⟨rfl⟩⟩
        replace hj : Hid (j = 254 - n) := hj
        replace hbj : Hid (bj = bit j) := hbj
        clear hlb
        have k1 := add_ok hS.1 hS.2.2.1
        have k2 := sub_ok hS.1 hS.2.2.1
        have k3 := add_ok hS.2.1 hS.2.2.2
        have k4 := sub_ok hS.2.1 hS.2.2.2
        have k5 := azEE_sm hS
        have k6 := azFF_sm hS
        have k7 := azHE_sm hS
        have k8 := azGF_sm hS
        have k9 := add_ok k7 k8
        have k10 := sub_ok k7 k8
        obtain ⟨Lv1, iv1⟩ : ∃ L, IsZ L (addZ S.a S.c) := ⟨_, ⟨rfl⟩⟩
        have Cv1 := fun X => cAdd ia ic iv1 hS.1.ok hS.2.2.1.ok X
        obtain ⟨Lv2, iv2⟩ : ∃ L, IsZ L (subZ S.a S.c) := ⟨_, ⟨rfl⟩⟩
        have Cv2 := fun X => cSub ia ic iv2 hS.1.ok hS.2.2.1.ok X
        obtain ⟨Lv3, iv3⟩ : ∃ L, IsZ L (addZ S.b S.d) := ⟨_, ⟨rfl⟩⟩
        have Cv3 := fun X => cAdd ib id iv3 hS.2.1.ok hS.2.2.2.ok X
        obtain ⟨Lv4, iv4⟩ : ∃ L, IsZ L (subZ S.b S.d) := ⟨_, ⟨rfl⟩⟩
        have Cv4 := fun X => cSub ib id iv4 hS.2.1.ok hS.2.2.2.ok X
        obtain ⟨Lv5, iv5⟩ : ∃ L, IsZ L (azEE S) := ⟨_, ⟨rfl⟩⟩
        have Cv5 := fun X => cMul iv1 iv1 iv5 k1 k1 X
        obtain ⟨Lv6, iv6⟩ : ∃ L, IsZ L (azFF S) := ⟨_, ⟨rfl⟩⟩
        have Cv6 := fun X => cMul iv2 iv2 iv6 k2 k2 X
        obtain ⟨Lv7, iv7⟩ : ∃ L, IsZ L (azHE S) := ⟨_, ⟨rfl⟩⟩
        have Cv7 := fun X => cMul iv4 iv1 iv7 k4 k1 X
        obtain ⟨Lv8, iv8⟩ : ∃ L, IsZ L (azGF S) := ⟨_, ⟨rfl⟩⟩
        have Cv8 := fun X => cMul iv3 iv2 iv8 k3 k2 X
        obtain ⟨Lv9, iv9⟩ : ∃ L, IsZ L (addZ (azHE S) (azGF S)) := ⟨_, ⟨rfl⟩⟩
        have Cv9 := fun X => cAdd iv7 iv8 iv9 k7.ok k8.ok X
        obtain ⟨Lv10, iv10⟩ : ∃ L, IsZ L (subZ (azHE S) (azGF S)) := ⟨_, ⟨rfl⟩⟩
        have Cv10 := fun X => cSub iv7 iv8 iv10 k7.ok k8.ok X
        obtain ⟨Ln1, in1⟩ : ∃ L, IsZ L ((azStep fx S).b) := ⟨_, ⟨rfl⟩⟩
        have Cn1 := fun X => cMul iv9 iv9 in1 k9 k9 X
        obtain ⟨Ln2, in2⟩ : ∃ L, IsZ L (mulZ (subZ (azHE S) (azGF S)) (subZ (azHE S) (azGF S))) := ⟨_, ⟨rfl⟩⟩
        have Cn2 := fun X => cMul iv10 iv10 in2 k10 k10 X
        obtain ⟨Ln3, in3⟩ : ∃ L, IsZ L ((azStep fx S).d) := ⟨_, ⟨rfl⟩⟩
        have Cn3 := fun X => cMul ix in2 in3 hx.ok (mulZ_sm k10 k10).ok X
        obtain ⟨Lv11, iv11⟩ : ∃ L, IsZ L (azW S) := ⟨_, ⟨rfl⟩⟩
        have Cv11 := fun X => cSub iv5 iv6 iv11 k5.ok k6.ok X
        obtain ⟨Ln4, in4⟩ : ∃ L, IsZ L ((azStep fx S).a) := ⟨_, ⟨rfl⟩⟩
        have Cn4 := fun X => cMul iv5 iv6 in4 k5.ok k6.ok X
        obtain ⟨Ln5, in5⟩ : ∃ L, IsZ L (mulZ (azW S) mZ) := ⟨_, ⟨rfl⟩⟩
        have Cn5 := fun X => cMul iv11 im in5 (azW_ok hS) mZ_sm.ok X
        obtain ⟨Ln6, in6⟩ : ∃ L, IsZ L (addZ (azEE S) (mulZ (azW S) mZ)) := ⟨_, ⟨rfl⟩⟩
        have Cn6 := fun X => cAdd iv5 in5 in6 k5.ok (azWM_sm hS).ok X
        obtain ⟨Ln7, in7⟩ : ∃ L, IsZ L ((azStep fx S).c) := ⟨_, ⟨rfl⟩⟩
        have Cn7 := fun X => cMul iv11 in6 in7 (azW_ok hS) (add_ok k5 (azWM_sm hS)) X
        clear k1 k2 k3 k4 k5 k6 k7 k8 k9 k10
        clear hS
        have q0 := ia.range ra
        have q1 := ic.range rc
        go_wp2_with (first | (with_reducible refine wpList_load_mid rfl 108 _ rfl Ga 0 rfl La _ q0 Tryz.underlying108 rfl ia.sz ?_) | (with_reducible refine wpList_load_mid rfl 108 _ rfl Gc 0 rfl Lc _ q1 Tryz.underlying108 rfl ic.sz ?_))
        clear q0 q1
        refine (Cv1 _).mono ?_
        rintro e wk1 ⟨rfl, bk1⟩
        have belk := below_on bel bk1
        obtain ⟨rv1, b2, tn⟩ := iv1.made wk1 w.heap.size belk.size hZ.out
        have hv1 : Gm < wk1.heap.size := by have := rm.lt; have := bk1.size; omega
        have b3 := below_on bk1 b2
        replace rx := rx.below b3
        replace ra := ra.below b3
        replace rb := rb.below b3
        replace rc := rc.below b3
        replace rd := rd.below b3
        replace rm := rm.below b3
        replace bel := below_on bel b3
        have q0 := ia.range ra
        have q1 := ic.range rc
        go_wp2_with (first | (with_reducible refine wpList_store_mid rfl 108 _ _ rfl wk1.heap.size 0 Lv1.toArray rfl rfl tn iv1.sz2 (all_oneCell_toArray iv1.one) ?_; (try dsimp only)) | (with_reducible refine wpList_load_mid rfl 108 _ rfl Ga 0 rfl La _ q0 Tryz.underlying108 rfl ia.sz ?_) | (with_reducible refine wpList_load_mid rfl 108 _ rfl Gc 0 rfl Lc _ q1 Tryz.underlying108 rfl ic.sz ?_))
        clear belk b2 b3 tn bk1 q0 q1
        generalize (wk1.alloc (.cells Z 108)).setCells wk1.heap.size 0 Lv1 = wq2 at rx ra rb rc rd rm rv1 bel ⊢
        generalize wk1.heap.size = Gv1 at rv1 hv1 ⊢
        refine (Cv2 _).mono ?_
        rintro e wk3 ⟨rfl, bk3⟩
        have belk := below_on bel bk3
        obtain ⟨rv2, b2, tn⟩ := iv2.made wk3 w.heap.size belk.size hZ.out
        have hv2 : Gm < wk3.heap.size := by have := rm.lt; have := bk3.size; omega
        have b3 := below_on bk3 b2
        replace rx := rx.below b3
        replace ra := ra.below b3
        replace rb := rb.below b3
        replace rc := rc.below b3
        replace rd := rd.below b3
        replace rm := rm.below b3
        replace rv1 := rv1.below b3
        replace bel := below_on bel b3
        have q0 := ib.range rb
        have q1 := id.range rd
        go_wp2_with (first | (with_reducible refine wpList_store_mid rfl 108 _ _ rfl wk3.heap.size 0 Lv2.toArray rfl rfl tn iv2.sz2 (all_oneCell_toArray iv2.one) ?_; (try dsimp only)) | (with_reducible refine wpList_load_mid rfl 108 _ rfl Gb 0 rfl Lb _ q0 Tryz.underlying108 rfl ib.sz ?_) | (with_reducible refine wpList_load_mid rfl 108 _ rfl Gd 0 rfl Ld _ q1 Tryz.underlying108 rfl id.sz ?_))
        clear belk b2 b3 tn bk3 q0 q1
        generalize (wk3.alloc (.cells Z 108)).setCells wk3.heap.size 0 Lv2 = wq4 at rx ra rb rc rd rm rv1 rv2 bel ⊢
        generalize wk3.heap.size = Gv2 at rv2 hv2 ⊢
        refine (Cv3 _).mono ?_
        rintro e wk5 ⟨rfl, bk5⟩
        have belk := below_on bel bk5
        obtain ⟨rv3, b2, tn⟩ := iv3.made wk5 w.heap.size belk.size hZ.out
        have hv3 : Gm < wk5.heap.size := by have := rm.lt; have := bk5.size; omega
        have b3 := below_on bk5 b2
        replace rx := rx.below b3
        replace ra := ra.below b3
        replace rb := rb.below b3
        replace rc := rc.below b3
        replace rd := rd.below b3
        replace rm := rm.below b3
        replace rv1 := rv1.below b3
        replace rv2 := rv2.below b3
        replace bel := below_on bel b3
        have q0 := ib.range rb
        have q1 := id.range rd
        go_wp2_with (first | (with_reducible refine wpList_store_mid rfl 108 _ _ rfl wk5.heap.size 0 Lv3.toArray rfl rfl tn iv3.sz2 (all_oneCell_toArray iv3.one) ?_; (try dsimp only)) | (with_reducible refine wpList_load_mid rfl 108 _ rfl Gb 0 rfl Lb _ q0 Tryz.underlying108 rfl ib.sz ?_) | (with_reducible refine wpList_load_mid rfl 108 _ rfl Gd 0 rfl Ld _ q1 Tryz.underlying108 rfl id.sz ?_))
        clear belk b2 b3 tn bk5 q0 q1
        generalize (wk5.alloc (.cells Z 108)).setCells wk5.heap.size 0 Lv3 = wq6 at rx ra rb rc rd rm rv1 rv2 rv3 bel ⊢
        generalize wk5.heap.size = Gv3 at rv3 hv3 ⊢
        refine (Cv4 _).mono ?_
        rintro e wk7 ⟨rfl, bk7⟩
        have belk := below_on bel bk7
        obtain ⟨rv4, b2, tn⟩ := iv4.made wk7 w.heap.size belk.size hZ.out
        have hv4 : Gm < wk7.heap.size := by have := rm.lt; have := bk7.size; omega
        have b3 := below_on bk7 b2
        replace rx := rx.below b3
        replace ra := ra.below b3
        replace rb := rb.below b3
        replace rc := rc.below b3
        replace rd := rd.below b3
        replace rm := rm.below b3
        replace rv1 := rv1.below b3
        replace rv2 := rv2.below b3
        replace rv3 := rv3.below b3
        replace bel := below_on bel b3
        have q0 := iv1.range rv1
        go_wp2_with (first | (with_reducible refine wpList_store_mid rfl 108 _ _ rfl wk7.heap.size 0 Lv4.toArray rfl rfl tn iv4.sz2 (all_oneCell_toArray iv4.one) ?_; (try dsimp only)) | (with_reducible refine wpList_load_mid rfl 108 _ rfl Gv1 0 rfl Lv1 _ q0 Tryz.underlying108 rfl iv1.sz ?_))
        clear belk b2 b3 tn bk7 q0
        generalize (wk7.alloc (.cells Z 108)).setCells wk7.heap.size 0 Lv4 = wq8 at rx ra rb rc rd rm rv1 rv2 rv3 rv4 bel ⊢
        generalize wk7.heap.size = Gv4 at rv4 hv4 ⊢
        refine (Cv5 _).mono ?_
        rintro e wk9 ⟨rfl, bk9⟩
        have belk := below_on bel bk9
        obtain ⟨rv5, b2, tn⟩ := iv5.made wk9 w.heap.size belk.size hZ.out
        have hv5 : Gm < wk9.heap.size := by have := rm.lt; have := bk9.size; omega
        have b3 := below_on bk9 b2
        replace rx := rx.below b3
        replace ra := ra.below b3
        replace rb := rb.below b3
        replace rc := rc.below b3
        replace rd := rd.below b3
        replace rm := rm.below b3
        replace rv1 := rv1.below b3
        replace rv2 := rv2.below b3
        replace rv3 := rv3.below b3
        replace rv4 := rv4.below b3
        replace bel := below_on bel b3
        have q0 := iv2.range rv2
        go_wp2_with (first | (with_reducible refine wpList_store_mid rfl 108 _ _ rfl wk9.heap.size 0 Lv5.toArray rfl rfl tn iv5.sz2 (all_oneCell_toArray iv5.one) ?_; (try dsimp only)) | (with_reducible refine wpList_load_mid rfl 108 _ rfl Gv2 0 rfl Lv2 _ q0 Tryz.underlying108 rfl iv2.sz ?_))
        clear belk b2 b3 tn bk9 q0
        generalize (wk9.alloc (.cells Z 108)).setCells wk9.heap.size 0 Lv5 = wq10 at rx ra rb rc rd rm rv1 rv2 rv3 rv4 rv5 bel ⊢
        generalize wk9.heap.size = Gv5 at rv5 hv5 ⊢
        refine (Cv6 _).mono ?_
        rintro e wk11 ⟨rfl, bk11⟩
        have belk := below_on bel bk11
        obtain ⟨rv6, b2, tn⟩ := iv6.made wk11 w.heap.size belk.size hZ.out
        have hv6 : Gm < wk11.heap.size := by have := rm.lt; have := bk11.size; omega
        have b3 := below_on bk11 b2
        replace rx := rx.below b3
        replace ra := ra.below b3
        replace rb := rb.below b3
        replace rc := rc.below b3
        replace rd := rd.below b3
        replace rm := rm.below b3
        replace rv1 := rv1.below b3
        replace rv2 := rv2.below b3
        replace rv3 := rv3.below b3
        replace rv4 := rv4.below b3
        replace rv5 := rv5.below b3
        replace bel := below_on bel b3
        have q0 := iv4.range rv4
        have q1 := iv1.range rv1
        go_wp2_with (first | (with_reducible refine wpList_store_mid rfl 108 _ _ rfl wk11.heap.size 0 Lv6.toArray rfl rfl tn iv6.sz2 (all_oneCell_toArray iv6.one) ?_; (try dsimp only)) | (with_reducible refine wpList_load_mid rfl 108 _ rfl Gv4 0 rfl Lv4 _ q0 Tryz.underlying108 rfl iv4.sz ?_) | (with_reducible refine wpList_load_mid rfl 108 _ rfl Gv1 0 rfl Lv1 _ q1 Tryz.underlying108 rfl iv1.sz ?_))
        clear belk b2 b3 tn bk11 q0 q1
        generalize (wk11.alloc (.cells Z 108)).setCells wk11.heap.size 0 Lv6 = wq12 at rx ra rb rc rd rm rv1 rv2 rv3 rv4 rv5 rv6 bel ⊢
        generalize wk11.heap.size = Gv6 at rv6 hv6 ⊢
        refine (Cv7 _).mono ?_
        rintro e wk13 ⟨rfl, bk13⟩
        have belk := below_on bel bk13
        obtain ⟨rv7, b2, tn⟩ := iv7.made wk13 w.heap.size belk.size hZ.out
        have hv7 : Gm < wk13.heap.size := by have := rm.lt; have := bk13.size; omega
        have b3 := below_on bk13 b2
        replace rx := rx.below b3
        replace ra := ra.below b3
        replace rb := rb.below b3
        replace rc := rc.below b3
        replace rd := rd.below b3
        replace rm := rm.below b3
        replace rv1 := rv1.below b3
        replace rv2 := rv2.below b3
        replace rv3 := rv3.below b3
        replace rv4 := rv4.below b3
        replace rv5 := rv5.below b3
        replace rv6 := rv6.below b3
        replace bel := below_on bel b3
        have q0 := iv3.range rv3
        have q1 := iv2.range rv2
        go_wp2_with (first | (with_reducible refine wpList_store_mid rfl 108 _ _ rfl wk13.heap.size 0 Lv7.toArray rfl rfl tn iv7.sz2 (all_oneCell_toArray iv7.one) ?_; (try dsimp only)) | (with_reducible refine wpList_load_mid rfl 108 _ rfl Gv3 0 rfl Lv3 _ q0 Tryz.underlying108 rfl iv3.sz ?_) | (with_reducible refine wpList_load_mid rfl 108 _ rfl Gv2 0 rfl Lv2 _ q1 Tryz.underlying108 rfl iv2.sz ?_))
        clear belk b2 b3 tn bk13 q0 q1
        clear rv1 rv4
        generalize (wk13.alloc (.cells Z 108)).setCells wk13.heap.size 0 Lv7 = wq14 at rx ra rb rc rd rm rv2 rv3 rv5 rv6 rv7 bel ⊢
        generalize wk13.heap.size = Gv7 at rv7 hv7 ⊢
        refine (Cv8 _).mono ?_
        rintro e wk15 ⟨rfl, bk15⟩
        have belk := below_on bel bk15
        obtain ⟨rv8, b2, tn⟩ := iv8.made wk15 w.heap.size belk.size hZ.out
        have hv8 : Gm < wk15.heap.size := by have := rm.lt; have := bk15.size; omega
        have b3 := below_on bk15 b2
        replace rx := rx.below b3
        replace ra := ra.below b3
        replace rb := rb.below b3
        replace rc := rc.below b3
        replace rd := rd.below b3
        replace rm := rm.below b3
        replace rv2 := rv2.below b3
        replace rv3 := rv3.below b3
        replace rv5 := rv5.below b3
        replace rv6 := rv6.below b3
        replace rv7 := rv7.below b3
        replace bel := below_on bel b3
        have q0 := iv7.range rv7
        have q1 := iv8.range rv8
        go_wp2_with (first | (with_reducible refine wpList_store_mid rfl 108 _ _ rfl wk15.heap.size 0 Lv8.toArray rfl rfl tn iv8.sz2 (all_oneCell_toArray iv8.one) ?_; (try dsimp only)) | (with_reducible refine wpList_load_mid rfl 108 _ rfl Gv7 0 rfl Lv7 _ q0 Tryz.underlying108 rfl iv7.sz ?_) | (with_reducible refine wpList_load_mid rfl 108 _ rfl _ 0 rfl Lv8 _ q1 Tryz.underlying108 rfl iv8.sz ?_))
        clear belk b2 b3 tn bk15 q0 q1
        clear rv2 rv3
        generalize (wk15.alloc (.cells Z 108)).setCells wk15.heap.size 0 Lv8 = wq16 at rx ra rb rc rd rm rv5 rv6 rv7 rv8 bel ⊢
        generalize wk15.heap.size = Gv8 at rv8 hv8 ⊢
        refine (Cv9 _).mono ?_
        rintro e wk17 ⟨rfl, bk17⟩
        have belk := below_on bel bk17
        obtain ⟨rv9, b2, tn⟩ := iv9.made wk17 w.heap.size belk.size hZ.out
        have hv9 : Gm < wk17.heap.size := by have := rm.lt; have := bk17.size; omega
        have b3 := below_on bk17 b2
        replace rx := rx.below b3
        replace ra := ra.below b3
        replace rb := rb.below b3
        replace rc := rc.below b3
        replace rd := rd.below b3
        replace rm := rm.below b3
        replace rv5 := rv5.below b3
        replace rv6 := rv6.below b3
        replace rv7 := rv7.below b3
        replace rv8 := rv8.below b3
        replace bel := below_on bel b3
        have q0 := iv7.range rv7
        have q1 := iv8.range rv8
        go_wp2_with (first | (with_reducible refine wpList_store_mid rfl 108 _ _ rfl wk17.heap.size 0 Lv9.toArray rfl rfl tn iv9.sz2 (all_oneCell_toArray iv9.one) ?_; (try dsimp only)) | (with_reducible refine wpList_load_mid rfl 108 _ rfl Gv7 0 rfl Lv7 _ q0 Tryz.underlying108 rfl iv7.sz ?_) | (with_reducible refine wpList_load_mid rfl 108 _ rfl Gv8 0 rfl Lv8 _ q1 Tryz.underlying108 rfl iv8.sz ?_))
        clear belk b2 b3 tn bk17 q0 q1
        generalize (wk17.alloc (.cells Z 108)).setCells wk17.heap.size 0 Lv9 = wq18 at rx ra rb rc rd rm rv5 rv6 rv7 rv8 rv9 bel ⊢
        generalize wk17.heap.size = Gv9 at rv9 hv9 ⊢
        refine (Cv10 _).mono ?_
        rintro e wk19 ⟨rfl, bk19⟩
        have belk := below_on bel bk19
        obtain ⟨rv10, b2, tn⟩ := iv10.made wk19 w.heap.size belk.size hZ.out
        have hv10 : Gm < wk19.heap.size := by have := rm.lt; have := bk19.size; omega
        have b3 := below_on bk19 b2
        replace rx := rx.below b3
        replace ra := ra.below b3
        replace rb := rb.below b3
        replace rc := rc.below b3
        replace rd := rd.below b3
        replace rm := rm.below b3
        replace rv5 := rv5.below b3
        replace rv6 := rv6.below b3
        replace rv7 := rv7.below b3
        replace rv8 := rv8.below b3
        replace rv9 := rv9.below b3
        replace bel := below_on bel b3
        have q0 := iv9.range rv9
        go_wp2_with (first | (with_reducible refine wpList_store_mid rfl 108 _ _ rfl wk19.heap.size 0 Lv10.toArray rfl rfl tn iv10.sz2 (all_oneCell_toArray iv10.one) ?_; (try dsimp only)) | (with_reducible refine wpList_load_mid rfl 108 _ rfl Gv9 0 rfl Lv9 _ q0 Tryz.underlying108 rfl iv9.sz ?_))
        clear belk b2 b3 tn bk19 q0
        clear rv7 rv8
        generalize (wk19.alloc (.cells Z 108)).setCells wk19.heap.size 0 Lv10 = wq20 at rx ra rb rc rd rm rv5 rv6 rv9 rv10 bel ⊢
        generalize wk19.heap.size = Gv10 at rv10 hv10 ⊢
        refine (Cn1 _).mono ?_
        rintro e wk21 ⟨rfl, bk21⟩
        replace rx := rx.below bk21
        replace ra := ra.below bk21
        replace rb := rb.below bk21
        replace rc := rc.below bk21
        replace rd := rd.below bk21
        replace rm := rm.below bk21
        replace rv5 := rv5.below bk21
        replace rv6 := rv6.below bk21
        replace rv9 := rv9.below bk21
        replace rv10 := rv10.below bk21
        replace bel := below_on bel bk21
        have rlo := rb.lt
        obtain ⟨rb', gn, tn⟩ := in1.put rb
        replace rx := rx.kept gn (by omega)
        replace ra := ra.kept gn (by omega)
        replace rc := rc.kept gn (by omega)
        replace rd := rd.kept gn (by omega)
        replace rm := rm.kept gn (by omega)
        replace rv5 := rv5.kept gn (by omega)
        replace rv6 := rv6.kept gn (by omega)
        replace rv9 := rv9.kept gn (by omega)
        replace rv10 := rv10.kept gn (by omega)
        replace bel := bel.grown gn (by omega) (fun k hk => by cases hk; exact rlo.1)
        clear rb rlo
        have rb := rb'
        clear rb'
        go_wp2_with (first | (with_reducible refine wpList_store_mid rfl 108 _ _ rfl Gb 0 Ln1.toArray rfl rfl tn in1.sz2 (all_oneCell_toArray in1.one) ?_; (try dsimp only)))
        clear tn gn bk21
        clear rv9
        generalize wk21.setCells Gb 0 Ln1 = wq22 at rx ra rb rc rd rm rv5 rv6 rv10 bel ⊢
        have hd0 : Below wq22.heap.size wq22 wq22.drew := (Below.refl _ _).drew
        refine wp_region_noPanic ?_
        refine wp_region_T 99 (fun X => X.rangeAt w.heap.size 0 Lx ∧ X.rangeAt Gv10 0 Lv10) (fun _ => True) (by kernel_rfl) ?_
        generalize wq22.drew = wd23 at hd0 ⊢
        replace rx := rx.below hd0
        replace ra := ra.below hd0
        replace rb := rb.below hd0
        replace rc := rc.below hd0
        replace rd := rd.below hd0
        replace rm := rm.below hd0
        replace rv5 := rv5.below hd0
        replace rv6 := rv6.below hd0
        replace rv10 := rv10.below hd0
        replace bel := below_on bel hd0
        clear hd0
        have hT : wd23.rangeAt w.heap.size 0 Lx ∧ wd23.rangeAt Gv10 0 Lv10 := ⟨ix.range rx, iv10.range rv10⟩
        refine anyT_takeT (i := 0) rfl (by kernel_rfl) (by kernel_rfl) (by kernel_rfl) (by kernel_rfl) (fun _ _ _ h => h) (yieldsIf_load_mid (by rfl) _ _ rfl _ _ rfl Lx _ (fun _ hw => hw.1) Tryz.underlying108 rfl ix.sz) hT (fun _ => trivial) ?_
        simp only [Act.put, List.getElem_toArray, List.getElem_cons_zero, List.setIfInBounds_toArray, List.set_cons_zero, List.set_cons_succ]
        refine anyT_takeT (i := 1) rfl (by kernel_rfl) (by kernel_rfl) (by kernel_rfl) (by kernel_rfl) (fun _ _ _ h => h) (yieldsIf_load_mid (by rfl) _ _ rfl _ _ rfl Lv10 _ (fun _ hw => hw.2) Tryz.underlying108 rfl iv10.sz) hT (fun _ => trivial) ?_
        simp only [Act.put, List.getElem_toArray, List.getElem_cons_zero, List.getElem_cons_succ, List.setIfInBounds_toArray, List.set_cons_zero, List.set_cons_succ]
        refine anyT_takeT (i := 2) rfl (by kernel_rfl) (by kernel_rfl) (by kernel_rfl) (by kernel_rfl) (fun _ _ _ h => h) (yieldsIf_load_mid (by rfl) _ _ rfl _ _ rfl Lv10 _ (fun _ hw => hw.2) Tryz.underlying108 rfl iv10.sz) hT (fun _ => trivial) ?_
        simp only [Act.put, List.getElem_toArray, List.getElem_cons_zero, List.getElem_cons_succ, List.setIfInBounds_toArray, List.set_cons_zero, List.set_cons_succ]
        refine anyT_one (i := 3) (by kernel_rfl) rfl (fun K hK => ?_)
        go_simp
        refine (Cn2 _).mono ?_
        rintro e wc24 ⟨rfl, bc⟩
        replace rx := rx.below bc
        replace ra := ra.below bc
        replace rb := rb.below bc
        replace rc := rc.below bc
        replace rd := rd.below bc
        replace rm := rm.below bc
        replace rv5 := rv5.below bc
        replace rv6 := rv6.below bc
        replace rv10 := rv10.below bc
        replace bel := below_on bel bc
        go_wp2_with (fail)
        refine hK.out _ _ ⟨ix.range rx, iv10.range rv10⟩ (fun _ => trivial) ?_
        clear hK K bc
        refine anyT_one (i := 4) (by kernel_rfl) rfl (fun K hK => ?_)
        go_simp
        refine (Cn3 _).mono ?_
        rintro e wc25 ⟨rfl, bc⟩
        replace rx := rx.below bc
        replace ra := ra.below bc
        replace rb := rb.below bc
        replace rc := rc.below bc
        replace rd := rd.below bc
        replace rm := rm.below bc
        replace rv5 := rv5.below bc
        replace rv6 := rv6.below bc
        replace rv10 := rv10.below bc
        replace bel := below_on bel bc
        go_wp2_with (fail)
        refine hK.out _ _ ⟨ix.range rx, iv10.range rv10⟩ (fun _ => trivial) ?_
        clear hK K bc
        clear hT
        have rlo := rd.lt
        obtain ⟨rd', gn, tn⟩ := in3.put rd
        replace rx := rx.kept gn (by omega)
        replace ra := ra.kept gn (by omega)
        replace rb := rb.kept gn (by omega)
        replace rc := rc.kept gn (by omega)
        replace rm := rm.kept gn (by omega)
        replace rv5 := rv5.kept gn (by omega)
        replace rv6 := rv6.kept gn (by omega)
        replace rv10 := rv10.kept gn (by omega)
        replace bel := bel.grown gn (by omega) (fun k hk => by cases hk; exact rlo.1)
        clear rd rlo
        have rd := rd'
        clear rd'
        refine anyT_one (i := 5) (by kernel_rfl) rfl (fun K hK => ?_)
        refine wp_store_mid 108 _ _ rfl Gd 0 Ln3.toArray rfl rfl tn in3.sz2 (all_oneCell_toArray in3.one) ?_
        (try dsimp only)
        refine hK.out _ _ ⟨ix.range rx, iv10.range rv10⟩ (fun _ => trivial) ?_
        clear hK K
        refine anyT_done (by kernel_rfl) ?_ _
        refine NoPanic.normal ?_
        clear tn gn
        clear rv10
        generalize wc25.setCells Gd 0 Ln3 = wq26 at rx ra rb rc rd rm rv5 rv6 bel ⊢
        have q0 := iv5.range rv5
        have q1 := iv6.range rv6
        go_wp2_with (first | (with_reducible refine wpList_load_mid rfl 108 _ rfl Gv5 0 rfl Lv5 _ q0 Tryz.underlying108 rfl iv5.sz ?_) | (with_reducible refine wpList_load_mid rfl 108 _ rfl _ 0 rfl Lv6 _ q1 Tryz.underlying108 rfl iv6.sz ?_))
        clear q0 q1
        refine (Cv11 _).mono ?_
        rintro e wk27 ⟨rfl, bk27⟩
        have belk := below_on bel bk27
        obtain ⟨rv11, b2, tn⟩ := iv11.made wk27 w.heap.size belk.size hZ.out
        have hv11 : Gm < wk27.heap.size := by have := rm.lt; have := bk27.size; omega
        have b3 := below_on bk27 b2
        replace rx := rx.below b3
        replace ra := ra.below b3
        replace rb := rb.below b3
        replace rc := rc.below b3
        replace rd := rd.below b3
        replace rm := rm.below b3
        replace rv5 := rv5.below b3
        replace rv6 := rv6.below b3
        replace bel := below_on bel b3
        have q0 := iv5.range rv5
        have q1 := iv6.range rv6
        go_wp2_with (first | (with_reducible refine wpList_store_mid rfl 108 _ _ rfl wk27.heap.size 0 Lv11.toArray rfl rfl tn iv11.sz2 (all_oneCell_toArray iv11.one) ?_; (try dsimp only)) | (with_reducible refine wpList_load_mid rfl 108 _ rfl Gv5 0 rfl Lv5 _ q0 Tryz.underlying108 rfl iv5.sz ?_) | (with_reducible refine wpList_load_mid rfl 108 _ rfl Gv6 0 rfl Lv6 _ q1 Tryz.underlying108 rfl iv6.sz ?_))
        clear belk b2 b3 tn bk27 q0 q1
        generalize (wk27.alloc (.cells Z 108)).setCells wk27.heap.size 0 Lv11 = wq28 at rx ra rb rc rd rm rv5 rv6 rv11 bel ⊢
        generalize wk27.heap.size = Gv11 at rv11 hv11 ⊢
        refine (Cn4 _).mono ?_
        rintro e wk29 ⟨rfl, bk29⟩
        replace rx := rx.below bk29
        replace ra := ra.below bk29
        replace rb := rb.below bk29
        replace rc := rc.below bk29
        replace rd := rd.below bk29
        replace rm := rm.below bk29
        replace rv5 := rv5.below bk29
        replace rv6 := rv6.below bk29
        replace rv11 := rv11.below bk29
        replace bel := below_on bel bk29
        have rlo := ra.lt
        obtain ⟨ra', gn, tn⟩ := in4.put ra
        replace rx := rx.kept gn (by omega)
        replace rb := rb.kept gn (by omega)
        replace rc := rc.kept gn (by omega)
        replace rd := rd.kept gn (by omega)
        replace rm := rm.kept gn (by omega)
        replace rv5 := rv5.kept gn (by omega)
        replace rv6 := rv6.kept gn (by omega)
        replace rv11 := rv11.kept gn (by omega)
        replace bel := bel.grown gn (by omega) (fun k hk => by cases hk; exact rlo.1)
        clear ra rlo
        have ra := ra'
        clear ra'
        go_wp2_with (first | (with_reducible refine wpList_store_mid rfl 108 _ _ rfl Ga 0 Ln4.toArray rfl rfl tn in4.sz2 (all_oneCell_toArray in4.one) ?_; (try dsimp only)))
        clear tn gn bk29
        clear rv6
        generalize wk29.setCells Ga 0 Ln4 = wq30 at rx ra rb rc rd rm rv5 rv11 bel ⊢
        have hd0 : Below wq30.heap.size wq30 wq30.drew := (Below.refl _ _).drew
        refine wp_region_noPanic ?_
        refine wp_region_T 99 (fun X => X.rangeAt Gv11 0 Lv11 ∧ X.rangeAt Gv5 0 Lv5 ∧ X.rangeAt Gm 0 Lm) (fun _ => True) (by kernel_rfl) ?_
        generalize wq30.drew = wd31 at hd0 ⊢
        replace rx := rx.below hd0
        replace ra := ra.below hd0
        replace rb := rb.below hd0
        replace rc := rc.below hd0
        replace rd := rd.below hd0
        replace rm := rm.below hd0
        replace rv5 := rv5.below hd0
        replace rv11 := rv11.below hd0
        replace bel := below_on bel hd0
        clear hd0
        have hT : wd31.rangeAt Gv11 0 Lv11 ∧ wd31.rangeAt Gv5 0 Lv5 ∧ wd31.rangeAt Gm 0 Lm := ⟨iv11.range rv11, iv5.range rv5, im.range rm⟩
        refine anyT_takeT (i := 0) rfl (by kernel_rfl) (by kernel_rfl) (by kernel_rfl) (by kernel_rfl) (fun _ _ _ h => h) (yieldsIf_load_mid (by rfl) _ _ rfl _ _ rfl Lv11 _ (fun _ hw => hw.1) Tryz.underlying108 rfl iv11.sz) hT (fun _ => trivial) ?_
        simp only [Act.put, List.getElem_toArray, List.getElem_cons_zero, List.setIfInBounds_toArray, List.set_cons_zero, List.set_cons_succ]
        refine anyT_takeT (i := 1) rfl (by kernel_rfl) (by kernel_rfl) (by kernel_rfl) (by kernel_rfl) (fun _ _ _ h => h) (yieldsIf_load_mid (by rfl) _ _ rfl _ _ rfl Lv5 _ (fun _ hw => hw.2.1) Tryz.underlying108 rfl iv5.sz) hT (fun _ => trivial) ?_
        simp only [Act.put, List.getElem_toArray, List.getElem_cons_zero, List.getElem_cons_succ, List.setIfInBounds_toArray, List.set_cons_zero, List.set_cons_succ]
        refine anyT_takeT (i := 2) rfl (by kernel_rfl) (by kernel_rfl) (by kernel_rfl) (by kernel_rfl) (fun _ _ _ h => h) (yieldsIf_load_mid (by rfl) _ _ rfl _ _ rfl Lv11 _ (fun _ hw => hw.1) Tryz.underlying108 rfl iv11.sz) hT (fun _ => trivial) ?_
        simp only [Act.put, List.getElem_toArray, List.getElem_cons_zero, List.getElem_cons_succ, List.setIfInBounds_toArray, List.set_cons_zero, List.set_cons_succ]
        refine anyT_takeT (i := 3) rfl (by kernel_rfl) (by kernel_rfl) (by kernel_rfl) (by kernel_rfl) (fun _ _ _ h => h) (yieldsIf_load_mid (by rfl) _ _ rfl _ _ rfl Lm _ (fun _ hw => hw.2.2) Tryz.underlying108 rfl im.sz) hT (fun _ => trivial) ?_
        simp only [Act.put, List.getElem_toArray, List.getElem_cons_zero, List.getElem_cons_succ, List.setIfInBounds_toArray, List.set_cons_zero, List.set_cons_succ]
        refine anyT_one (i := 4) (by kernel_rfl) rfl (fun K hK => ?_)
        go_simp
        refine (Cn5 _).mono ?_
        rintro e wc32 ⟨rfl, bc⟩
        replace rx := rx.below bc
        replace ra := ra.below bc
        replace rb := rb.below bc
        replace rc := rc.below bc
        replace rd := rd.below bc
        replace rm := rm.below bc
        replace rv5 := rv5.below bc
        replace rv11 := rv11.below bc
        replace bel := below_on bel bc
        go_wp2_with (fail)
        refine hK.out _ _ ⟨iv11.range rv11, iv5.range rv5, im.range rm⟩ (fun _ => trivial) ?_
        clear hK K bc
        refine anyT_one (i := 5) (by kernel_rfl) rfl (fun K hK => ?_)
        go_simp
        refine (Cn6 _).mono ?_
        rintro e wc33 ⟨rfl, bc⟩
        replace rx := rx.below bc
        replace ra := ra.below bc
        replace rb := rb.below bc
        replace rc := rc.below bc
        replace rd := rd.below bc
        replace rm := rm.below bc
        replace rv5 := rv5.below bc
        replace rv11 := rv11.below bc
        replace bel := below_on bel bc
        go_wp2_with (fail)
        refine hK.out _ _ ⟨iv11.range rv11, iv5.range rv5, im.range rm⟩ (fun _ => trivial) ?_
        clear hK K bc
        refine anyT_one (i := 6) (by kernel_rfl) rfl (fun K hK => ?_)
        go_simp
        refine (Cn7 _).mono ?_
        rintro e wc34 ⟨rfl, bc⟩
        replace rx := rx.below bc
        replace ra := ra.below bc
        replace rb := rb.below bc
        replace rc := rc.below bc
        replace rd := rd.below bc
        replace rm := rm.below bc
        replace rv5 := rv5.below bc
        replace rv11 := rv11.below bc
        replace bel := below_on bel bc
        go_wp2_with (fail)
        refine hK.out _ _ ⟨iv11.range rv11, iv5.range rv5, im.range rm⟩ (fun _ => trivial) ?_
        clear hK K bc
        clear hT
        have rlo := rc.lt
        obtain ⟨rc', gn, tn⟩ := in7.put rc
        replace rx := rx.kept gn (by omega)
        replace ra := ra.kept gn (by omega)
        replace rb := rb.kept gn (by omega)
        replace rd := rd.kept gn (by omega)
        replace rm := rm.kept gn (by omega)
        replace rv5 := rv5.kept gn (by omega)
        replace rv11 := rv11.kept gn (by omega)
        replace bel := bel.grown gn (by omega) (fun k hk => by cases hk; exact rlo.1)
        clear rc rlo
        have rc := rc'
        clear rc'
        refine anyT_one (i := 7) (by kernel_rfl) rfl (fun K hK => ?_)
        refine wp_store_mid 108 _ _ rfl Gc 0 Ln7.toArray rfl rfl tn in7.sz2 (all_oneCell_toArray in7.one) ?_
        (try dsimp only)
        refine hK.out _ _ ⟨iv11.range rv11, iv5.range rv5, im.range rm⟩ (fun _ => trivial) ?_
        clear hK K
        refine anyT_done (by kernel_rfl) ?_ _
        refine NoPanic.normal ?_
        clear tn gn
        clear rv5 rv11
        generalize wc34.setCells Gc 0 Ln7 = wq35 at rx ra rb rc rd rm bel ⊢
        go_wp2_with (fail)
        go_roundw
        case rel => exact ⟨n + 1, by omega, by have := hj.out; congr 1; omega, by rw [hbj.out, hj.out]; unfold lastB; rw [if_neg (by omega), show 255 - (n + 1) = 254 - n by omega], rx, by rw [hSn.out]; exact ra, by rw [hSn.out]; exact rb, by rw [hSn.out]; exact rc, by rw [hSn.out]; exact rd, rm, bel⟩
        case measure => simp [intOf]
      · have hne : (bitI bj != bitI lb) = true := by cases bj <;> cases lb <;> simp_all [bitI]
        have hsb : (bj != lb) = true := by simpa using hsw
        obtain ⟨S, hSe⟩ : ∃ S, S = azSw P := ⟨_, rfl⟩
        have hSn : Hid (azN bit fx (n + 1) = azStep fx S) := by rw [Hid, azN, hSe, hP, ← hj, ← hbj, ← hlb, hsb]; rfl
        have hS : azOk S := by rw [hSe]; exact ⟨hO.2.1, hO.1, hO.2.2.2, hO.2.2.1⟩
        have ra0 : RowZ 108 16 wr w.heap.size Ga S.b := by rw [hSe]; exact ra
        have rb0 : RowZ 108 16 wr w.heap.size Gb S.a := by rw [hSe]; exact rb
        have rc0 : RowZ 108 16 wr w.heap.size Gc S.d := by rw [hSe]; exact rc
        have rd0 : RowZ 108 16 wr w.heap.size Gd S.c := by rw [hSe]; exact rd
        clear ra rb rc rd hO hSe hP hsw hsb
        have ra := ra0
        have rb := rb0
        have rc := rc0
        have rd := rd0
        clear ra0 rb0 rc0 rd0
        obtain ⟨La, ia⟩ : ∃ L, IsZ L S.a := ⟨_, ⟨rfl⟩⟩
        obtain ⟨Lb, ib⟩ : ∃ L, IsZ L S.b := ⟨_, ⟨rfl⟩⟩
        obtain ⟨Lc, ic⟩ : ∃ L, IsZ L S.c := ⟨_, ⟨rfl⟩⟩
        obtain ⟨Ld, id⟩ : ∃ L, IsZ L S.d := ⟨_, ⟨rfl⟩⟩
        replace hj : Hid (j = 254 - n) := hj
        replace hbj : Hid (bj = bit j) := hbj
        clear hlb
        have k1 := add_ok hS.1 hS.2.2.1
        have k2 := sub_ok hS.1 hS.2.2.1
        have k3 := add_ok hS.2.1 hS.2.2.2
        have k4 := sub_ok hS.2.1 hS.2.2.2
        have k5 := azEE_sm hS
        have k6 := azFF_sm hS
        have k7 := azHE_sm hS
        have k8 := azGF_sm hS
        have k9 := add_ok k7 k8
        have k10 := sub_ok k7 k8
        obtain ⟨Lv1, iv1⟩ : ∃ L, IsZ L (addZ S.a S.c) := ⟨_, ⟨rfl⟩⟩
        have Cv1 := fun X => cAdd ia ic iv1 hS.1.ok hS.2.2.1.ok X
        obtain ⟨Lv2, iv2⟩ : ∃ L, IsZ L (subZ S.a S.c) := ⟨_, ⟨rfl⟩⟩
        have Cv2 := fun X => cSub ia ic iv2 hS.1.ok hS.2.2.1.ok X
        obtain ⟨Lv3, iv3⟩ : ∃ L, IsZ L (addZ S.b S.d) := ⟨_, ⟨rfl⟩⟩
        have Cv3 := fun X => cAdd ib id iv3 hS.2.1.ok hS.2.2.2.ok X
        obtain ⟨Lv4, iv4⟩ : ∃ L, IsZ L (subZ S.b S.d) := ⟨_, ⟨rfl⟩⟩
        have Cv4 := fun X => cSub ib id iv4 hS.2.1.ok hS.2.2.2.ok X
        obtain ⟨Lv5, iv5⟩ : ∃ L, IsZ L (azEE S) := ⟨_, ⟨rfl⟩⟩
        have Cv5 := fun X => cMul iv1 iv1 iv5 k1 k1 X
        obtain ⟨Lv6, iv6⟩ : ∃ L, IsZ L (azFF S) := ⟨_, ⟨rfl⟩⟩
        have Cv6 := fun X => cMul iv2 iv2 iv6 k2 k2 X
        obtain ⟨Lv7, iv7⟩ : ∃ L, IsZ L (azHE S) := ⟨_, ⟨rfl⟩⟩
        have Cv7 := fun X => cMul iv4 iv1 iv7 k4 k1 X
        obtain ⟨Lv8, iv8⟩ : ∃ L, IsZ L (azGF S) := ⟨_, ⟨rfl⟩⟩
        have Cv8 := fun X => cMul iv3 iv2 iv8 k3 k2 X
        obtain ⟨Lv9, iv9⟩ : ∃ L, IsZ L (addZ (azHE S) (azGF S)) := ⟨_, ⟨rfl⟩⟩
        have Cv9 := fun X => cAdd iv7 iv8 iv9 k7.ok k8.ok X
        obtain ⟨Lv10, iv10⟩ : ∃ L, IsZ L (subZ (azHE S) (azGF S)) := ⟨_, ⟨rfl⟩⟩
        have Cv10 := fun X => cSub iv7 iv8 iv10 k7.ok k8.ok X
        obtain ⟨Ln1, in1⟩ : ∃ L, IsZ L ((azStep fx S).b) := ⟨_, ⟨rfl⟩⟩
        have Cn1 := fun X => cMul iv9 iv9 in1 k9 k9 X
        obtain ⟨Ln2, in2⟩ : ∃ L, IsZ L (mulZ (subZ (azHE S) (azGF S)) (subZ (azHE S) (azGF S))) := ⟨_, ⟨rfl⟩⟩
        have Cn2 := fun X => cMul iv10 iv10 in2 k10 k10 X
        obtain ⟨Ln3, in3⟩ : ∃ L, IsZ L ((azStep fx S).d) := ⟨_, ⟨rfl⟩⟩
        have Cn3 := fun X => cMul ix in2 in3 hx.ok (mulZ_sm k10 k10).ok X
        obtain ⟨Lv11, iv11⟩ : ∃ L, IsZ L (azW S) := ⟨_, ⟨rfl⟩⟩
        have Cv11 := fun X => cSub iv5 iv6 iv11 k5.ok k6.ok X
        obtain ⟨Ln4, in4⟩ : ∃ L, IsZ L ((azStep fx S).a) := ⟨_, ⟨rfl⟩⟩
        have Cn4 := fun X => cMul iv5 iv6 in4 k5.ok k6.ok X
        obtain ⟨Ln5, in5⟩ : ∃ L, IsZ L (mulZ (azW S) mZ) := ⟨_, ⟨rfl⟩⟩
        have Cn5 := fun X => cMul iv11 im in5 (azW_ok hS) mZ_sm.ok X
        obtain ⟨Ln6, in6⟩ : ∃ L, IsZ L (addZ (azEE S) (mulZ (azW S) mZ)) := ⟨_, ⟨rfl⟩⟩
        have Cn6 := fun X => cAdd iv5 in5 in6 k5.ok (azWM_sm hS).ok X
        obtain ⟨Ln7, in7⟩ : ∃ L, IsZ L ((azStep fx S).c) := ⟨_, ⟨rfl⟩⟩
        have Cn7 := fun X => cMul iv11 in6 in7 (azW_ok hS) (add_ok k5 (azWM_sm hS)) X
        clear k1 k2 k3 k4 k5 k6 k7 k8 k9 k10
        clear hS
        have p1 := ib.range ra
        obtain ⟨rt, bq, t1⟩ := ib.made wr w.heap.size bel.size hZ.out
        have ht : Gm < wr.heap.size := rm.lt.2
        replace rx := rx.below bq
        replace ra := ra.below bq
        replace rb := rb.below bq
        replace rc := rc.below bq
        replace rd := rd.below bq
        replace rm := rm.below bq
        replace bel := below_on bel bq
        have p2 := ia.range rb
        have rlo := ra.lt
        obtain ⟨rr, gq, t2⟩ := ia.put ra
        replace rx := rx.kept gq (by omega)
        replace rb := rb.kept gq (by omega)
        replace rc := rc.kept gq (by omega)
        replace rd := rd.kept gq (by omega)
        replace rm := rm.kept gq (by omega)
        replace rt := rt.kept gq (by omega)
        replace bel := bel.grown gq bel.size (fun k hk => by cases hk; exact rlo.1)
        clear ra rlo gq
        have ra := rr
        clear rr
        have p3 := ib.range rt
        have rlo := rb.lt
        obtain ⟨rr, gq, t3⟩ := ib.put rb
        replace rx := rx.kept gq (by omega)
        replace ra := ra.kept gq (by omega)
        replace rc := rc.kept gq (by omega)
        replace rd := rd.kept gq (by omega)
        replace rm := rm.kept gq (by omega)
        replace rt := rt.kept gq (by omega)
        replace bel := bel.grown gq bel.size (fun k hk => by cases hk; exact rlo.1)
        clear rb rlo gq
        have rb := rr
        clear rr
        have p4 := id.range rc
        have rlo := rt.lt
        obtain ⟨rr, gq, t4⟩ := id.put rt
        replace rx := rx.kept gq (by omega)
        replace ra := ra.kept gq (by omega)
        replace rb := rb.kept gq (by omega)
        replace rc := rc.kept gq (by omega)
        replace rd := rd.kept gq (by omega)
        replace rm := rm.kept gq (by omega)
        replace bel := bel.grown gq bel.size (fun k hk => by cases hk; exact rlo.1)
        clear rt rlo gq
        have rt := rr
        clear rr
        have p5 := ic.range rd
        have rlo := rc.lt
        obtain ⟨rr, gq, t5⟩ := ic.put rc
        replace rx := rx.kept gq (by omega)
        replace ra := ra.kept gq (by omega)
        replace rb := rb.kept gq (by omega)
        replace rd := rd.kept gq (by omega)
        replace rm := rm.kept gq (by omega)
        replace rt := rt.kept gq (by omega)
        replace bel := bel.grown gq bel.size (fun k hk => by cases hk; exact rlo.1)
        clear rc rlo gq
        have rc := rr
        clear rr
        have p6 := id.range rt
        have rlo := rd.lt
        obtain ⟨rr, gq, t6⟩ := id.put rd
        replace rx := rx.kept gq (by omega)
        replace ra := ra.kept gq (by omega)
        replace rb := rb.kept gq (by omega)
        replace rc := rc.kept gq (by omega)
        replace rm := rm.kept gq (by omega)
        replace rt := rt.kept gq (by omega)
        replace bel := bel.grown gq bel.size (fun k hk => by cases hk; exact rlo.1)
        clear rd rlo gq
        have rd := rr
        clear rr
        have p7 := ia.range ra
        have p8 := ic.range rc
        go_wp2_with (first | (with_reducible refine wpList_load_mid rfl 108 _ rfl Ga 0 rfl Lb _ p1 Tryz.underlying108 rfl ib.sz ?_) | (with_reducible refine wpList_store_mid rfl 108 _ _ rfl wr.heap.size 0 Lb.toArray rfl rfl t1 ib.sz2 (all_oneCell_toArray ib.one) ?_; (try dsimp only)) | (with_reducible refine wpList_load_mid rfl 108 _ rfl Gb 0 rfl La _ p2 Tryz.underlying108 rfl ia.sz ?_) | (with_reducible refine wpList_store_mid rfl 108 _ _ rfl Ga 0 La.toArray rfl rfl t2 ia.sz2 (all_oneCell_toArray ia.one) ?_; (try dsimp only)) | (with_reducible refine wpList_load_mid rfl 108 _ rfl wr.heap.size 0 rfl Lb _ p3 Tryz.underlying108 rfl ib.sz ?_) | (with_reducible refine wpList_store_mid rfl 108 _ _ rfl Gb 0 Lb.toArray rfl rfl t3 ib.sz2 (all_oneCell_toArray ib.one) ?_; (try dsimp only)) | (with_reducible refine wpList_load_mid rfl 108 _ rfl Gc 0 rfl Ld _ p4 Tryz.underlying108 rfl id.sz ?_) | (with_reducible refine wpList_store_mid rfl 108 _ _ rfl wr.heap.size 0 Ld.toArray rfl rfl t4 id.sz2 (all_oneCell_toArray id.one) ?_; (try dsimp only)) | (with_reducible refine wpList_load_mid rfl 108 _ rfl Gd 0 rfl Lc _ p5 Tryz.underlying108 rfl ic.sz ?_) | (with_reducible refine wpList_store_mid rfl 108 _ _ rfl Gc 0 Lc.toArray rfl rfl t5 ic.sz2 (all_oneCell_toArray ic.one) ?_; (try dsimp only)) | (with_reducible refine wpList_load_mid rfl 108 _ rfl wr.heap.size 0 rfl Ld _ p6 Tryz.underlying108 rfl id.sz ?_) | (with_reducible refine wpList_store_mid rfl 108 _ _ rfl Gd 0 Ld.toArray rfl rfl t6 id.sz2 (all_oneCell_toArray id.one) ?_; (try dsimp only)) | (with_reducible refine wpList_load_mid rfl 108 _ rfl Ga 0 rfl La _ p7 Tryz.underlying108 rfl ia.sz ?_) | (with_reducible refine wpList_load_mid rfl 108 _ rfl Gc 0 rfl Lc _ p8 Tryz.underlying108 rfl ic.sz ?_))
        clear rt ht p1 p2 p3 p4 p5 p6 p7 p8 t1 t2 t3 t4 t5 t6 bq
        generalize World.setCells _ Gd 0 _ = wz at rx ra rb rc rd rm bel ⊢
        refine (Cv1 _).mono ?_
        rintro e wk1 ⟨rfl, bk1⟩
        have belk := below_on bel bk1
        obtain ⟨rv1, b2, tn⟩ := iv1.made wk1 w.heap.size belk.size hZ.out
        have hv1 : Gm < wk1.heap.size := by have := rm.lt; have := bk1.size; omega
        have b3 := below_on bk1 b2
        replace rx := rx.below b3
        replace ra := ra.below b3
        replace rb := rb.below b3
        replace rc := rc.below b3
        replace rd := rd.below b3
        replace rm := rm.below b3
        replace bel := below_on bel b3
        have q0 := ia.range ra
        have q1 := ic.range rc
        go_wp2_with (first | (with_reducible refine wpList_store_mid rfl 108 _ _ rfl wk1.heap.size 0 Lv1.toArray rfl rfl tn iv1.sz2 (all_oneCell_toArray iv1.one) ?_; (try dsimp only)) | (with_reducible refine wpList_load_mid rfl 108 _ rfl Ga 0 rfl La _ q0 Tryz.underlying108 rfl ia.sz ?_) | (with_reducible refine wpList_load_mid rfl 108 _ rfl Gc 0 rfl Lc _ q1 Tryz.underlying108 rfl ic.sz ?_))
        clear belk b2 b3 tn bk1 q0 q1
        generalize (wk1.alloc (.cells Z 108)).setCells wk1.heap.size 0 Lv1 = wq2 at rx ra rb rc rd rm rv1 bel ⊢
        generalize wk1.heap.size = Gv1 at rv1 hv1 ⊢
        refine (Cv2 _).mono ?_
        rintro e wk3 ⟨rfl, bk3⟩
        have belk := below_on bel bk3
        obtain ⟨rv2, b2, tn⟩ := iv2.made wk3 w.heap.size belk.size hZ.out
        have hv2 : Gm < wk3.heap.size := by have := rm.lt; have := bk3.size; omega
        have b3 := below_on bk3 b2
        replace rx := rx.below b3
        replace ra := ra.below b3
        replace rb := rb.below b3
        replace rc := rc.below b3
        replace rd := rd.below b3
        replace rm := rm.below b3
        replace rv1 := rv1.below b3
        replace bel := below_on bel b3
        have q0 := ib.range rb
        have q1 := id.range rd
        go_wp2_with (first | (with_reducible refine wpList_store_mid rfl 108 _ _ rfl wk3.heap.size 0 Lv2.toArray rfl rfl tn iv2.sz2 (all_oneCell_toArray iv2.one) ?_; (try dsimp only)) | (with_reducible refine wpList_load_mid rfl 108 _ rfl Gb 0 rfl Lb _ q0 Tryz.underlying108 rfl ib.sz ?_) | (with_reducible refine wpList_load_mid rfl 108 _ rfl Gd 0 rfl Ld _ q1 Tryz.underlying108 rfl id.sz ?_))
        clear belk b2 b3 tn bk3 q0 q1
        generalize (wk3.alloc (.cells Z 108)).setCells wk3.heap.size 0 Lv2 = wq4 at rx ra rb rc rd rm rv1 rv2 bel ⊢
        generalize wk3.heap.size = Gv2 at rv2 hv2 ⊢
        refine (Cv3 _).mono ?_
        rintro e wk5 ⟨rfl, bk5⟩
        have belk := below_on bel bk5
        obtain ⟨rv3, b2, tn⟩ := iv3.made wk5 w.heap.size belk.size hZ.out
        have hv3 : Gm < wk5.heap.size := by have := rm.lt; have := bk5.size; omega
        have b3 := below_on bk5 b2
        replace rx := rx.below b3
        replace ra := ra.below b3
        replace rb := rb.below b3
        replace rc := rc.below b3
        replace rd := rd.below b3
        replace rm := rm.below b3
        replace rv1 := rv1.below b3
        replace rv2 := rv2.below b3
        replace bel := below_on bel b3
        have q0 := ib.range rb
        have q1 := id.range rd
        go_wp2_with (first | (with_reducible refine wpList_store_mid rfl 108 _ _ rfl wk5.heap.size 0 Lv3.toArray rfl rfl tn iv3.sz2 (all_oneCell_toArray iv3.one) ?_; (try dsimp only)) | (with_reducible refine wpList_load_mid rfl 108 _ rfl Gb 0 rfl Lb _ q0 Tryz.underlying108 rfl ib.sz ?_) | (with_reducible refine wpList_load_mid rfl 108 _ rfl Gd 0 rfl Ld _ q1 Tryz.underlying108 rfl id.sz ?_))
        clear belk b2 b3 tn bk5 q0 q1
        generalize (wk5.alloc (.cells Z 108)).setCells wk5.heap.size 0 Lv3 = wq6 at rx ra rb rc rd rm rv1 rv2 rv3 bel ⊢
        generalize wk5.heap.size = Gv3 at rv3 hv3 ⊢
        refine (Cv4 _).mono ?_
        rintro e wk7 ⟨rfl, bk7⟩
        have belk := below_on bel bk7
        obtain ⟨rv4, b2, tn⟩ := iv4.made wk7 w.heap.size belk.size hZ.out
        have hv4 : Gm < wk7.heap.size := by have := rm.lt; have := bk7.size; omega
        have b3 := below_on bk7 b2
        replace rx := rx.below b3
        replace ra := ra.below b3
        replace rb := rb.below b3
        replace rc := rc.below b3
        replace rd := rd.below b3
        replace rm := rm.below b3
        replace rv1 := rv1.below b3
        replace rv2 := rv2.below b3
        replace rv3 := rv3.below b3
        replace bel := below_on bel b3
        have q0 := iv1.range rv1
        go_wp2_with (first | (with_reducible refine wpList_store_mid rfl 108 _ _ rfl wk7.heap.size 0 Lv4.toArray rfl rfl tn iv4.sz2 (all_oneCell_toArray iv4.one) ?_; (try dsimp only)) | (with_reducible refine wpList_load_mid rfl 108 _ rfl Gv1 0 rfl Lv1 _ q0 Tryz.underlying108 rfl iv1.sz ?_))
        clear belk b2 b3 tn bk7 q0
        generalize (wk7.alloc (.cells Z 108)).setCells wk7.heap.size 0 Lv4 = wq8 at rx ra rb rc rd rm rv1 rv2 rv3 rv4 bel ⊢
        generalize wk7.heap.size = Gv4 at rv4 hv4 ⊢
        refine (Cv5 _).mono ?_
        rintro e wk9 ⟨rfl, bk9⟩
        have belk := below_on bel bk9
        obtain ⟨rv5, b2, tn⟩ := iv5.made wk9 w.heap.size belk.size hZ.out
        have hv5 : Gm < wk9.heap.size := by have := rm.lt; have := bk9.size; omega
        have b3 := below_on bk9 b2
        replace rx := rx.below b3
        replace ra := ra.below b3
        replace rb := rb.below b3
        replace rc := rc.below b3
        replace rd := rd.below b3
        replace rm := rm.below b3
        replace rv1 := rv1.below b3
        replace rv2 := rv2.below b3
        replace rv3 := rv3.below b3
        replace rv4 := rv4.below b3
        replace bel := below_on bel b3
        have q0 := iv2.range rv2
        go_wp2_with (first | (with_reducible refine wpList_store_mid rfl 108 _ _ rfl wk9.heap.size 0 Lv5.toArray rfl rfl tn iv5.sz2 (all_oneCell_toArray iv5.one) ?_; (try dsimp only)) | (with_reducible refine wpList_load_mid rfl 108 _ rfl Gv2 0 rfl Lv2 _ q0 Tryz.underlying108 rfl iv2.sz ?_))
        clear belk b2 b3 tn bk9 q0
        generalize (wk9.alloc (.cells Z 108)).setCells wk9.heap.size 0 Lv5 = wq10 at rx ra rb rc rd rm rv1 rv2 rv3 rv4 rv5 bel ⊢
        generalize wk9.heap.size = Gv5 at rv5 hv5 ⊢
        refine (Cv6 _).mono ?_
        rintro e wk11 ⟨rfl, bk11⟩
        have belk := below_on bel bk11
        obtain ⟨rv6, b2, tn⟩ := iv6.made wk11 w.heap.size belk.size hZ.out
        have hv6 : Gm < wk11.heap.size := by have := rm.lt; have := bk11.size; omega
        have b3 := below_on bk11 b2
        replace rx := rx.below b3
        replace ra := ra.below b3
        replace rb := rb.below b3
        replace rc := rc.below b3
        replace rd := rd.below b3
        replace rm := rm.below b3
        replace rv1 := rv1.below b3
        replace rv2 := rv2.below b3
        replace rv3 := rv3.below b3
        replace rv4 := rv4.below b3
        replace rv5 := rv5.below b3
        replace bel := below_on bel b3
        have q0 := iv4.range rv4
        have q1 := iv1.range rv1
        go_wp2_with (first | (with_reducible refine wpList_store_mid rfl 108 _ _ rfl wk11.heap.size 0 Lv6.toArray rfl rfl tn iv6.sz2 (all_oneCell_toArray iv6.one) ?_; (try dsimp only)) | (with_reducible refine wpList_load_mid rfl 108 _ rfl Gv4 0 rfl Lv4 _ q0 Tryz.underlying108 rfl iv4.sz ?_) | (with_reducible refine wpList_load_mid rfl 108 _ rfl Gv1 0 rfl Lv1 _ q1 Tryz.underlying108 rfl iv1.sz ?_))
        clear belk b2 b3 tn bk11 q0 q1
        generalize (wk11.alloc (.cells Z 108)).setCells wk11.heap.size 0 Lv6 = wq12 at rx ra rb rc rd rm rv1 rv2 rv3 rv4 rv5 rv6 bel ⊢
        generalize wk11.heap.size = Gv6 at rv6 hv6 ⊢
        refine (Cv7 _).mono ?_
        rintro e wk13 ⟨rfl, bk13⟩
        have belk := below_on bel bk13
        obtain ⟨rv7, b2, tn⟩ := iv7.made wk13 w.heap.size belk.size hZ.out
        have hv7 : Gm < wk13.heap.size := by have := rm.lt; have := bk13.size; omega
        have b3 := below_on bk13 b2
        replace rx := rx.below b3
        replace ra := ra.below b3
        replace rb := rb.below b3
        replace rc := rc.below b3
        replace rd := rd.below b3
        replace rm := rm.below b3
        replace rv1 := rv1.below b3
        replace rv2 := rv2.below b3
        replace rv3 := rv3.below b3
        replace rv4 := rv4.below b3
        replace rv5 := rv5.below b3
        replace rv6 := rv6.below b3
        replace bel := below_on bel b3
        have q0 := iv3.range rv3
        have q1 := iv2.range rv2
        go_wp2_with (first | (with_reducible refine wpList_store_mid rfl 108 _ _ rfl wk13.heap.size 0 Lv7.toArray rfl rfl tn iv7.sz2 (all_oneCell_toArray iv7.one) ?_; (try dsimp only)) | (with_reducible refine wpList_load_mid rfl 108 _ rfl Gv3 0 rfl Lv3 _ q0 Tryz.underlying108 rfl iv3.sz ?_) | (with_reducible refine wpList_load_mid rfl 108 _ rfl Gv2 0 rfl Lv2 _ q1 Tryz.underlying108 rfl iv2.sz ?_))
        clear belk b2 b3 tn bk13 q0 q1
        clear rv1 rv4
        generalize (wk13.alloc (.cells Z 108)).setCells wk13.heap.size 0 Lv7 = wq14 at rx ra rb rc rd rm rv2 rv3 rv5 rv6 rv7 bel ⊢
        generalize wk13.heap.size = Gv7 at rv7 hv7 ⊢
        refine (Cv8 _).mono ?_
        rintro e wk15 ⟨rfl, bk15⟩
        have belk := below_on bel bk15
        obtain ⟨rv8, b2, tn⟩ := iv8.made wk15 w.heap.size belk.size hZ.out
        have hv8 : Gm < wk15.heap.size := by have := rm.lt; have := bk15.size; omega
        have b3 := below_on bk15 b2
        replace rx := rx.below b3
        replace ra := ra.below b3
        replace rb := rb.below b3
        replace rc := rc.below b3
        replace rd := rd.below b3
        replace rm := rm.below b3
        replace rv2 := rv2.below b3
        replace rv3 := rv3.below b3
        replace rv5 := rv5.below b3
        replace rv6 := rv6.below b3
        replace rv7 := rv7.below b3
        replace bel := below_on bel b3
        have q0 := iv7.range rv7
        have q1 := iv8.range rv8
        go_wp2_with (first | (with_reducible refine wpList_store_mid rfl 108 _ _ rfl wk15.heap.size 0 Lv8.toArray rfl rfl tn iv8.sz2 (all_oneCell_toArray iv8.one) ?_; (try dsimp only)) | (with_reducible refine wpList_load_mid rfl 108 _ rfl Gv7 0 rfl Lv7 _ q0 Tryz.underlying108 rfl iv7.sz ?_) | (with_reducible refine wpList_load_mid rfl 108 _ rfl _ 0 rfl Lv8 _ q1 Tryz.underlying108 rfl iv8.sz ?_))
        clear belk b2 b3 tn bk15 q0 q1
        clear rv2 rv3
        generalize (wk15.alloc (.cells Z 108)).setCells wk15.heap.size 0 Lv8 = wq16 at rx ra rb rc rd rm rv5 rv6 rv7 rv8 bel ⊢
        generalize wk15.heap.size = Gv8 at rv8 hv8 ⊢
        refine (Cv9 _).mono ?_
        rintro e wk17 ⟨rfl, bk17⟩
        have belk := below_on bel bk17
        obtain ⟨rv9, b2, tn⟩ := iv9.made wk17 w.heap.size belk.size hZ.out
        have hv9 : Gm < wk17.heap.size := by have := rm.lt; have := bk17.size; omega
        have b3 := below_on bk17 b2
        replace rx := rx.below b3
        replace ra := ra.below b3
        replace rb := rb.below b3
        replace rc := rc.below b3
        replace rd := rd.below b3
        replace rm := rm.below b3
        replace rv5 := rv5.below b3
        replace rv6 := rv6.below b3
        replace rv7 := rv7.below b3
        replace rv8 := rv8.below b3
        replace bel := below_on bel b3
        have q0 := iv7.range rv7
        have q1 := iv8.range rv8
        go_wp2_with (first | (with_reducible refine wpList_store_mid rfl 108 _ _ rfl wk17.heap.size 0 Lv9.toArray rfl rfl tn iv9.sz2 (all_oneCell_toArray iv9.one) ?_; (try dsimp only)) | (with_reducible refine wpList_load_mid rfl 108 _ rfl Gv7 0 rfl Lv7 _ q0 Tryz.underlying108 rfl iv7.sz ?_) | (with_reducible refine wpList_load_mid rfl 108 _ rfl Gv8 0 rfl Lv8 _ q1 Tryz.underlying108 rfl iv8.sz ?_))
        clear belk b2 b3 tn bk17 q0 q1
        generalize (wk17.alloc (.cells Z 108)).setCells wk17.heap.size 0 Lv9 = wq18 at rx ra rb rc rd rm rv5 rv6 rv7 rv8 rv9 bel ⊢
        generalize wk17.heap.size = Gv9 at rv9 hv9 ⊢
        refine (Cv10 _).mono ?_
        rintro e wk19 ⟨rfl, bk19⟩
        have belk := below_on bel bk19
        obtain ⟨rv10, b2, tn⟩ := iv10.made wk19 w.heap.size belk.size hZ.out
        have hv10 : Gm < wk19.heap.size := by have := rm.lt; have := bk19.size; omega
        have b3 := below_on bk19 b2
        replace rx := rx.below b3
        replace ra := ra.below b3
        replace rb := rb.below b3
        replace rc := rc.below b3
        replace rd := rd.below b3
        replace rm := rm.below b3
        replace rv5 := rv5.below b3
        replace rv6 := rv6.below b3
        replace rv7 := rv7.below b3
        replace rv8 := rv8.below b3
        replace rv9 := rv9.below b3
        replace bel := below_on bel b3
        have q0 := iv9.range rv9
        go_wp2_with (first | (with_reducible refine wpList_store_mid rfl 108 _ _ rfl wk19.heap.size 0 Lv10.toArray rfl rfl tn iv10.sz2 (all_oneCell_toArray iv10.one) ?_; (try dsimp only)) | (with_reducible refine wpList_load_mid rfl 108 _ rfl Gv9 0 rfl Lv9 _ q0 Tryz.underlying108 rfl iv9.sz ?_))
        clear belk b2 b3 tn bk19 q0
        clear rv7 rv8
        generalize (wk19.alloc (.cells Z 108)).setCells wk19.heap.size 0 Lv10 = wq20 at rx ra rb rc rd rm rv5 rv6 rv9 rv10 bel ⊢
        generalize wk19.heap.size = Gv10 at rv10 hv10 ⊢
        refine (Cn1 _).mono ?_
        rintro e wk21 ⟨rfl, bk21⟩
        replace rx := rx.below bk21
        replace ra := ra.below bk21
        replace rb := rb.below bk21
        replace rc := rc.below bk21
        replace rd := rd.below bk21
        replace rm := rm.below bk21
        replace rv5 := rv5.below bk21
        replace rv6 := rv6.below bk21
        replace rv9 := rv9.below bk21
        replace rv10 := rv10.below bk21
        replace bel := below_on bel bk21
        have rlo := rb.lt
        obtain ⟨rb', gn, tn⟩ := in1.put rb
        replace rx := rx.kept gn (by omega)
        replace ra := ra.kept gn (by omega)
        replace rc := rc.kept gn (by omega)
        replace rd := rd.kept gn (by omega)
        replace rm := rm.kept gn (by omega)
        replace rv5 := rv5.kept gn (by omega)
        replace rv6 := rv6.kept gn (by omega)
        replace rv9 := rv9.kept gn (by omega)
        replace rv10 := rv10.kept gn (by omega)
        replace bel := bel.grown gn (by omega) (fun k hk => by cases hk; exact rlo.1)
        clear rb rlo
        have rb := rb'
        clear rb'
        go_wp2_with (first | (with_reducible refine wpList_store_mid rfl 108 _ _ rfl Gb 0 Ln1.toArray rfl rfl tn in1.sz2 (all_oneCell_toArray in1.one) ?_; (try dsimp only)))
        clear tn gn bk21
        clear rv9
        generalize wk21.setCells Gb 0 Ln1 = wq22 at rx ra rb rc rd rm rv5 rv6 rv10 bel ⊢
        have hd0 : Below wq22.heap.size wq22 wq22.drew := (Below.refl _ _).drew
        refine wp_region_noPanic ?_
        refine wp_region_T 99 (fun X => X.rangeAt w.heap.size 0 Lx ∧ X.rangeAt Gv10 0 Lv10) (fun _ => True) (by kernel_rfl) ?_
        generalize wq22.drew = wd23 at hd0 ⊢
        replace rx := rx.below hd0
        replace ra := ra.below hd0
        replace rb := rb.below hd0
        replace rc := rc.below hd0
        replace rd := rd.below hd0
        replace rm := rm.below hd0
        replace rv5 := rv5.below hd0
        replace rv6 := rv6.below hd0
        replace rv10 := rv10.below hd0
        replace bel := below_on bel hd0
        clear hd0
        have hT : wd23.rangeAt w.heap.size 0 Lx ∧ wd23.rangeAt Gv10 0 Lv10 := ⟨ix.range rx, iv10.range rv10⟩
        refine anyT_takeT (i := 0) rfl (by kernel_rfl) (by kernel_rfl) (by kernel_rfl) (by kernel_rfl) (fun _ _ _ h => h) (yieldsIf_load_mid (by rfl) _ _ rfl _ _ rfl Lx _ (fun _ hw => hw.1) Tryz.underlying108 rfl ix.sz) hT (fun _ => trivial) ?_
        simp only [Act.put, List.getElem_toArray, List.getElem_cons_zero, List.setIfInBounds_toArray, List.set_cons_zero, List.set_cons_succ]
        refine anyT_takeT (i := 1) rfl (by kernel_rfl) (by kernel_rfl) (by kernel_rfl) (by kernel_rfl) (fun _ _ _ h => h) (yieldsIf_load_mid (by rfl) _ _ rfl _ _ rfl Lv10 _ (fun _ hw => hw.2) Tryz.underlying108 rfl iv10.sz) hT (fun _ => trivial) ?_
        simp only [Act.put, List.getElem_toArray, List.getElem_cons_zero, List.getElem_cons_succ, List.setIfInBounds_toArray, List.set_cons_zero, List.set_cons_succ]
        refine anyT_takeT (i := 2) rfl (by kernel_rfl) (by kernel_rfl) (by kernel_rfl) (by kernel_rfl) (fun _ _ _ h => h) (yieldsIf_load_mid (by rfl) _ _ rfl _ _ rfl Lv10 _ (fun _ hw => hw.2) Tryz.underlying108 rfl iv10.sz) hT (fun _ => trivial) ?_
        simp only [Act.put, List.getElem_toArray, List.getElem_cons_zero, List.getElem_cons_succ, List.setIfInBounds_toArray, List.set_cons_zero, List.set_cons_succ]
        refine anyT_one (i := 3) (by kernel_rfl) rfl (fun K hK => ?_)
        go_simp
        refine (Cn2 _).mono ?_
        rintro e wc24 ⟨rfl, bc⟩
        replace rx := rx.below bc
        replace ra := ra.below bc
        replace rb := rb.below bc
        replace rc := rc.below bc
        replace rd := rd.below bc
        replace rm := rm.below bc
        replace rv5 := rv5.below bc
        replace rv6 := rv6.below bc
        replace rv10 := rv10.below bc
        replace bel := below_on bel bc
        go_wp2_with (fail)
        refine hK.out _ _ ⟨ix.range rx, iv10.range rv10⟩ (fun _ => trivial) ?_
        clear hK K bc
        refine anyT_one (i := 4) (by kernel_rfl) rfl (fun K hK => ?_)
        go_simp
        refine (Cn3 _).mono ?_
        rintro e wc25 ⟨rfl, bc⟩
        replace rx := rx.below bc
        replace ra := ra.below bc
        replace rb := rb.below bc
        replace rc := rc.below bc
        replace rd := rd.below bc
        replace rm := rm.below bc
        replace rv5 := rv5.below bc
        replace rv6 := rv6.below bc
        replace rv10 := rv10.below bc
        replace bel := below_on bel bc
        go_wp2_with (fail)
        refine hK.out _ _ ⟨ix.range rx, iv10.range rv10⟩ (fun _ => trivial) ?_
        clear hK K bc
        clear hT
        have rlo := rd.lt
        obtain ⟨rd', gn, tn⟩ := in3.put rd
        replace rx := rx.kept gn (by omega)
        replace ra := ra.kept gn (by omega)
        replace rb := rb.kept gn (by omega)
        replace rc := rc.kept gn (by omega)
        replace rm := rm.kept gn (by omega)
        replace rv5 := rv5.kept gn (by omega)
        replace rv6 := rv6.kept gn (by omega)
        replace rv10 := rv10.kept gn (by omega)
        replace bel := bel.grown gn (by omega) (fun k hk => by cases hk; exact rlo.1)
        clear rd rlo
        have rd := rd'
        clear rd'
        refine anyT_one (i := 5) (by kernel_rfl) rfl (fun K hK => ?_)
        refine wp_store_mid 108 _ _ rfl Gd 0 Ln3.toArray rfl rfl tn in3.sz2 (all_oneCell_toArray in3.one) ?_
        (try dsimp only)
        refine hK.out _ _ ⟨ix.range rx, iv10.range rv10⟩ (fun _ => trivial) ?_
        clear hK K
        refine anyT_done (by kernel_rfl) ?_ _
        refine NoPanic.normal ?_
        clear tn gn
        clear rv10
        generalize wc25.setCells Gd 0 Ln3 = wq26 at rx ra rb rc rd rm rv5 rv6 bel ⊢
        have q0 := iv5.range rv5
        have q1 := iv6.range rv6
        go_wp2_with (first | (with_reducible refine wpList_load_mid rfl 108 _ rfl Gv5 0 rfl Lv5 _ q0 Tryz.underlying108 rfl iv5.sz ?_) | (with_reducible refine wpList_load_mid rfl 108 _ rfl _ 0 rfl Lv6 _ q1 Tryz.underlying108 rfl iv6.sz ?_))
        clear q0 q1
        refine (Cv11 _).mono ?_
        rintro e wk27 ⟨rfl, bk27⟩
        have belk := below_on bel bk27
        obtain ⟨rv11, b2, tn⟩ := iv11.made wk27 w.heap.size belk.size hZ.out
        have hv11 : Gm < wk27.heap.size := by have := rm.lt; have := bk27.size; omega
        have b3 := below_on bk27 b2
        replace rx := rx.below b3
        replace ra := ra.below b3
        replace rb := rb.below b3
        replace rc := rc.below b3
        replace rd := rd.below b3
        replace rm := rm.below b3
        replace rv5 := rv5.below b3
        replace rv6 := rv6.below b3
        replace bel := below_on bel b3
        have q0 := iv5.range rv5
        have q1 := iv6.range rv6
        go_wp2_with (first | (with_reducible refine wpList_store_mid rfl 108 _ _ rfl wk27.heap.size 0 Lv11.toArray rfl rfl tn iv11.sz2 (all_oneCell_toArray iv11.one) ?_; (try dsimp only)) | (with_reducible refine wpList_load_mid rfl 108 _ rfl Gv5 0 rfl Lv5 _ q0 Tryz.underlying108 rfl iv5.sz ?_) | (with_reducible refine wpList_load_mid rfl 108 _ rfl Gv6 0 rfl Lv6 _ q1 Tryz.underlying108 rfl iv6.sz ?_))
        clear belk b2 b3 tn bk27 q0 q1
        generalize (wk27.alloc (.cells Z 108)).setCells wk27.heap.size 0 Lv11 = wq28 at rx ra rb rc rd rm rv5 rv6 rv11 bel ⊢
        generalize wk27.heap.size = Gv11 at rv11 hv11 ⊢
        refine (Cn4 _).mono ?_
        rintro e wk29 ⟨rfl, bk29⟩
        replace rx := rx.below bk29
        replace ra := ra.below bk29
        replace rb := rb.below bk29
        replace rc := rc.below bk29
        replace rd := rd.below bk29
        replace rm := rm.below bk29
        replace rv5 := rv5.below bk29
        replace rv6 := rv6.below bk29
        replace rv11 := rv11.below bk29
        replace bel := below_on bel bk29
        have rlo := ra.lt
        obtain ⟨ra', gn, tn⟩ := in4.put ra
        replace rx := rx.kept gn (by omega)
        replace rb := rb.kept gn (by omega)
        replace rc := rc.kept gn (by omega)
        replace rd := rd.kept gn (by omega)
        replace rm := rm.kept gn (by omega)
        replace rv5 := rv5.kept gn (by omega)
        replace rv6 := rv6.kept gn (by omega)
        replace rv11 := rv11.kept gn (by omega)
        replace bel := bel.grown gn (by omega) (fun k hk => by cases hk; exact rlo.1)
        clear ra rlo
        have ra := ra'
        clear ra'
        go_wp2_with (first | (with_reducible refine wpList_store_mid rfl 108 _ _ rfl Ga 0 Ln4.toArray rfl rfl tn in4.sz2 (all_oneCell_toArray in4.one) ?_; (try dsimp only)))
        clear tn gn bk29
        clear rv6
        generalize wk29.setCells Ga 0 Ln4 = wq30 at rx ra rb rc rd rm rv5 rv11 bel ⊢
        have hd0 : Below wq30.heap.size wq30 wq30.drew := (Below.refl _ _).drew
        refine wp_region_noPanic ?_
        refine wp_region_T 99 (fun X => X.rangeAt Gv11 0 Lv11 ∧ X.rangeAt Gv5 0 Lv5 ∧ X.rangeAt Gm 0 Lm) (fun _ => True) (by kernel_rfl) ?_
        generalize wq30.drew = wd31 at hd0 ⊢
        replace rx := rx.below hd0
        replace ra := ra.below hd0
        replace rb := rb.below hd0
        replace rc := rc.below hd0
        replace rd := rd.below hd0
        replace rm := rm.below hd0
        replace rv5 := rv5.below hd0
        replace rv11 := rv11.below hd0
        replace bel := below_on bel hd0
        clear hd0
        have hT : wd31.rangeAt Gv11 0 Lv11 ∧ wd31.rangeAt Gv5 0 Lv5 ∧ wd31.rangeAt Gm 0 Lm := ⟨iv11.range rv11, iv5.range rv5, im.range rm⟩
        refine anyT_takeT (i := 0) rfl (by kernel_rfl) (by kernel_rfl) (by kernel_rfl) (by kernel_rfl) (fun _ _ _ h => h) (yieldsIf_load_mid (by rfl) _ _ rfl _ _ rfl Lv11 _ (fun _ hw => hw.1) Tryz.underlying108 rfl iv11.sz) hT (fun _ => trivial) ?_
        simp only [Act.put, List.getElem_toArray, List.getElem_cons_zero, List.setIfInBounds_toArray, List.set_cons_zero, List.set_cons_succ]
        refine anyT_takeT (i := 1) rfl (by kernel_rfl) (by kernel_rfl) (by kernel_rfl) (by kernel_rfl) (fun _ _ _ h => h) (yieldsIf_load_mid (by rfl) _ _ rfl _ _ rfl Lv5 _ (fun _ hw => hw.2.1) Tryz.underlying108 rfl iv5.sz) hT (fun _ => trivial) ?_
        simp only [Act.put, List.getElem_toArray, List.getElem_cons_zero, List.getElem_cons_succ, List.setIfInBounds_toArray, List.set_cons_zero, List.set_cons_succ]
        refine anyT_takeT (i := 2) rfl (by kernel_rfl) (by kernel_rfl) (by kernel_rfl) (by kernel_rfl) (fun _ _ _ h => h) (yieldsIf_load_mid (by rfl) _ _ rfl _ _ rfl Lv11 _ (fun _ hw => hw.1) Tryz.underlying108 rfl iv11.sz) hT (fun _ => trivial) ?_
        simp only [Act.put, List.getElem_toArray, List.getElem_cons_zero, List.getElem_cons_succ, List.setIfInBounds_toArray, List.set_cons_zero, List.set_cons_succ]
        refine anyT_takeT (i := 3) rfl (by kernel_rfl) (by kernel_rfl) (by kernel_rfl) (by kernel_rfl) (fun _ _ _ h => h) (yieldsIf_load_mid (by rfl) _ _ rfl _ _ rfl Lm _ (fun _ hw => hw.2.2) Tryz.underlying108 rfl im.sz) hT (fun _ => trivial) ?_
        simp only [Act.put, List.getElem_toArray, List.getElem_cons_zero, List.getElem_cons_succ, List.setIfInBounds_toArray, List.set_cons_zero, List.set_cons_succ]
        refine anyT_one (i := 4) (by kernel_rfl) rfl (fun K hK => ?_)
        go_simp
        refine (Cn5 _).mono ?_
        rintro e wc32 ⟨rfl, bc⟩
        replace rx := rx.below bc
        replace ra := ra.below bc
        replace rb := rb.below bc
        replace rc := rc.below bc
        replace rd := rd.below bc
        replace rm := rm.below bc
        replace rv5 := rv5.below bc
        replace rv11 := rv11.below bc
        replace bel := below_on bel bc
        go_wp2_with (fail)
        refine hK.out _ _ ⟨iv11.range rv11, iv5.range rv5, im.range rm⟩ (fun _ => trivial) ?_
        clear hK K bc
        refine anyT_one (i := 5) (by kernel_rfl) rfl (fun K hK => ?_)
        go_simp
        refine (Cn6 _).mono ?_
        rintro e wc33 ⟨rfl, bc⟩
        replace rx := rx.below bc
        replace ra := ra.below bc
        replace rb := rb.below bc
        replace rc := rc.below bc
        replace rd := rd.below bc
        replace rm := rm.below bc
        replace rv5 := rv5.below bc
        replace rv11 := rv11.below bc
        replace bel := below_on bel bc
        go_wp2_with (fail)
        refine hK.out _ _ ⟨iv11.range rv11, iv5.range rv5, im.range rm⟩ (fun _ => trivial) ?_
        clear hK K bc
        refine anyT_one (i := 6) (by kernel_rfl) rfl (fun K hK => ?_)
        go_simp
        refine (Cn7 _).mono ?_
        rintro e wc34 ⟨rfl, bc⟩
        replace rx := rx.below bc
        replace ra := ra.below bc
        replace rb := rb.below bc
        replace rc := rc.below bc
        replace rd := rd.below bc
        replace rm := rm.below bc
        replace rv5 := rv5.below bc
        replace rv11 := rv11.below bc
        replace bel := below_on bel bc
        go_wp2_with (fail)
        refine hK.out _ _ ⟨iv11.range rv11, iv5.range rv5, im.range rm⟩ (fun _ => trivial) ?_
        clear hK K bc
        clear hT
        have rlo := rc.lt
        obtain ⟨rc', gn, tn⟩ := in7.put rc
        replace rx := rx.kept gn (by omega)
        replace ra := ra.kept gn (by omega)
        replace rb := rb.kept gn (by omega)
        replace rd := rd.kept gn (by omega)
        replace rm := rm.kept gn (by omega)
        replace rv5 := rv5.kept gn (by omega)
        replace rv11 := rv11.kept gn (by omega)
        replace bel := bel.grown gn (by omega) (fun k hk => by cases hk; exact rlo.1)
        clear rc rlo
        have rc := rc'
        clear rc'
        refine anyT_one (i := 7) (by kernel_rfl) rfl (fun K hK => ?_)
        refine wp_store_mid 108 _ _ rfl Gc 0 Ln7.toArray rfl rfl tn in7.sz2 (all_oneCell_toArray in7.one) ?_
        (try dsimp only)
        refine hK.out _ _ ⟨iv11.range rv11, iv5.range rv5, im.range rm⟩ (fun _ => trivial) ?_
        clear hK K
        refine anyT_done (by kernel_rfl) ?_ _
        refine NoPanic.normal ?_
        clear tn gn
        clear rv5 rv11
        generalize wc34.setCells Gc 0 Ln7 = wq35 at rx ra rb rc rd rm bel ⊢
        go_wp2_with (fail)
        go_roundw
        case rel => exact ⟨n + 1, by omega, by have := hj.out; congr 1; omega, by rw [hbj.out, hj.out]; unfold lastB; rw [if_neg (by omega), show 255 - (n + 1) = 254 - n by omega], rx, by rw [hSn.out]; exact ra, by rw [hSn.out]; exact rb, by rw [hSn.out]; exact rc, by rw [hSn.out]; exact rd, rm, bel⟩
        case measure => simp [intOf]
    · obtain rfl : n = 255 := by omega
      have e1 : (254 : Int) - ((255 : Nat) : Int) = -1 := by decide
      rw [e1]
      have e2 : lastB bit 255 = bit 0 := rfl
      rw [e2]
      have hfz := az_point (x := fx) bit
      have hO := HO.out 255
      obtain ⟨P, hP⟩ : ∃ P, P = azN bit fx 255 := ⟨_, rfl⟩
      rw [← hP] at ra rb rc rd hO hfz
      clear hP HO HK HB rx rm
      generalize bit 0 = b0 at hfz ⊢
      cases b0 with
      | false =>
        obtain ⟨S, hSe⟩ : ∃ S, S = P := ⟨_, rfl⟩
        have hfin : Hid (valZ (mulZ S.a (invZ S.c 254)) 16 % fldP = ladZ bit (valZ fx 16)) := by rw [hSe]; exact hfz
        rw [← hSe] at ra rc hO
        have hS := hO
        clear hO hSe hfz rb rd
        obtain ⟨La, ia⟩ : ∃ L, IsZ L S.a := ⟨_, ⟨rfl⟩⟩
        obtain ⟨Lc, ic⟩ : ∃ L, IsZ L S.c := ⟨_, ⟨rfl⟩⟩
        have hbI : bitI false = 0 := rfl
        rw [hbI]
        obtain ⟨Li, ii⟩ : ∃ L, IsZ L (invZ S.c 254) := ⟨_, ⟨rfl⟩⟩
        obtain ⟨Lq, iq⟩ : ∃ L, IsZ L (mulZ S.a (invZ S.c 254)) := ⟨_, ⟨rfl⟩⟩
        have CI : ∀ X, Calls Tryz.prog 124 #[.agg Lc.toArray] X fun e w' => e = .returned (.agg Li.toArray) ∧ Below X.heap.size X w' := fun X => by
          have h := l8Inv_any S.c X hS.2.2.1.ok
          rw [ii.eq, ic.eq] at h
          exact h
        have CM := fun X => cMul ia ii iq hS.1.ok (invZ_ok hS.2.2.1.ok 254) X
        have hw := okZ_wide (mulZ_ok hS.1.ok (invZ_ok hS.2.2.1.ok 254))
        have CB : ∀ X, Calls Tryz.prog 123 #[.agg Lq.toArray] X fun e w' => ∃ p' c', e = .returned (.slice p' 32 c') ∧ Own 5 w' X.heap.size w'.heap.size (.slice p' 32 c') 32 V ∧ Below X.heap.size X w' := fun X => by
          have h := l8Bytes_any (mulZ S.a (invZ S.c 254)) X hw.1 hw.2
          rw [red_bytes hw.1 hw.2, hfin.out, ← hV.out, iq.eq] at h
          exact h
        clear hw hfin hV hS
        go_wp2_with (fail)
        have hd0 : Below wr.heap.size wr wr.drew := (Below.refl _ _).drew
        refine wp_region_noPanic ?_
        refine wp_region_T 99 (fun X => X.rangeAt Ga 0 La ∧ X.rangeAt Gc 0 Lc) (fun _ => True) (by kernel_rfl) ?_
        generalize wr.drew = wd at hd0 ⊢
        replace ra := ra.below hd0
        replace rc := rc.below hd0
        replace bel := below_on bel hd0
        have hT : wd.rangeAt Ga 0 La ∧ wd.rangeAt Gc 0 Lc := ⟨ia.range ra, ic.range rc⟩
        refine anyT_takeT (i := 0) rfl (by kernel_rfl) (by kernel_rfl) (by kernel_rfl) (by kernel_rfl) (fun _ _ _ h => h) (yieldsIf_load_mid (by rfl) _ _ rfl _ _ rfl La _ (fun _ hw => hw.1) Tryz.underlying108 rfl ia.sz) hT (fun _ => trivial) ?_
        simp only [Act.put, List.getElem_toArray, List.getElem_cons_zero, List.setIfInBounds_toArray, List.set_cons_zero, List.set_cons_succ]
        refine anyT_takeT (i := 1) rfl (by kernel_rfl) (by kernel_rfl) (by kernel_rfl) (by kernel_rfl) (fun _ _ _ h => h) (yieldsIf_load_mid (by rfl) _ _ rfl _ _ rfl Lc _ (fun _ hw => hw.2) Tryz.underlying108 rfl ic.sz) hT (fun _ => trivial) ?_
        simp only [Act.put, List.getElem_toArray, List.getElem_cons_zero, List.getElem_cons_succ, List.setIfInBounds_toArray, List.set_cons_zero, List.set_cons_succ]
        clear hd0
        refine anyT_one (i := 2) (by kernel_rfl) rfl (fun K hK => ?_)
        go_simp
        refine (CI _).mono ?_
        rintro e we2 ⟨rfl, bc⟩
        replace ra := ra.below bc
        replace rc := rc.below bc
        replace bel := below_on bel bc
        go_wp2_with (fail)
        refine hK.out _ _ ⟨ia.range ra, ic.range rc⟩ (fun _ => trivial) ?_
        clear hK K bc
        refine anyT_one (i := 3) (by kernel_rfl) rfl (fun K hK => ?_)
        go_simp
        refine (CM _).mono ?_
        rintro e we3 ⟨rfl, bc⟩
        replace ra := ra.below bc
        replace rc := rc.below bc
        replace bel := below_on bel bc
        go_wp2_with (fail)
        refine hK.out _ _ ⟨ia.range ra, ic.range rc⟩ (fun _ => trivial) ?_
        clear hK K bc
        refine anyT_one (i := 4) (by kernel_rfl) rfl (fun K hK => ?_)
        go_simp
        refine (CB _).mono ?_
        rintro e wl ⟨pl, cl, rfl, ol, bl⟩
        have hsz := bel.size
        replace ra := ra.below bl
        replace rc := rc.below bl
        replace bel := below_on bel bl
        go_wp2_with (fail)
        refine hK.out _ _ ⟨ia.range ra, ic.range rc⟩ (fun _ => trivial) ?_
        clear hK K bl hT
        have hT : wl.rangeAt Ga 0 La ∧ wl.rangeAt Gc 0 Lc := ⟨ia.range ra, ic.range rc⟩
        refine anyT_takeT (i := 5) (v := .slice pl 32 cl) rfl (by kernel_rfl) (by kernel_rfl) (by kernel_rfl) (by kernel_rfl) (fun _ _ _ h => h) (Or.inl ⟨by rfl, fun X hSw => by ((try dsimp only at hSw); go_simp)⟩) hT (fun _ => trivial) ?_
        simp only [Act.put, List.getElem_toArray, List.getElem_cons_zero, List.getElem_cons_succ, List.setIfInBounds_toArray, List.set_cons_zero, List.set_cons_succ]
        refine anyT_done (by kernel_rfl) ?_ _
        refine NoPanic.normal ?_
        go_wp2_with (fail)
        go_ret
        exact ⟨_, _, rfl, ⟨owns_mono ol.1 hsz, ol.2⟩, bel⟩
      | true =>
        obtain ⟨S, hSe⟩ : ∃ S, S = azSw P := ⟨_, rfl⟩
        have hfin : Hid (valZ (mulZ S.a (invZ S.c 254)) 16 % fldP = ladZ bit (valZ fx 16)) := by rw [hSe]; exact hfz
        have hS : azOk S := by rw [hSe]; exact ⟨hO.2.1, hO.1, hO.2.2.2, hO.2.2.1⟩
        have rb0 : RowZ 108 16 wr w.heap.size Gb S.a := by rw [hSe]; exact rb
        have rd0 : RowZ 108 16 wr w.heap.size Gd S.c := by rw [hSe]; exact rd
        clear rb rd hO hSe hfz
        obtain ⟨La, ia⟩ : ∃ L, IsZ L S.a := ⟨_, ⟨rfl⟩⟩
        obtain ⟨Lc, ic⟩ : ∃ L, IsZ L S.c := ⟨_, ⟨rfl⟩⟩
        have hbI : bitI true = 1 := rfl
        rw [hbI]
        obtain ⟨Li, ii⟩ : ∃ L, IsZ L (invZ S.c 254) := ⟨_, ⟨rfl⟩⟩
        obtain ⟨Lq, iq⟩ : ∃ L, IsZ L (mulZ S.a (invZ S.c 254)) := ⟨_, ⟨rfl⟩⟩
        have CI : ∀ X, Calls Tryz.prog 124 #[.agg Lc.toArray] X fun e w' => e = .returned (.agg Li.toArray) ∧ Below X.heap.size X w' := fun X => by
          have h := l8Inv_any S.c X hS.2.2.1.ok
          rw [ii.eq, ic.eq] at h
          exact h
        have CM := fun X => cMul ia ii iq hS.1.ok (invZ_ok hS.2.2.1.ok 254) X
        have hw := okZ_wide (mulZ_ok hS.1.ok (invZ_ok hS.2.2.1.ok 254))
        have CB : ∀ X, Calls Tryz.prog 123 #[.agg Lq.toArray] X fun e w' => ∃ p' c', e = .returned (.slice p' 32 c') ∧ Own 5 w' X.heap.size w'.heap.size (.slice p' 32 c') 32 V ∧ Below X.heap.size X w' := fun X => by
          have h := l8Bytes_any (mulZ S.a (invZ S.c 254)) X hw.1 hw.2
          rw [red_bytes hw.1 hw.2, hfin.out, ← hV.out, iq.eq] at h
          exact h
        clear hw hfin hV hS
        have p1 := ia.range rb0
        have rlo := ra.lt
        obtain ⟨ra1, ga, t1⟩ := ia.put ra
        replace rc := rc.kept ga (by omega)
        replace rd0 := rd0.kept ga (by omega)
        replace bel := bel.grown ga bel.size (fun k hk => by cases hk; exact rlo.1)
        clear ra rlo
        have p2 := ic.range rd0
        have rlo := rc.lt
        obtain ⟨rc1, gc, t2⟩ := ic.put rc
        have ra := ra1.kept gc (by omega)
        replace bel := bel.grown gc bel.size (fun k hk => by cases hk; exact rlo.1)
        clear rc rlo ra1 ga gc rd0 rb0
        have rc := rc1
        clear rc1
        go_wp2_with (first | (with_reducible refine wpList_load_mid rfl 108 _ rfl Gb 0 rfl La _ p1 Tryz.underlying108 rfl ia.sz ?_) | (with_reducible refine wpList_store_mid rfl 108 _ _ rfl Ga 0 La.toArray rfl rfl t1 ia.sz2 (all_oneCell_toArray ia.one) ?_; (try dsimp only)) | (with_reducible refine wpList_load_mid rfl 108 _ rfl Gd 0 rfl Lc _ p2 Tryz.underlying108 rfl ic.sz ?_) | (with_reducible refine wpList_store_mid rfl 108 _ _ rfl Gc 0 Lc.toArray rfl rfl t2 ic.sz2 (all_oneCell_toArray ic.one) ?_; (try dsimp only)))
        clear p1 p2 t1 t2
        generalize World.setCells _ Gc 0 _ = wz at ra rc bel ⊢
        have hd0 : Below wz.heap.size wz wz.drew := (Below.refl _ _).drew
        refine wp_region_noPanic ?_
        refine wp_region_T 99 (fun X => X.rangeAt Ga 0 La ∧ X.rangeAt Gc 0 Lc) (fun _ => True) (by kernel_rfl) ?_
        generalize wz.drew = wd at hd0 ⊢
        replace ra := ra.below hd0
        replace rc := rc.below hd0
        replace bel := below_on bel hd0
        have hT : wd.rangeAt Ga 0 La ∧ wd.rangeAt Gc 0 Lc := ⟨ia.range ra, ic.range rc⟩
        refine anyT_takeT (i := 0) rfl (by kernel_rfl) (by kernel_rfl) (by kernel_rfl) (by kernel_rfl) (fun _ _ _ h => h) (yieldsIf_load_mid (by rfl) _ _ rfl _ _ rfl La _ (fun _ hw => hw.1) Tryz.underlying108 rfl ia.sz) hT (fun _ => trivial) ?_
        simp only [Act.put, List.getElem_toArray, List.getElem_cons_zero, List.setIfInBounds_toArray, List.set_cons_zero, List.set_cons_succ]
        refine anyT_takeT (i := 1) rfl (by kernel_rfl) (by kernel_rfl) (by kernel_rfl) (by kernel_rfl) (fun _ _ _ h => h) (yieldsIf_load_mid (by rfl) _ _ rfl _ _ rfl Lc _ (fun _ hw => hw.2) Tryz.underlying108 rfl ic.sz) hT (fun _ => trivial) ?_
        simp only [Act.put, List.getElem_toArray, List.getElem_cons_zero, List.getElem_cons_succ, List.setIfInBounds_toArray, List.set_cons_zero, List.set_cons_succ]
        clear hd0
        refine anyT_one (i := 2) (by kernel_rfl) rfl (fun K hK => ?_)
        go_simp
        refine (CI _).mono ?_
        rintro e we2 ⟨rfl, bc⟩
        replace ra := ra.below bc
        replace rc := rc.below bc
        replace bel := below_on bel bc
        go_wp2_with (fail)
        refine hK.out _ _ ⟨ia.range ra, ic.range rc⟩ (fun _ => trivial) ?_
        clear hK K bc
        refine anyT_one (i := 3) (by kernel_rfl) rfl (fun K hK => ?_)
        go_simp
        refine (CM _).mono ?_
        rintro e we3 ⟨rfl, bc⟩
        replace ra := ra.below bc
        replace rc := rc.below bc
        replace bel := below_on bel bc
        go_wp2_with (fail)
        refine hK.out _ _ ⟨ia.range ra, ic.range rc⟩ (fun _ => trivial) ?_
        clear hK K bc
        refine anyT_one (i := 4) (by kernel_rfl) rfl (fun K hK => ?_)
        go_simp
        refine (CB _).mono ?_
        rintro e wl ⟨pl, cl, rfl, ol, bl⟩
        have hsz := bel.size
        replace ra := ra.below bl
        replace rc := rc.below bl
        replace bel := below_on bel bl
        go_wp2_with (fail)
        refine hK.out _ _ ⟨ia.range ra, ic.range rc⟩ (fun _ => trivial) ?_
        clear hK K bl hT
        have hT : wl.rangeAt Ga 0 La ∧ wl.rangeAt Gc 0 Lc := ⟨ia.range ra, ic.range rc⟩
        refine anyT_takeT (i := 5) (v := .slice pl 32 cl) rfl (by kernel_rfl) (by kernel_rfl) (by kernel_rfl) (by kernel_rfl) (fun _ _ _ h => h) (Or.inl ⟨by rfl, fun X hSw => by ((try dsimp only at hSw); go_simp)⟩) hT (fun _ => trivial) ?_
        simp only [Act.put, List.getElem_toArray, List.getElem_cons_zero, List.getElem_cons_succ, List.setIfInBounds_toArray, List.set_cons_zero, List.set_cons_succ]
        refine anyT_done (by kernel_rfl) ?_ _
        refine NoPanic.normal ?_
        go_wp2_with (fail)
        go_ret
        exact ⟨_, _, rfl, ⟨owns_mono ol.1 hsz, ol.2⟩, bel⟩

end Go.Proofs.YtdjdanpicbaieaaGreatDoor

namespace Go.Proofs.YtdjdanpicbaieaaGreatDoor
set_option maxRecDepth 100000

/-- 2 to the 64th. -/
def bU : Int := 18446744073709551616
theorem bU_pos : 0 < bU := by decide
def valU (f : Nat → Int) : Nat → Int
  | 0 => 0
  | n + 1 => valU f n + f n * bU ^ n
theorem valU_congr {f g : Nat → Int} : ∀ {n : Nat}, (∀ i, i < n → f i = g i) → valU f n = valU g n
  | 0, _ => rfl
  | n + 1, h => by rw [valU, valU, valU_congr (fun i hi => h i (by omega)), h n (by omega)]
theorem valU_add (f g : Nat → Int) : ∀ n, valU (fun i => f i + g i) n = valU f n + valU g n
  | 0 => rfl
  | n + 1 => by simp only [valU]; rw [valU_add f g n, Int.add_mul]; omega
theorem valU_sub (f g : Nat → Int) : ∀ n, valU (fun i => f i - g i) n = valU f n - valU g n
  | 0 => rfl
  | n + 1 => by simp only [valU]; rw [valU_sub f g n, Int.sub_mul]; omega
theorem valU_mul (f : Nat → Int) (k : Int) : ∀ n, valU (fun i => f i * k) n = valU f n * k
  | 0 => by simp [valU]
  | n + 1 => by simp only [valU]; rw [valU_mul f k n, Int.add_mul, Int.mul_right_comm]
theorem valU_split (f : Nat → Int) (a : Nat) : ∀ b, valU f (a + b) = valU f a + bU ^ a * valU (fun i => f (a + i)) b
  | 0 => by simp [valU]
  | b + 1 => by
    rw [← Nat.add_assoc, valU, valU_split f a b, valU, Int.mul_add, Int.pow_add]
    have : f (a + b) * (bU ^ a * bU ^ b) = bU ^ a * (f (a + b) * bU ^ b) := by rw [← Int.mul_assoc, Int.mul_comm (f (a + b)), Int.mul_assoc]
    omega
theorem powU_pos : ∀ n : Nat, (0 : Int) < bU ^ n
  | 0 => by decide
  | n + 1 => by rw [Int.pow_succ]; exact Int.mul_pos (powU_pos n) bU_pos
theorem valU_range {f : Nat → Int} : ∀ {n : Nat}, (∀ i, i < n → 0 ≤ f i ∧ f i < bU) → 0 ≤ valU f n ∧ valU f n < bU ^ n
  | 0, _ => by simp [valU]
  | n + 1, h => by
    have h1 := valU_range (n := n) (fun i hi => h i (by omega))
    have h2 := h n (by omega)
    have hp := powU_pos n
    have h3 : f n * bU ^ n ≤ (bU - 1) * bU ^ n := Int.mul_le_mul_of_nonneg_right (by omega) (by omega)
    have h4 : 0 ≤ f n * bU ^ n := Int.mul_nonneg h2.1 (by omega)
    rw [Int.sub_mul, Int.one_mul, Int.mul_comm bU] at h3
    rw [valU, Int.pow_succ]
    omega

/-! ### what goes over -/
def carU (t : Nat → Int) (c : Int) : Nat → Int
  | 0 => c
  | k + 1 => (t k + carU t c k) / bU
def digU (t : Nat → Int) (c : Int) (k : Nat) : Int := (t k + carU t c k) % bU
theorem modU_range (z : Int) : 0 ≤ z % bU ∧ z % bU < bU := ⟨Int.emod_nonneg _ (by have := bU_pos; omega), Int.emod_lt_of_pos _ bU_pos⟩
theorem digU_range (t : Nat → Int) (c : Int) (k : Nat) : 0 ≤ digU t c k ∧ digU t c k < bU := modU_range _
theorem val_carU (t : Nat → Int) (c : Int) : ∀ n, valU (digU t c) n + bU ^ n * carU t c n = valU t n + c
  | 0 => by simp [valU, carU]
  | n + 1 => by
    have ih := val_carU t c n
    have hd : bU * carU t c (n + 1) + digU t c n = t n + carU t c n := Int.mul_ediv_add_emod _ _
    have e1 : bU ^ (n + 1) * carU t c (n + 1) = bU ^ n * (bU * carU t c (n + 1)) := by rw [Int.pow_succ, Int.mul_assoc]
    have e2 : digU t c n * bU ^ n = bU ^ n * digU t c n := Int.mul_comm _ _
    have e3 : bU ^ n * (bU * carU t c (n + 1)) + bU ^ n * digU t c n = bU ^ n * (t n + carU t c n) := by rw [← Int.mul_add, hd]
    rw [Int.mul_add] at e3
    have e4 : t n * bU ^ n = bU ^ n * t n := Int.mul_comm _ _
    simp only [valU]
    omega
/-- The parts of a number. -/
def numU (z : Int) (i : Nat) : Int := z / bU ^ i % bU
theorem numU_range (z : Int) (i : Nat) : 0 ≤ numU z i ∧ numU z i < bU := modU_range _
theorem low_div {a b q : Int} (ha : 0 ≤ a) (hb : a < b) : (a + b * q) / b = q := by
  rw [Int.add_mul_ediv_left _ _ (by omega), Int.ediv_eq_zero_of_lt ha hb]
  omega
theorem digU_num (t : Nat → Int) (c : Int) {n k : Nat} (h : k < n) : digU t c k = numU (valU t n + c) k := by
  obtain ⟨r, rfl⟩ : ∃ r, n = (k + 1) + r := ⟨n - (k + 1), by omega⟩
  have h1 := valU_split t (k + 1) r
  have h2 := val_carU t c (k + 1)
  have h3 := valU_range (f := digU t c) (n := k) (fun i _ => digU_range t c i)
  rw [valU] at h2
  generalize valU (fun i => t (k + 1 + i)) r = R at h1
  have hs : bU ^ k * bU = bU ^ (k + 1) := (Int.pow_succ bU k).symm
  have e : valU t (k + 1 + r) + c = valU (digU t c) k + bU ^ k * (digU t c k + bU * (carU t c (k + 1) + R)) := by
    rw [Int.mul_add, Int.mul_add bU, Int.mul_add (bU ^ k), ← Int.mul_assoc (bU ^ k), ← Int.mul_assoc (bU ^ k), hs, Int.mul_comm (bU ^ k) (digU t c k)]
    omega
  rw [numU, e, low_div h3.1 h3.2, Int.add_mul_emod_self_left, Int.emod_eq_of_lt (digU_range t c k).1 (digU_range t c k).2]
theorem carU_num (t : Nat → Int) (c : Int) (n : Nat) : carU t c n = (valU t n + c) / bU ^ n := by
  have h3 := valU_range (f := digU t c) (n := n) (fun i _ => digU_range t c i)
  rw [← val_carU, low_div h3.1 h3.2]
theorem val_numU (z : Int) : ∀ n, valU (numU z) n = z % bU ^ n := by
  intro n
  have h := val_carU (fun i => if i = 0 then z else 0) 0 n
  cases n with
  | zero => simp [valU, Int.emod_one]
  | succ n =>
    have hz : valU (fun i => if i = 0 then z else 0) (n + 1) = z := by
      have := valU_split (fun i => if i = 0 then z else 0) 1 n
      rw [Nat.add_comm, this]
      have hr : valU (fun i => if 1 + i = 0 then z else 0) n = 0 := by
        have : ∀ m, valU (fun i => if 1 + i = 0 then z else 0) m = 0 := by
          intro m
          induction m with
          | zero => rfl
          | succ m ih => rw [valU, ih, if_neg (by omega)]; omega
        exact this n
      rw [hr]
      simp [valU]
    rw [hz] at h
    have hd : valU (digU (fun i => if i = 0 then z else 0) 0) (n + 1) = valU (numU z) (n + 1) := valU_congr fun i hi => by
      rw [digU_num _ 0 hi, hz, Int.add_zero]
    have h3 := valU_range (f := numU z) (n := n + 1) (fun i _ => numU_range z i)
    rw [hd, Int.add_zero] at h
    have : z % bU ^ (n + 1) = (valU (numU z) (n + 1) + bU ^ (n + 1) * carU (fun i => if i = 0 then z else 0) 0 (n + 1)) % bU ^ (n + 1) := by rw [h]
    rw [this, Int.add_mul_emod_self_left, Int.emod_eq_of_lt h3.1 h3.2]
theorem numU_like {a b q : Int} {n : Nat} (h : a = b + q * bU ^ n) {k : Nat} (hk : k < n) : numU a k = numU b k := by
  obtain ⟨r, rfl⟩ : ∃ r, n = k + (r + 1) := ⟨n - (k + 1), by omega⟩
  have e : a = b + bU ^ k * (q * bU ^ r * bU) := by
    rw [h, Int.pow_add, Int.pow_succ, ← Int.mul_assoc q, Int.mul_comm q, Int.mul_assoc, Int.mul_assoc]
  rw [numU, numU, e, Int.add_mul_ediv_left _ _ (by have := powU_pos k; omega), Int.add_mul_emod_self_right]
theorem numU_mod (z : Int) {n k : Nat} (hk : k < n) : numU (z % bU ^ n) k = numU z k := by
  have := Int.mul_ediv_add_emod z (bU ^ n)
  refine (numU_like (a := z) (b := z % bU ^ n) (q := z / bU ^ n) (n := n) ?_ hk).symm
  rw [Int.mul_comm (z / bU ^ n)]
  omega
theorem carU_le {t : Nat → Int} {c : Int} (ht : ∀ k, 0 ≤ t k ∧ t k ≤ bU * (bU - 1)) (hc : 0 ≤ c ∧ c < bU) : ∀ k, 0 ≤ carU t c k ∧ carU t c k < bU
  | 0 => hc
  | k + 1 => by
    have ih := carU_le ht hc k
    have h := ht k
    rw [Int.mul_sub, Int.mul_one] at h
    refine ⟨Int.ediv_nonneg (by omega) (by have := bU_pos; omega), Int.ediv_lt_of_lt_mul bU_pos (by omega)⟩
theorem termU {x y z : Int} (hx : 0 ≤ x ∧ x < bU) (hy : 0 ≤ y ∧ y < bU) (hz : 0 ≤ z ∧ z < bU) : 0 ≤ x + y * z ∧ x + y * z ≤ bU * (bU - 1) := by
  have h1 : 0 ≤ y * z := Int.mul_nonneg hy.1 hz.1
  have h2 : y * z ≤ (bU - 1) * (bU - 1) := Int.mul_le_mul (by omega) (by omega) hz.1 (by have := bU_pos; omega)
  have h3 : (bU - 1) * (bU - 1) = bU * (bU - 1) - (bU - 1) := by rw [Int.sub_mul, Int.one_mul]
  omega

/-! ### four parts -/
theorem b4U : bU ^ 4 = 2 * fldP + 38 := by decide
theorem val_four {z : Int} (h0 : 0 ≤ z) (h1 : z < bU ^ 4) : valU (numU z) 4 = z := by rw [val_numU, Int.emod_eq_of_lt h0 h1]
/-- What is told of a sum: n and what is missing to m, and 1. -/
def lessT (x y : Int) (k : Nat) : Int := numU x k + (bU - 1 - numU y k)
theorem val_ones : valU (fun _ => bU - 1) 4 = bU ^ 4 - 1 := by decide
theorem val_lessT {x y : Int} (hx0 : 0 ≤ x) (hx : x < bU ^ 4) (hy0 : 0 ≤ y) (hy : y < bU ^ 4) : valU (lessT x y) 4 = x + (bU ^ 4 - 1 - y) := by
  have h1 := valU_add (numU x) (fun k => bU - 1 - numU y k) 4
  have h2 := valU_sub (fun _ => bU - 1) (numU y) 4
  rw [val_four hx0 hx] at h1
  rw [val_four hy0 hy, val_ones] at h2
  rw [h2] at h1
  exact h1
theorem dig_less {x y : Int} (hx0 : 0 ≤ x) (hx : x < bU ^ 4) (hy0 : 0 ≤ y) (hy : y < bU ^ 4) {k : Nat} (hk : k < 4) : digU (lessT x y) 1 k = numU ((x - y) % bU ^ 4) k := by
  rw [digU_num _ _ hk, val_lessT hx0 hx hy0 hy, numU_mod _ hk]
  exact numU_like (q := 1) (by omega) hk
theorem car_less {x y : Int} (hx0 : 0 ≤ x) (hx : x < bU ^ 4) (hy0 : 0 ≤ y) (hy : y < bU ^ 4) : carU (lessT x y) 1 4 = if y ≤ x then 1 else 0 := by
  rw [carU_num, val_lessT hx0 hx hy0 hy]
  have h4 : (0 : Int) < bU ^ 4 := powU_pos 4
  generalize bU ^ 4 = W at *
  split
  · rw [show x + (W - 1 - y) + 1 = (x - y) + W * 1 by omega, low_div (by omega) (by omega)]
  · exact Int.ediv_eq_zero_of_lt (by omega) (by omega)
theorem lessT_le (x y : Int) (k : Nat) : 0 ≤ lessT x y k ∧ lessT x y k ≤ bU * (bU - 1) := by
  have h := termU (x := numU x k) (y := bU - 1 - numU y k) (z := 1) (numU_range x k) (by have := numU_range y k; omega) (by decide)
  rw [Int.mul_one] at h
  exact h
def plusT (x y : Int) (k : Nat) : Int := numU x k + numU y k
theorem plusT_le (x y : Int) (k : Nat) : 0 ≤ plusT x y k ∧ plusT x y k ≤ bU * (bU - 1) := by
  have h := termU (x := numU x k) (y := numU y k) (z := 1) (numU_range x k) (numU_range y k) (by decide)
  rw [Int.mul_one] at h
  exact h
theorem dig_plus {x y : Int} (hx0 : 0 ≤ x) (hx : x < bU ^ 4) (hy0 : 0 ≤ y) (hy : y < bU ^ 4) {k : Nat} (hk : k < 4) : digU (plusT x y) 0 k = numU (x + y) k := by
  have h1 := valU_add (numU x) (numU y) 4
  rw [val_four hx0 hx, val_four hy0 hy] at h1
  rw [digU_num _ _ hk]
  show numU (valU (fun i => numU x i + numU y i) 4 + 0) k = _
  rw [h1, Int.add_zero]
/-- What goes over is put on 38 times. -/
def overT (x y : Int) (k : Nat) : Int := numU x k + numU y k * 38
theorem overT_le (x y : Int) (k : Nat) : 0 ≤ overT x y k ∧ overT x y k ≤ bU * (bU - 1) := termU (numU_range x k) (numU_range y k) (by decide)
theorem val_overT {x y : Int} (hx0 : 0 ≤ x) (hx : x < bU ^ 4) (hy0 : 0 ≤ y) (hy : y < bU ^ 4) : valU (overT x y) 4 = x + y * 38 := by
  have h1 := valU_add (numU x) (fun i => numU y i * 38) 4
  have h2 := valU_mul (numU y) 38 4
  rw [val_four hx0 hx] at h1
  rw [val_four hy0 hy] at h2
  rw [h2] at h1
  exact h1
theorem dig_over {x y : Int} (hx0 : 0 ≤ x) (hx : x < bU ^ 4) (hy0 : 0 ≤ y) (hy : y < bU ^ 4) {k : Nat} (hk : k < 4) : digU (overT x y) 0 k = numU ((x + y * 38) % bU ^ 4) k := by
  rw [digU_num _ _ hk, val_overT hx0 hx hy0 hy, Int.add_zero, numU_mod _ hk]
theorem car_over {x y : Int} (hx0 : 0 ≤ x) (hx : x < bU ^ 4) (hy0 : 0 ≤ y) (hy : y < bU ^ 4) : carU (overT x y) 0 4 = (x + y * 38) / bU ^ 4 := by
  rw [carU_num, val_overT hx0 hx hy0 hy, Int.add_zero]
/-- A number of one part. -/
theorem num_one {c : Int} (h0 : 0 ≤ c) (h1 : c < bU) (k : Nat) : numU c k = if k = 0 then c else 0 := by
  split
  · rename_i h; subst h
    rw [numU, Int.pow_zero, Int.ediv_one, Int.emod_eq_of_lt h0 h1]
  · rename_i h
    obtain ⟨j, rfl⟩ : ∃ j, k = j + 1 := ⟨k - 1, by omega⟩
    have hp := powU_pos j
    have : c < bU ^ (j + 1) := by
      rw [Int.pow_succ]
      have : 1 * bU ≤ bU ^ j * bU := Int.mul_le_mul_of_nonneg_right (by omega) (by have := bU_pos; omega)
      omega
    rw [numU, Int.ediv_eq_zero_of_lt h0 this]
    rfl
theorem num_nought (k : Nat) : numU 0 k = 0 := by rw [numU, Int.zero_ediv]; rfl
theorem num_inj {a b : Int} (ha0 : 0 ≤ a) (ha : a < bU ^ 4) (hb0 : 0 ≤ b) (hb : b < bU ^ 4) (h : ∀ k, k < 4 → numU a k = numU b k) : a = b := by
  rw [← val_four ha0 ha, ← val_four hb0 hb]
  exact valU_congr h

end Go.Proofs.YtdjdanpicbaieaaGreatDoor
