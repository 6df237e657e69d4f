/-
  What the specification's l8Bytes answers: what is left of a number, as 32 bytes. Condition: parts that are not too great.
  What the specification's FieldAdd, FieldSub, FieldMul, FieldInv and FieldOf answer at whatever bytes: 32 bytes of what is left by p, or nothing. Condition: bytes all.
  What is left by p, read again: the number itself; and what follows for sums, products and inverses. Plain laws of whole numbers.
  The ladder of a point by whole numbers, and by numbers of 16 parts: plain laws.
  The curve's points as a group, by whole numbers: Edwards' form x x + y y = 1 + d x x y y by p, whose sum is whole. Plain laws, no condition beyond each fact's own.
  Edwards' sum: four identities of whole numbers (their cofactors by a computer algebra system), by which the sum stays on the curve, is associative, and tells the ladder's step. No condition.
  Edwards' sum of points that lie on the curve: whole, associative, with a neutral point and with inverses; so many times a point. No condition beyond each fact's own.
  The order of the curve's base point: a prime (Pratt's tree), and so many times the base point is the neutral point; no fewer times is. No condition.
  The ladder is so many times a point: what two make of each other's points is one, and it is not 0. No condition but that the keys are clamped.
  What Clamp answers, the specification's and the program's, at whatever bytes: 32 bytes, clamped, or nothing. Condition: bytes all.
  What the specification's l9Ladder answers: the bytes of the point's number. Conditions: 32 bytes; parts of 16 bits or nearly so.
-/
import Derived.Test.YtgdomnejhjdnmaaPart03
import Derived.Test.YtgdomnejhjdnmaaPart04
import Derived.Test.YtgdomnejhjdnmaaPart02
import Derived.Test.YtgdomnejhjdnmaaPart01
namespace Go.Proofs.Ytgdomnejhjdnmaa
open Go.RowKit

theorem and_maskZ (k : Nat) (hk : k ≤ 32) (v : Int) : bits .and .i64 v ((2 ^ k - 1 : Nat) : Int) = v % (2 ^ k : Nat) := by
  have e : bits .and .i64 v ((2 ^ k - 1 : Nat) : Int) = IntKind.i64.wrap ((BitVec.ofInt 64 v &&& BitVec.ofInt 64 ((2 ^ k - 1 : Nat) : Int)).toNat : Int) := rfl
  have e1 : (BitVec.ofInt 64 v).toNat = (v % 18446744073709551616).toNat := BitVec.toNat_ofInt v
  have hp : 2 ^ k ≤ 4294967296 := Nat.le_trans (Nat.pow_le_pow_right (by decide) hk) (by decide)
  have hp0 : 0 < 2 ^ k := Nat.two_pow_pos k
  have e2 : (BitVec.ofInt 64 ((2 ^ k - 1 : Nat) : Int)).toNat = 2 ^ k - 1 := by rw [BitVec.toNat_ofInt]; omega
  have hd : ((2 ^ k : Nat) : Int) ∣ 18446744073709551616 := by
    have : 2 ^ k ∣ 2 ^ 64 := Nat.pow_dvd_pow 2 (by omega)
    exact Int.ofNat_dvd.2 this
  have e3 : (((v % 18446744073709551616).toNat % 2 ^ k : Nat) : Int) = v % (2 ^ k : Nat) := by
    rw [Int.natCast_emod, Int.toNat_of_nonneg (by omega), Int.emod_emod_of_dvd v hd]
  rw [e, BitVec.toNat_and, e1, e2, Nat.and_two_pow_sub_one_eq_mod, e3, IntKind.wrap_i64]
  have h1 : 0 ≤ v % ((2 ^ k : Nat) : Int) := Int.emod_nonneg _ (by omega)
  have h2 : v % ((2 ^ k : Nat) : Int) < ((2 ^ k : Nat) : Int) := Int.emod_lt_of_pos _ (by omega)
  omega
theorem and_65535Z (v : Int) : bits .and .i64 v 65535 = v % 65536 := and_maskZ 16 (by decide) v
theorem and_255Z (v : Int) : bits .and .i64 v 255 = v % 256 := and_maskZ 8 (by decide) v
theorem and_1Z (v : Int) : bits .and .i64 v 1 = v % 2 := and_maskZ 1 (by decide) v
/-- The parts in the midst of a taking away: i - 1 are done. -/
def dwnK (t : Nat → Int) (i j : Nat) : Int := if j + 1 < i then digZ (dffZ t) j else if j + 1 = i then dffZ t j + carZ (dffZ t) j else t j
theorem raw_range {t : Nat → Int} (ht : ∀ i, 0 ≤ t i ∧ t i < 65536) (j : Nat) : -65536 ≤ dffZ t j + carZ (dffZ t) j ∧ dffZ t j + carZ (dffZ t) j ≤ 32768 ∨ j = 0 := by
  by_cases h0 : j = 0
  · exact .inr h0
  · refine .inl ?_
    have hc := dff_car ht j
    have h := ht j
    have hp : 32767 ≤ prtZ j ∧ prtZ j ≤ 65535 := by
      unfold prtZ
      split
      · omega
      · split <;> omega
    have hd : dffZ t j = t j - prtZ j := rfl
    omega
theorem raw_le {t : Nat → Int} (ht : ∀ i, 0 ≤ t i ∧ t i < 65536) (j : Nat) : -65536 ≤ dffZ t j + carZ (dffZ t) j ∧ dffZ t j + carZ (dffZ t) j ≤ 32768 := by
  rcases raw_range ht j with h | h
  · exact h
  · subst h
    have h0 := ht 0
    have hd : dffZ t 0 = t 0 - 65517 := rfl
    have hc : carZ (dffZ t) 0 = 0 := rfl
    omega
def itZ (t : Nat → Int) : Nat → Nat → Int
  | 0 => t
  | k + 1 => lssZ (itZ t k)
theorem itZ_range {t : Nat → Int} (ht : ∀ i, 0 ≤ t i ∧ t i < 65536) : ∀ k i, 0 ≤ itZ t k i ∧ itZ t k i < 65536
  | 0 => ht
  | k + 1 => lss_range (itZ_range ht k)

set_option maxRecDepth 100000 in
set_option maxHeartbeats 8000000 in
theorem l8Bytes_any (f : Nat → Int) (w : World) (h1 : ∀ i, -140737488355328 ≤ f i) (h2 : ∀ i, f i ≤ 140737488355328) :
    Calls Try.prog 49 #[.agg (zV f 16).toArray] w fun e w' => ∃ p' c', e = .returned (.slice p' 32 c') ∧ Own 5 w' w.heap.size w'.heap.size (.slice p' 32 c') 32 (prtB (redZ f) 16) ∧ Below w.heap.size w w' := by
  have hz := (zero_of_info infoZ16).1
  have hsz0 := (zero_of_info infoZ16).2
  have HSZ : Hid (∀ g : Nat → Int, (Try.prog.info? 60).map (·.size) = some (zV g 16).length ∧ (Try.prog.info? 60).map (·.size) = some (zV g 16).toArray.size ∧ (zV g 16).toArray.size = 16) := fun g => by
    have e : (zV g 16).toArray.size = 16 := by simp [zV_length]
    exact ⟨by rw [zV_length]; exact hsz0, by rw [e]; exact hsz0, e⟩
  have HM : Hid (∀ (X : World) (n : Nat), n ≤ X.heap.size → RowZ 60 16 (X.alloc (.cells (zV (fun _ => 0) 16).toArray 60)) n X.heap.size (fun _ => 0)) := fun X n hX => RowZ.made X 60 16 n (fun _ => 0) (by decide) hX
  have m0 := RowZ.made w 60 16 w.heap.size f (by decide) (Nat.le_refl _)
  obtain ⟨As, hAs⟩ : ∃ As, As = zV f 16 := ⟨_, rfl⟩
  have hsA := (HSZ.out f).1
  have hra0 := m0.range
  rw [← hAs] at m0 hsA hra0 ⊢
  have ba : Below w.heap.size w (w.alloc (.cells As.toArray 60)) := (Below.refl _ _).alloc (Nat.le_refl _) _
  obtain ⟨Z, hZ⟩ : ∃ Z, Z = (zV (fun _ => 0) 16).toArray := ⟨_, rfl⟩
  rw [← hZ] at hz
  simp only [← hZ] at HM
  clear hZ
  have hh := cry_head (f := f) (M := 2147516417) (fun i => by have := h1 i; omega) (fun i => by have := h2 i; omega) (by omega)
  have h2nd := cry_twice h1 h2
  have C1 := fun X => l8Carry_any f X h1 h2
  have C2 := fun X => l8Carry_any (cryZ f) X (fun i => by
    by_cases h : i = 0
    · subst h; omega
    · have := cryZ_tail f i h; omega) (fun i => by
    by_cases h : i = 0
    · subst h; omega
    · have := cryZ_tail f i h; omega)
  have C3 := fun X => l8Carry_any (cryZ (cryZ f)) X (fun i => by
    by_cases h : i = 0
    · subst h; omega
    · have := h2nd.1 i h; omega) (fun i => by
    by_cases h : i = 0
    · subst h; omega
    · have := h2nd.1 i h; omega)
  have hT := cry_thrice h1 h2
  have HR : Hid (redZ f = itZ (cryZ (cryZ (cryZ f))) 2) := rfl
  rw [← hAs] at C1
  rw [HR.out]
  clear hh h2nd h1 h2 HR
  generalize cryZ (cryZ (cryZ f)) = T at C3 hT
  replace hAs : Hid (As = zV f 16) := hAs
  clear m0
  go_enter Try.func49, Try.ntmps49
  go_wp2_with (refine wpList_load_mid rfl 60 _ rfl w.heap.size 0 rfl As _ hra0 Try.underlying60 rfl hsA ?_)
  refine (C1 _).mono ?_
  rintro e w1 ⟨rfl, b1⟩
  go_wp2_with (fail)
  refine (C2 _).mono ?_
  rintro e w2 ⟨rfl, b2⟩
  go_wp2_with (fail)
  refine (C3 _).mono ?_
  rintro e w3 ⟨rfl, b3⟩
  have bel3 := below_on (below_on (below_on ba b1) b2) b3
  clear C1 C2 C3 b1 b2 b3 ba hra0 hsA hAs
  have mT := HM.out w3 w.heap.size bel3.size
  have bT : Below w3.heap.size w3 (w3.alloc (.cells Z 60)) := (Below.refl _ _).alloc (Nat.le_refl _) _
  have pT := mT.put (f' := T)
  have hs2 := (HSZ.out T).2.1
  have hs3 := (HSZ.out T).2.2
  have hoT := zV_one T 16
  have hthT : (w3.alloc (.cells Z 60)).there w3.heap.size 0 (zV T 16).toArray.size := by rw [hs3]; exact mT.there
  have bel4 := (below_on bel3 bT).grown pT.2 (below_on bel3 bT).size (fun k hk => by cases hk; exact bel3.size)
  have rT := pT.1
  obtain ⟨Ts, hTs⟩ : ∃ Ts, Ts = zV T 16 := ⟨_, rfl⟩
  rw [← hTs] at hs2 hoT hthT bel4 rT ⊢
  clear hTs pT mT bT hs3
  go_wp2_with (refine wpList_store_mid rfl 60 _ _ rfl w3.heap.size 0 Ts.toArray rfl rfl hthT hs2 (all_oneCell_toArray hoT) ?_)
  obtain ⟨GT, hGT⟩ : ∃ GT, GT = w3.heap.size := ⟨_, rfl⟩
  have hloT : w.heap.size ≤ GT := by rw [hGT]; exact bel3.size
  rw [← hGT] at rT bel4 ⊢
  generalize (w3.alloc (.cells Z 60)).setCells GT 0 Ts = wb at rT bel4 ⊢
  clear hthT hs2 hoT bel3 hGT
  go_loopw [4] (fun i wr => ∃ k : Nat, k ≤ 2 ∧ i = .int .i64 k ∧ RowZ 60 16 wr w.heap.size GT (itZ T k) ∧ Below w.heap.size w wr)
    (fun i _ => 2 - (intOf i).toNat)
  case atStart => exact ⟨0, by omega, rfl, rT, bel4⟩
  case round =>
    clear rT bel4
    obtain ⟨k, hk, rfl, rT, bel⟩ := hrel
    by_cases hlt : k < 2
    · have hlt' : (k : Int) < 2 := by omega
      have htr := itZ_range hT k
      have HI : Hid (lssZ (itZ T k) = itZ T (k + 1)) := rfl
      generalize itZ T k = t at rT htr HI
      have hrt := rT.range
      have hst := (HSZ.out t).1
      have hst2 := (HSZ.out t).2.1
      have hst3 := (HSZ.out t).2.2
      have hot := zV_one t 16
      have mM := HM.out wr w.heap.size bel.size
      have bM : Below wr.heap.size wr (wr.alloc (.cells Z 60)) := (Below.refl _ _).alloc (Nat.le_refl _) _
      have hthM : (wr.alloc (.cells Z 60)).there wr.heap.size 0 (zV t 16).toArray.size := by rw [hst3]; exact mM.there
      have pM := mM.put (f' := t)
      have hlTw := rT.lt.2
      have rT2 := (rT.below bM).kept pM.2 (Nat.ne_of_lt hlTw)
      have bel2 := (below_on bel bM).grown pM.2 (below_on bel bM).size (fun k hk => by cases hk; exact bel.size)
      have rM := pM.1
      obtain ⟨GM, hGM⟩ : ∃ GM, GM = wr.heap.size := ⟨_, rfl⟩
      have hloM : w.heap.size ≤ GM := by rw [hGM]; exact bel.size
      have hneM : GT ≠ GM := by rw [hGM]; exact Nat.ne_of_lt hlTw
      obtain ⟨Ss, hSs⟩ : ∃ Ss, Ss = zV t 16 := ⟨_, rfl⟩
      rw [← hSs] at hrt hst hst2 hot hthM rT2 bel2 rM
      clear hSs pM mM bM hst3 rT bel
      -- m[0]
      have c0 := rT2.cell 0 (by omega)
      have d0 := rM.cell 0 (by omega)
      have g0 := rM.frozen 0
      have r0 := rM.set 0 (dffZ t 0)
      have e0 : dffZ t 0 = t 0 - 65517 := rfl
      rw [e0] at r0
      have l0 := htr 0
      have rT3 := rT2.kept r0.2 (by rw [← hGM]; exact hneM)
      have bel3 := bel2.grown r0.2 bel2.size (fun k hk => by cases hk; rw [← hGM]; exact hloM)
      have rM3 : RowZ 60 16 _ w.heap.size wr.heap.size (dwnK t 1) := r0.1.congr fun i hi => by
        unfold dwnK
        by_cases a1 : i = 0
        · subst a1
          rw [if_pos rfl, if_neg (by omega), if_pos (by omega), e0]
          simp [carZ]
        · rw [if_neg a1, if_neg (by omega), if_neg (by omega)]
      generalize t 0 = t0 at c0 l0 r0 rT3 bel3 rM3 d0
      obtain ⟨z0, hz0⟩ : ∃ z0, z0 = t0 - 65517 := ⟨_, rfl⟩
      rw [← hz0] at rT3 bel3 rM3
      have ez0 : t0 - 65517 = z0 := hz0.symm
      clear r0 e0 hz0 rM
      go_wp2_with (first | (refine wpList_load_mid rfl 60 _ rfl GT 0 rfl Ss _ hrt Try.underlying60 rfl hst ?_) | (refine wpList_store_mid rfl 60 _ _ rfl wr.heap.size 0 Ss.toArray rfl rfl hthM hst2 (all_oneCell_toArray hot) ?_))
      rw [← hGM] at rT3 bel3 rM3 ⊢
      generalize ((wr.alloc (.cells Z 60)).setCells GM 0 Ss).setCell ⟨GM, 0, none⟩ (.int .i64 z0) = wm at rT3 bel3 rM3 ⊢
      clear hGM hthM hst hst2 hot hrt rT2 bel2 c0 d0 g0 l0 ez0 hlTw
      go_loopw [6] (fun i wx => ∃ j : Nat, 1 ≤ j ∧ j ≤ 15 ∧ i = .int .i64 j ∧ RowZ 60 16 wx w.heap.size GM (dwnK t j) ∧ RowZ 60 16 wx w.heap.size GT t ∧ Below w.heap.size w wx)
        (fun i _ => 15 - (intOf i).toNat)
      case atStart => exact ⟨1, by omega, by omega, rfl, rM3, rT3, bel3⟩
      case round =>
        clear rM3 rT3 bel3
        obtain ⟨j, hj1, hj2, rfl, rM, rT, bel⟩ := hrel
        by_cases hlj : j < 15
        · have hlj' : (j : Int) < 15 := by omega
          have hlj6 : (j : Int) < 16 := by omega
          obtain ⟨jp, hjp⟩ : ∃ jp : Nat, jp = j - 1 := ⟨_, rfl⟩
          have ejp : (j : Int) - 1 = (jp : Int) := by omega
          have ljp : (jp : Int) < 16 := by omega
          have cT := rT.cell j (by omega)
          have cM := rM.cell jp (by omega)
          have eM : dwnK t j jp = dffZ t jp + carZ (dffZ t) jp := by unfold dwnK; rw [if_neg (by omega), if_pos (by omega)]
          rw [eM] at cM
          have dM := rM.cell j (by omega)
          have fM := rM.frozen j
          have lr := raw_le htr jp
          have lt := htr j
          have hq := dff_car htr j
          have HQ : carZ (dffZ t) j = (dffZ t jp + carZ (dffZ t) jp) / 65536 := by
            have : j = jp + 1 := by omega
            rw [this]
            rfl
          have HD : digZ (dffZ t) jp = (dffZ t jp + carZ (dffZ t) jp) % 65536 := rfl
          have HV : dffZ t j = t j - 65535 := by
            unfold dffZ prtZ
            rw [if_neg (by omega), if_neg (by omega)]
          have r1 := rM.set j (dffZ t j + carZ (dffZ t) j)
          have c2 := r1.1.cell jp (by omega)
          have e2 : (if jp = j then dffZ t j + carZ (dffZ t) j else dwnK t j jp) = dffZ t jp + carZ (dffZ t) jp := by rw [if_neg (by omega), eM]
          rw [e2] at c2
          have f2 := r1.1.frozen jp
          have r2 := r1.1.set jp (digZ (dffZ t) jp)
          have HF : RowZ 60 16 _ w.heap.size GM (dwnK t (j + 1)) := r2.1.congr fun i hi => by
            unfold dwnK
            by_cases a1 : i = jp
            · subst a1
              rw [if_pos rfl, if_pos (by omega)]
            · rw [if_neg a1]
              by_cases a2 : i = j
              · subst a2
                rw [if_pos rfl, if_neg (by omega), if_pos rfl]
              · rw [if_neg a2]
                by_cases a3 : i + 1 < j
                · rw [if_pos a3, if_pos (by omega)]
                · rw [if_neg a3, if_neg (by omega), if_neg (by omega), if_neg (by omega)]
          have rT' := (rT.kept r1.2 hneM).kept r2.2 hneM
          have bel' := (bel.grown r1.2 bel.size (fun k hk => by cases hk; exact hloM)).grown r2.2 (Nat.le_trans bel.size r1.2.size) (fun k hk => by cases hk; exact hloM)
          rw [HD] at HF rT' bel'
          rw [HQ] at hq HF rT' bel' c2 f2
          rw [HV] at HF rT' bel' c2 f2
          obtain ⟨u, hu⟩ : ∃ u, u = dffZ t jp + carZ (dffZ t) jp := ⟨_, rfl⟩
          rw [← hu] at cM lr hq HF rT' bel' c2 f2
          generalize t j = x at cT lt HF rT' bel' c2 f2
          obtain ⟨x', hx'⟩ : ∃ x', x' = x - 65535 := ⟨_, rfl⟩
          have ex : x - 65535 = x' := hx'.symm
          obtain ⟨q, hqe⟩ : ∃ q, q = u / 65536 := ⟨_, rfl⟩
          have eq : u / 65536 = q := hqe.symm
          obtain ⟨b, hb'⟩ : ∃ b, b = q % 2 := ⟨_, rfl⟩
          have eb := and_1Z q
          rw [← hb'] at eb
          obtain ⟨v, hv⟩ : ∃ v, v = x' - b := ⟨_, rfl⟩
          have ev : x' - b = v := hv.symm
          have ed := and_65535Z u
          obtain ⟨d, hd⟩ : ∃ d, d = u % 65536 := ⟨_, rfl⟩
          rw [← hd] at ed HF rT' bel'
          rw [eq] at hq HF rT' bel' c2 f2
          rw [ex, show x' + q = v by omega] at HF rT' bel' c2 f2
          have lx' : -65535 ≤ x' ∧ x' ≤ 1 := by omega
          have lb : 0 ≤ b ∧ b ≤ 1 := by omega
          clear r1 r2 rM rT bel HQ HD HV eM e2 hu hx' hqe hb' hv hd hjp
          go_wp2_with (fail)
          go_region
          all_goals
            go_wp2
            go_roundw
            case rel => exact ⟨j + 1, by omega, by omega, by go_num, HF, rT', ⟨bel'.os, bel'.tape, bel'.output, bel'.size, bel'.block⟩⟩
            case measure => simp [intOf]; omega
        · obtain rfl : j = 15 := by omega
          have hnl : ¬ ((15 : Nat) : Int) < 15 := by omega
          have cT := rT.cell 15 (by omega)
          have cM := rM.cell 14 (by omega)
          have eM : dwnK t 15 14 = dffZ t 14 + carZ (dffZ t) 14 := by unfold dwnK; rw [if_neg (by omega), if_pos (by omega)]
          rw [eM] at cM
          have dM := rM.cell 15 (by omega)
          have fM := rM.frozen 15
          have lr := raw_le htr 14
          have lt := htr 15
          have hq := dff_car htr 15
          have HQ : carZ (dffZ t) 15 = (dffZ t 14 + carZ (dffZ t) 14) / 65536 := rfl
          have HD : digZ (dffZ t) 14 = (dffZ t 14 + carZ (dffZ t) 14) % 65536 := rfl
          have HV : topZ t = t 15 - 32767 + carZ (dffZ t) 15 := rfl
          have r1 := rM.set 15 (topZ t)
          have c15 := r1.1.cell 15 (by omega)
          simp only [if_true] at c15
          have c2 := r1.1.cell 14 (by omega)
          have e2 : (if 14 = 15 then topZ t else dwnK t 15 14) = dffZ t 14 + carZ (dffZ t) 14 := by rw [if_neg (by omega), eM]
          rw [e2] at c2
          have f2 := r1.1.frozen 14
          have r2 := r1.1.set 14 (digZ (dffZ t) 14)
          have HF : RowZ 60 16 _ w.heap.size GM (fun i => if i = 15 then topZ t else digZ (dffZ t) i) := r2.1.congr fun i hi => by
            by_cases a1 : i = 14
            · subst a1
              rw [if_pos rfl, if_neg (by omega)]
            · rw [if_neg a1]
              by_cases a2 : i = 15
              · rw [if_pos a2, if_pos a2]
              · rw [if_neg a2, if_neg a2]
                unfold dwnK
                rw [if_pos (by omega)]
          have rT' := (rT.kept r1.2 hneM).kept r2.2 hneM
          have bel' := (bel.grown r1.2 bel.size (fun k hk => by cases hk; exact hloM)).grown r2.2 (Nat.le_trans bel.size r1.2.size) (fun k hk => by cases hk; exact hloM)
          have HN : topZ t < 0 → lssZ t = t := fun h => by funext i; rw [lssZ, if_pos h]
          have HP : ¬ topZ t < 0 → lssZ t = fun i => if i = 15 then topZ t else digZ (dffZ t) i := fun h => by funext i; rw [lssZ, if_neg h]
          obtain ⟨F, hF⟩ : ∃ F : Nat → Int, F = fun i => if i = 15 then topZ t else digZ (dffZ t) i := ⟨_, rfl⟩
          rw [← hF] at HF
          simp only [← hF] at HP
          clear hF
          rw [HD] at rT' bel' HF
          obtain ⟨tp, htp⟩ : ∃ tp, tp = topZ t := ⟨_, rfl⟩
          rw [← htp] at HV rT' bel' HF c15 c2 f2 HN HP
          rw [HQ] at hq HV
          obtain ⟨u, hu⟩ : ∃ u, u = dffZ t 14 + carZ (dffZ t) 14 := ⟨_, rfl⟩
          rw [← hu] at cM lr hq HV rT' bel' HF c2
          obtain ⟨x, hx⟩ : ∃ x, x = t 15 := ⟨_, rfl⟩
          rw [← hx] at cT lt HV
          obtain ⟨x', hx'⟩ : ∃ x', x' = x - 32767 := ⟨_, rfl⟩
          have ex : x - 32767 = x' := hx'.symm
          obtain ⟨q, hqe⟩ : ∃ q, q = u / 65536 := ⟨_, rfl⟩
          have eq : u / 65536 = q := hqe.symm
          obtain ⟨b, hb'⟩ : ∃ b, b = q % 2 := ⟨_, rfl⟩
          have eb := and_1Z q
          rw [← hb'] at eb
          have ev : x' - b = tp := by omega
          obtain ⟨s5, hs5⟩ : ∃ s5, s5 = tp / 65536 := ⟨_, rfl⟩
          have es5 : tp / 65536 = s5 := hs5.symm
          obtain ⟨b5, hb5⟩ : ∃ b5, b5 = s5 % 2 := ⟨_, rfl⟩
          have eb5 := and_1Z s5
          rw [← hb5] at eb5
          have ed := and_65535Z u
          obtain ⟨d, hd⟩ : ∃ d, d = u % 65536 := ⟨_, rfl⟩
          rw [← hd] at ed HF rT' bel'
          have lx' : -32767 ≤ x' ∧ x' ≤ 32768 := by omega
          have lb : 0 ≤ b ∧ b ≤ 1 := by omega
          have ltp : -32768 ≤ tp ∧ tp ≤ 32768 := by omega
          by_cases hbl : tp < 0
          · have z5 : b5 = 1 := by omega
            have HE := HN hbl
            rw [HI.out] at HE
            subst z5
            clear r1 r2 rM rT bel HQ HD HV eM e2 hu hx hx' hqe hb' hd hs5 hb5 htp HN HP
            go_wp2_with (fail)
            go_roundw
            case rel => exact ⟨k + 1, by omega, by go_num, by rw [HE]; exact rT', bel'⟩
            case measure => simp [intOf]; omega
          · have z5 : b5 = 0 := by omega
            have HE := HP hbl
            rw [HI.out] at HE
            subst z5
            have hrF := HF.range
            have hf1 := (HSZ.out F).1
            have hf2 := (HSZ.out F).2.1
            have hf3 := (HSZ.out F).2.2
            have hoF := zV_one F 16
            have pF := rT'.put (f' := F)
            have hthF := rT'.there
            rw [← hf3] at hthF
            have bel9 := bel'.grown pF.2 bel'.size (fun k hk => by cases hk; exact hloT)
            have rT9 := pF.1
            obtain ⟨Fs, hFs⟩ : ∃ Fs, Fs = zV F 16 := ⟨_, rfl⟩
            rw [← hFs] at hrF hf1 hf2 hoF hthF bel9 rT9
            clear r1 r2 rM rT bel HQ HD HV eM e2 hu hx hx' hqe hb' hd hs5 hb5 htp HN HP pF hf3 hFs HF rT' bel'
            go_wp2_with (first | (refine wpList_load_mid rfl 60 _ rfl GM 0 rfl Fs _ hrF Try.underlying60 rfl hf1 ?_) | (refine wpList_store_mid rfl 60 _ _ rfl GT 0 Fs.toArray rfl rfl hthF hf2 (all_oneCell_toArray hoF) ?_))
            go_roundw
            case rel => exact ⟨k + 1, by omega, by go_num, by rw [HE]; exact rT9, bel9⟩
            case measure => simp [intOf]; omega
    · obtain rfl : k = 2 := by omega
      have hnl : ¬ ((2 : Nat) : Int) < 2 := by omega
      have htr := itZ_range hT 2
      obtain ⟨t, ht⟩ : ∃ t, t = itZ T 2 := ⟨_, rfl⟩
      rw [← ht] at rT htr
      replace ht : Hid (t = itZ T 2) := ht
      obtain ⟨j0, hj, hy0, hy1, hy2⟩ := info_parts infoByte
      have hsw := bel.size
      have hown0 : (wr.alloc (.cells #[] 5)).ownsRow wr.heap.size 5 1 (.slice (some ⟨wr.heap.size, 0, none⟩) 0 0) 0 ((prtB t 0).map (Value.int .u8)) := World.ownsRow_made wr #[] 0 (Nat.le_refl _) (by unfold maxLen; omega) rfl
      have hb0 : Below wr.heap.size wr (wr.alloc (.cells #[] 5)) := (Below.refl _ _).alloc (Nat.le_refl _) _
      have hlT := rT.lt.2
      have HC : Hid (∀ X i, i < 16 → Below wr.heap.size wr X → X.cell? ⟨GT, i, none⟩ = some (.int .i64 (t i))) := fun X i hi hX => (rT.below hX).cell i hi
      clear rT
      go_wp2_with (fail)
      obtain ⟨wo, hwo⟩ : ∃ wo, wo = wr := ⟨_, rfl⟩
      subst hwo
      go_loopw [8, 9] (fun v i wx => ∃ (k : Nat) (q : Option Addr) (cc : Nat), k ≤ 16 ∧ i = .int .i64 k ∧ v = .slice q (2 * k) cc ∧ wx.ownsRow wo.heap.size 5 1 (.slice q (2 * k) cc) (2 * k) ((prtB t k).map (Value.int .u8)) ∧ Below wo.heap.size wo wx)
        (fun _ i _ => 16 - (intOf i).toNat)
      case atStart => exact ⟨0, _, 0, by omega, rfl, rfl, hown0, hb0⟩
      case round =>
        clear hown0 hb0
        obtain ⟨k, q, cc, hk, rfl, rfl, hown, hbel⟩ := hrel
        by_cases hlt : k < 16
        · have hlt' : (k : Int) < 16 := by omega
          have HS : Hid (prtB t k ++ [t k % 256, t k / 256 % 256] = prtB t (k + 1)) := prtB_step t k
          have hx := htr k
          have hT0 := HC.out wr.drew k hlt (below_on hbel ((Below.refl _ _).drew))
          replace hown := owns_below hown (Below.refl wr.heap.size wr).drew
          replace hbel := below_on hbel ((Below.refl wr.heap.size wr).drew)
          have HK : Hid (∀ X, Below wo.heap.size wo X → X.cell? ⟨GT, k, none⟩ = some (.int .i64 (t k))) := fun X hX => HC.out X k hlt hX
          generalize t k = x at HS hx hT0 HK
          obtain ⟨lo, hlo⟩ : ∃ lo, lo = x % 256 := ⟨_, rfl⟩
          obtain ⟨x8, hx8⟩ : ∃ x8, x8 = x / 256 := ⟨_, rfl⟩
          have ex8 : x / 256 = x8 := hx8.symm
          obtain ⟨hi', hhi⟩ : ∃ hi', hi' = x8 % 256 := ⟨_, rfl⟩
          have ea := and_255Z x
          have eb := and_255Z x8
          rw [← hlo] at ea HS
          rw [← hhi] at eb
          rw [← hx8, ← hhi] at HS
          have llo : 0 ≤ lo ∧ lo < 256 := by omega
          have lhi : 0 ≤ hi' ∧ hi' < 256 := by omega
          have wl : IntKind.u8.wrap lo = lo := by rw [IntKind.wrap_u8]; omega
          have wh : IntKind.u8.wrap hi' = hi' := by rw [IntKind.wrap_u8]; omega
          have ml : lo % 256 = lo := by omega
          have mh : hi' % 256 = hi' := by omega
          have h2k : 2 * (k + 1) = 2 * k + 2 := by omega
          clear hlo hx8 hhi
          go_wp2_with (fail)
          refine wp_region_noPanic ?_
          refine wp_region_T 15 (fun X => X.cell? ⟨GT, k, none⟩ = some (.int .i64 x)) (fun _ => True) (by kernel_rfl) ?_
          generalize wr.drew = wX at hown hbel hT0 ⊢
          refine anyT_takeT (i := 0) (v := .slice q (2 * k) cc) rfl (by kernel_rfl) (by kernel_rfl) (by kernel_rfl) (by kernel_rfl) (fun _ _ _ h => h) (Or.inl ⟨by rfl, fun X _ => by go_simp⟩) hT0 (fun _ => trivial) ?_
          simp only [Act.put, List.getElem_toArray, List.getElem_cons_zero, List.setIfInBounds_toArray, List.set_cons_zero, List.set_cons_succ]
          refine anyT_takeT (i := 1) (v := .int .i64 (k : Int)) rfl (by kernel_rfl) (by kernel_rfl) (by kernel_rfl) (by kernel_rfl) (fun _ _ _ h => h) (Or.inl ⟨by rfl, fun X _ => by go_simp⟩) hT0 (fun _ => trivial) ?_
          simp only [Act.put, List.getElem_toArray, List.getElem_cons_zero, List.getElem_cons_succ, List.setIfInBounds_toArray, List.set_cons_zero, List.set_cons_succ]
          refine anyT_takeT (i := 2) (v := .pointer (some ⟨GT, k, none⟩)) rfl (by kernel_rfl) (by kernel_rfl) (by kernel_rfl) (by kernel_rfl) (fun _ _ _ h => h) (Or.inl ⟨by rfl, fun X _ => by go_simp⟩) hT0 (fun _ => trivial) ?_
          simp only [Act.put, List.getElem_toArray, List.getElem_cons_zero, List.getElem_cons_succ, List.setIfInBounds_toArray, List.set_cons_zero, List.set_cons_succ]
          refine anyT_takeT (i := 3) (v := .int .i64 x) rfl (by kernel_rfl) (by kernel_rfl) (by kernel_rfl) (by kernel_rfl) (fun _ _ _ h => h) (Or.inl ⟨by rfl, fun X hSw => by (try dsimp only at hSw); go_simp⟩) hT0 (fun _ => trivial) ?_
          simp only [Act.put, List.getElem_toArray, List.getElem_cons_zero, List.getElem_cons_succ, List.setIfInBounds_toArray, List.set_cons_zero, List.set_cons_succ]
          refine anyT_takeT (i := 4) (v := .int .i64 lo) rfl (by kernel_rfl) (by kernel_rfl) (by kernel_rfl) (by kernel_rfl) (fun _ _ _ h => h) (Or.inl ⟨by rfl, fun X _ => by go_simp⟩) hT0 (fun _ => trivial) ?_
          simp only [Act.put, List.getElem_toArray, List.getElem_cons_zero, List.getElem_cons_succ, List.setIfInBounds_toArray, List.set_cons_zero, List.set_cons_succ]
          refine anyT_takeT (i := 5) (v := .int .u8 lo) rfl (by kernel_rfl) (by kernel_rfl) (by kernel_rfl) (by kernel_rfl) (fun _ _ _ h => h) (Or.inl ⟨by rfl, fun X _ => by go_simp⟩) hT0 (fun _ => trivial) ?_
          simp only [Act.put, List.getElem_toArray, List.getElem_cons_zero, List.getElem_cons_succ, List.setIfInBounds_toArray, List.set_cons_zero, List.set_cons_succ]
          refine anyT_takeT (i := 6) (v := .int .i64 (k : Int)) rfl (by kernel_rfl) (by kernel_rfl) (by kernel_rfl) (by kernel_rfl) (fun _ _ _ h => h) (Or.inl ⟨by rfl, fun X _ => by go_simp⟩) hT0 (fun _ => trivial) ?_
          simp only [Act.put, List.getElem_toArray, List.getElem_cons_zero, List.getElem_cons_succ, List.setIfInBounds_toArray, List.set_cons_zero, List.set_cons_succ]
          refine anyT_takeT (i := 7) (v := .pointer (some ⟨GT, k, none⟩)) rfl (by kernel_rfl) (by kernel_rfl) (by kernel_rfl) (by kernel_rfl) (fun _ _ _ h => h) (Or.inl ⟨by rfl, fun X _ => by go_simp⟩) hT0 (fun _ => trivial) ?_
          simp only [Act.put, List.getElem_toArray, List.getElem_cons_zero, List.getElem_cons_succ, List.setIfInBounds_toArray, List.set_cons_zero, List.set_cons_succ]
          refine anyT_takeT (i := 8) (v := .int .i64 x) rfl (by kernel_rfl) (by kernel_rfl) (by kernel_rfl) (by kernel_rfl) (fun _ _ _ h => h) (Or.inl ⟨by rfl, fun X hSw => by (try dsimp only at hSw); go_simp⟩) hT0 (fun _ => trivial) ?_
          simp only [Act.put, List.getElem_toArray, List.getElem_cons_zero, List.getElem_cons_succ, List.setIfInBounds_toArray, List.set_cons_zero, List.set_cons_succ]
          refine anyT_takeT (i := 9) (v := .int .i64 x8) rfl (by kernel_rfl) (by kernel_rfl) (by kernel_rfl) (by kernel_rfl) (fun _ _ _ h => h) (Or.inl ⟨by rfl, fun X _ => by go_simp⟩) hT0 (fun _ => trivial) ?_
          simp only [Act.put, List.getElem_toArray, List.getElem_cons_zero, List.getElem_cons_succ, List.setIfInBounds_toArray, List.set_cons_zero, List.set_cons_succ]
          refine anyT_takeT (i := 10) (v := .int .i64 hi') rfl (by kernel_rfl) (by kernel_rfl) (by kernel_rfl) (by kernel_rfl) (fun _ _ _ h => h) (Or.inl ⟨by rfl, fun X _ => by go_simp⟩) hT0 (fun _ => trivial) ?_
          simp only [Act.put, List.getElem_toArray, List.getElem_cons_zero, List.getElem_cons_succ, List.setIfInBounds_toArray, List.set_cons_zero, List.set_cons_succ]
          refine anyT_takeT (i := 11) (v := .int .u8 hi') rfl (by kernel_rfl) (by kernel_rfl) (by kernel_rfl) (by kernel_rfl) (fun _ _ _ h => h) (Or.inl ⟨by rfl, fun X _ => by go_simp⟩) hT0 (fun _ => trivial) ?_
          simp only [Act.put, List.getElem_toArray, List.getElem_cons_zero, List.getElem_cons_succ, List.setIfInBounds_toArray, List.set_cons_zero, List.set_cons_succ]
          have bB : Below wX.heap.size wX (wX.alloc (.cells #[.int .u8 lo, .int .u8 hi'] 5)) := (Below.refl _ _).alloc (Nat.le_refl _) _
          have hT1 := HK.out _ (below_on hbel bB)
          refine anyT_one (i := 12) (by kernel_rfl) rfl (fun K hK => ?_)
          go_simp
          refine hK.out _ _ hT1 (fun _ => trivial) ?_
          clear hK K
          have hin2 : BytesIn (wX.alloc (.cells #[.int .u8 lo, .int .u8 hi'] 5)) (some ⟨wX.heap.size, 0, none⟩) 2 [lo, hi'] := owns_in (base := wX.heap.size) (e := 5) (c := 2) ⟨rfl, .inr ⟨wX.heap.size, 2, _, rfl, Nat.le_refl _, heap_alloc_new wX _, Nat.le_refl _, by unfold maxLen; omega, rfl, rfl⟩⟩
          have hsz2 := (below_on hbel bB).size
          refine anyT_one (i := 13) (by kernel_rfl) rfl (fun K hK => ?_)
          refine step_spread hj hy0 hy1 hy2 (.tmp 74) (.tmp 86) 22 Try.underlying22 (owns_below hown bB) hin2 rfl (by decide) (by omega) (by omega) hsz2 (by rfl) (by rfl) (by rfl) (by rfl) ?_
          intro gn cn wn ho hgn hbn
          rw [HS.out, ← h2k] at ho
          have hbel' := (below_on hbel bB).trans hbn
          refine hK.out _ _ (HK.out _ hbel') (fun _ => trivial) ?_
          clear hK K
          have hT0 := HK.out _ hbel'
          try rw [← h2k]
          refine anyT_takeT (i := 14) (v := .slice (some ⟨gn, 0, none⟩) (2 * (k + 1)) cn) rfl (by kernel_rfl) (by kernel_rfl) (by kernel_rfl) (by kernel_rfl) (fun _ _ _ h => h) (Or.inl ⟨by rfl, fun X _ => by go_simp⟩) hT0 (fun _ => trivial) ?_
          simp only [Act.put, List.getElem_toArray, List.getElem_cons_zero, List.getElem_cons_succ, List.setIfInBounds_toArray, List.set_cons_zero, List.set_cons_succ]
          refine anyT_done (by kernel_rfl) ?_ _
          refine NoPanic.normal ?_
          clear hT0 hT1 hown hin2 bB hbel
          go_wp2_with (fail)
          go_roundw
          case rel => exact ⟨k + 1, _, cn, by omega, by go_num, rfl, ho, hbel'⟩
          case measure => simp [intOf]; omega
        · obtain rfl : k = 16 := by omega
          have hno : ¬ ((16 : Nat) : Int) < 16 := by omega
          go_wp2_with (fail)
          go_ret
          rw [ht.out] at hown
          exact ⟨_, _, rfl, .of (owns_mono hown hsw), below_on bel hbel⟩

end Go.Proofs.Ytgdomnejhjdnmaa

namespace Go.Proofs.Ytgdomnejhjdnmaa
open Go.RowKit
set_option maxRecDepth 100000

/-- The number of 32 bytes, the highest bit left away. -/
def numF (xs : List Int) : Int := valZ (ofZ xs) 16
def two32 (n m : Nat) : Prop := n = 32 ∧ m = 32
instance (n m : Nat) : Decidable (two32 n m) := inferInstanceAs (Decidable (_ ∧ _))
def fldN (n m : Nat) : Nat := if two32 n m then 32 else 0
/-- The bytes of z, where both are of 32 bytes. -/
def fldL (z : Int) (n m : Nat) : List Int := if two32 n m then numB (z % fldP) else []
theorem fldN_le (n m : Nat) : fldN n m ≤ 32 := by unfold fldN; split <;> omega
theorem numB_length (z : Int) : (numB z).length = 32 := rfl
theorem fldL_length (z : Int) (n m : Nat) : (fldL z n m).length = fldN n m := by
  unfold fldL fldN
  split
  · exact numB_length _
  · rfl
theorem numB_byte (z : Int) : ∀ y ∈ numB z, 0 ≤ y ∧ y < 256 := by
  intro y hy
  simp only [numB, List.mem_flatMap, List.mem_cons, List.not_mem_nil, or_false] at hy
  obtain ⟨i, _, h | h⟩ := hy <;> omega
theorem fldL_byte (z : Int) (n m : Nat) : ∀ y ∈ fldL z n m, 0 ≤ y ∧ y < 256 := by
  unfold fldL
  split
  · exact numB_byte _
  · intro y hy; cases hy
theorem okOf {xs : List Int} (hb : ∀ x ∈ xs, 0 ≤ x ∧ x < 256) : okZ (ofZ xs) := fun i => by
  have := ofZ_range hb i
  omega
theorem okZ_wide {f : Nat → Int} (h : okZ f) : (∀ i, -140737488355328 ≤ f i) ∧ ∀ i, f i ≤ 140737488355328 := ⟨fun i => by have := h i; omega, fun i => by have := h i; omega⟩
theorem invE_val : (fldP - 2).toNat = invE 254 := by
  have := invE_last
  omega

def oneN (n : Nat) : Nat := if n = 32 then 32 else 0
def oneL (z : Int) (n : Nat) : List Int := if n = 32 then numB (z % fldP) else []
theorem oneN_le (n : Nat) : oneN n ≤ 32 := by unfold oneN; split <;> omega
theorem oneL_length (z : Int) (n : Nat) : (oneL z n).length = oneN n := by
  unfold oneL oneN
  split
  · exact numB_length _
  · rfl
theorem oneL_byte (z : Int) (n : Nat) : ∀ y ∈ oneL z n, 0 ≤ y ∧ y < 256 := by
  unfold oneL
  split
  · exact numB_byte _
  · intro y hy; cases hy

end Go.Proofs.Ytgdomnejhjdnmaa

namespace Go.Proofs.Ytgdomnejhjdnmaa
set_option maxRecDepth 100000

theorem numB_lo (z : Int) (i : Nat) (hi : i < 16) : (numB z).getD (2 * i) 0 = z / 65536 ^ i % 65536 % 256 := by
  have h : i = 0 ∨ i = 1 ∨ i = 2 ∨ i = 3 ∨ i = 4 ∨ i = 5 ∨ i = 6 ∨ i = 7 ∨ i = 8 ∨ i = 9 ∨ i = 10 ∨ i = 11 ∨ i = 12 ∨ i = 13 ∨ i = 14 ∨ i = 15 := by omega
  rcases h with rfl | rfl | rfl | rfl | rfl | rfl | rfl | rfl | rfl | rfl | rfl | rfl | rfl | rfl | rfl | rfl <;> rfl
theorem numB_hi (z : Int) (i : Nat) (hi : i < 16) : (numB z).getD (2 * i + 1) 0 = z / 65536 ^ i % 65536 / 256 % 256 := by
  have h : i = 0 ∨ i = 1 ∨ i = 2 ∨ i = 3 ∨ i = 4 ∨ i = 5 ∨ i = 6 ∨ i = 7 ∨ i = 8 ∨ i = 9 ∨ i = 10 ∨ i = 11 ∨ i = 12 ∨ i = 13 ∨ i = 14 ∨ i = 15 := by omega
  rcases h with rfl | rfl | rfl | rfl | rfl | rfl | rfl | rfl | rfl | rfl | rfl | rfl | rfl | rfl | rfl | rfl <;> rfl
theorem parts_val (z : Int) : ∀ n, valZ (fun i => z / 65536 ^ i % 65536) n = z % 65536 ^ n
  | 0 => by simp [valZ, Int.emod_one]
  | n + 1 => by
    have hp := powZ_pos n
    rw [valZ, parts_val z n, Int.pow_succ]
    have h1 := Int.mul_ediv_add_emod z (65536 ^ n)
    have h2 := Int.mul_ediv_add_emod (z / 65536 ^ n) 65536
    have e : z = (65536 ^ n * 65536) * (z / 65536 ^ n / 65536) + (z % 65536 ^ n + z / 65536 ^ n % 65536 * 65536 ^ n) := by
      have : 65536 ^ n * (z / 65536 ^ n) = 65536 ^ n * (65536 * (z / 65536 ^ n / 65536)) + 65536 ^ n * (z / 65536 ^ n % 65536) := by rw [← Int.mul_add, h2]
      rw [Int.mul_assoc, Int.mul_comm (z / 65536 ^ n % 65536)]
      omega
    have r1 : 0 ≤ z % 65536 ^ n := Int.emod_nonneg _ (by omega)
    have r2 : z % 65536 ^ n < 65536 ^ n := Int.emod_lt_of_pos _ hp
    have r3 : 0 ≤ z / 65536 ^ n % 65536 := by omega
    have r4 : z / 65536 ^ n % 65536 ≤ 65535 := by omega
    have r5 : 0 ≤ z / 65536 ^ n % 65536 * 65536 ^ n := Int.mul_nonneg r3 (by omega)
    have r6 : z / 65536 ^ n % 65536 * 65536 ^ n ≤ 65535 * 65536 ^ n := Int.mul_le_mul_of_nonneg_right r4 (by omega)
    have k : z % (65536 ^ n * 65536) = (65536 ^ n * 65536 * (z / 65536 ^ n / 65536) + (z % 65536 ^ n + z / 65536 ^ n % 65536 * 65536 ^ n)) % (65536 ^ n * 65536) := congrArg (fun x => x % (65536 ^ n * 65536)) e
    rw [Int.mul_add_emod_self_left, Int.emod_eq_of_lt (a := z % 65536 ^ n + z / 65536 ^ n % 65536 * 65536 ^ n) (by omega) (by omega)] at k
    exact k.symm
theorem numF_numB {z : Int} (h0 : 0 ≤ z) (h1 : z < fldP) : numF (numB z) = z := by
  have hb : (65536 : Int) ^ 16 = 65536 * 65536 ^ 15 := by decide
  have hP : fldP < 32768 * 65536 ^ 15 := by decide
  have h15 : z / 65536 ^ 15 < 32768 := Int.ediv_lt_of_lt_mul (by decide) (by omega)
  have h15' : 0 ≤ z / 65536 ^ 15 := Int.ediv_nonneg h0 (by decide)
  have e : valZ (ofZ (numB z)) 16 = valZ (fun i => z / 65536 ^ i % 65536) 16 := valZ_congr fun i hi => by
    have hp : pairZ (numB z) i = z / 65536 ^ i % 65536 := by
      unfold pairZ
      rw [numB_lo z i hi, numB_hi z i hi]
      omega
    unfold ofZ
    split
    · rename_i h
      subst h
      rw [hp]
      omega
    · exact hp
  rw [numF, e, parts_val, Int.emod_eq_of_lt h0 (by rw [hb]; omega)]
theorem fldP_pos : 0 < fldP := by decide
theorem numF_left (z : Int) : numF (numB (z % fldP)) = z % fldP := numF_numB (Int.emod_nonneg _ (by have := fldP_pos; omega)) (Int.emod_lt_of_pos _ fldP_pos)

/-! ### what follows -/
theorem left_mul (x y : Int) : (x % fldP * y) % fldP = (x * y) % fldP := ((likeP_mod x).mulR y).mod
theorem right_mul (x y : Int) : (x * (y % fldP)) % fldP = (x * y) % fldP := ((likeP_mod y).mulL x).mod
theorem left_add (x y : Int) : (x % fldP + y) % fldP = (x + y) % fldP := ((likeP_mod x).add (likeP.refl y)).mod
theorem both_add (x y : Int) : (x % fldP + y % fldP) % fldP = (x + y) % fldP := ((likeP_mod x).add (likeP_mod y)).mod
theorem left_sub (x y : Int) : (x % fldP - y) % fldP = (x - y) % fldP := ((likeP_mod x).sub (likeP.refl y)).mod
theorem mod_left (x : Int) : x % fldP % fldP = x % fldP := (likeP_mod x).mod
theorem like_pow {a b : Int} (h : likeP a b) : ∀ n, likeP (a ^ n) (b ^ n)
  | 0 => by rw [Int.pow_zero, Int.pow_zero]; exact likeP.refl _
  | n + 1 => by rw [Int.pow_succ, Int.pow_succ]; exact (like_pow h n).mul h
theorem left_pow (x : Int) (n : Nat) : ((x % fldP) ^ n) % fldP = (x ^ n) % fldP := (like_pow (likeP_mod x) n).mod
/-- Fermat's word for p. -/
theorem fermatP (z : Int) (hz : z % fldP ≠ 0) : z ^ ((fldP - 2).toNat + 1) % fldP = 1 := by
  have hpos := fldP_pos
  obtain ⟨n, hn⟩ : ∃ n : Nat, z % fldP = n := ⟨(z % fldP).toNat, by have := Int.emod_nonneg z (show fldP ≠ 0 by omega); omega⟩
  have hP : fldP = ((57896044618658097711785492504343953926634992332820282019728792003956564819949 : Nat) : Int) := rfl
  have hlt : z % fldP < fldP := Int.emod_lt_of_pos _ hpos
  have hn0 : n % 57896044618658097711785492504343953926634992332820282019728792003956564819949 ≠ 0 := by
    rw [Nat.mod_eq_of_lt (by omega)]
    omega
  have hf := prime_n77.2 n hn0
  have he : (fldP - 2).toNat + 1 = 57896044618658097711785492504343953926634992332820282019728792003956564819949 - 1 := by decide
  rw [he, ← left_pow, hn, hP, ← Int.natCast_pow, ← Int.natCast_emod, hf]
  rfl
/-- An inverse's inverse. -/
theorem fermat_back (z : Int) (hz : z % fldP ≠ 0) : ((z ^ (fldP - 2).toNat) ^ (fldP - 2).toNat) % fldP = z % fldP := by
  have h := fermatP z hz
  have hl : likeP (z ^ ((fldP - 2).toNat + 1)) 1 := likeP_of_mod (by rw [h]; decide)
  have e : (z ^ (fldP - 2).toNat) ^ (fldP - 2).toNat = (z ^ ((fldP - 2).toNat + 1)) ^ ((fldP - 2).toNat - 1) * z := by
    rw [← Int.pow_mul, ← Int.pow_mul]
    have : (fldP - 2).toNat * (fldP - 2).toNat = ((fldP - 2).toNat + 1) * ((fldP - 2).toNat - 1) + 1 := by decide
    rw [this, Int.pow_succ]
  rw [e]
  have h2 := (like_pow hl ((fldP - 2).toNat - 1)).mulR z
  rw [Int.one_pow, Int.one_mul] at h2
  exact h2.mod

end Go.Proofs.Ytgdomnejhjdnmaa

namespace Go.Proofs.Ytgdomnejhjdnmaa
set_option maxRecDepth 100000

/-- Parts of 16 bits or nearly so. -/
def smZ (f : Nat → Int) : Prop := ∀ i, -65600 ≤ f i ∧ f i ≤ 65600
theorem mulZ_sm {a b : Nat → Int} (ha : okZ a) (hb : okZ b) : smZ (mulZ a b) := fun i => by
  have h := cry_twice (f := fldZ (rwsZ a b 16)) (fun i => (fldZ_le ha hb i).1) (fun i => (fldZ_le ha hb i).2)
  by_cases hi : i = 0
  · subst hi
    have h1 : mulZ a b 0 = cryZ (cryZ (fldZ (rwsZ a b 16))) 0 := rfl
    omega
  · have h1 := h.1 i hi
    have h2 : mulZ a b i = cryZ (cryZ (fldZ (rwsZ a b 16))) i := rfl
    omega
theorem smZ.ok {f : Nat → Int} (h : smZ f) : okZ f := fun i => by have := h i; omega
def addZ (f g : Nat → Int) (i : Nat) : Int := f i + g i
def subZ (f g : Nat → Int) (i : Nat) : Int := f i - g i
theorem add_ok {f g : Nat → Int} (h : smZ f) (k : smZ g) : okZ (addZ f g) := fun i => by have := h i; have := k i; unfold addZ; omega
theorem sub_ok {f g : Nat → Int} (h : smZ f) (k : smZ g) : okZ (subZ f g) := fun i => by have := h i; have := k i; unfold subZ; omega
theorem val_addZ (f g : Nat → Int) : valZ (addZ f g) 16 = valZ f 16 + valZ g 16 := valZ_add f g 16
theorem val_subZ (f g : Nat → Int) : valZ (subZ f g) 16 = valZ f 16 - valZ g 16 := valZ_sub f g 16

/-- x2, x3, z2, z3. -/
structure Lad where
  a : Int
  b : Int
  c : Int
  d : Int
def ladEE (s : Lad) : Int := (s.a + s.c) * (s.a + s.c)
def ladFF (s : Lad) : Int := (s.a - s.c) * (s.a - s.c)
def ladHE (s : Lad) : Int := (s.b - s.d) * (s.a + s.c)
def ladGF (s : Lad) : Int := (s.b + s.d) * (s.a - s.c)
def ladStep (x : Int) (s : Lad) : Lad := ⟨ladEE s * ladFF s, (ladHE s + ladGF s) * (ladHE s + ladGF s), (ladEE s - ladFF s) * (ladEE s + (ladEE s - ladFF s) * 121665), x * ((ladHE s - ladGF s) * (ladHE s - ladGF s))⟩
def ladSw (s : Lad) : Lad := ⟨s.b, s.a, s.d, s.c⟩
def ladIf (t : Bool) (s : Lad) : Lad := if t then ladSw s else s
def likeL (s t : Lad) : Prop := likeP s.a t.a ∧ likeP s.b t.b ∧ likeP s.c t.c ∧ likeP s.d t.d
theorem likeL.refl (s : Lad) : likeL s s := ⟨likeP.refl _, likeP.refl _, likeP.refl _, likeP.refl _⟩
theorem likeL.trans {s t u : Lad} (h : likeL s t) (k : likeL t u) : likeL s u := ⟨h.1.trans k.1, h.2.1.trans k.2.1, h.2.2.1.trans k.2.2.1, h.2.2.2.trans k.2.2.2⟩
theorem likeL.symm {s t : Lad} (h : likeL s t) : likeL t s := ⟨h.1.symm, h.2.1.symm, h.2.2.1.symm, h.2.2.2.symm⟩
theorem likeL.ladIf {s t : Lad} (h : likeL s t) (b : Bool) : likeL (ladIf b s) (ladIf b t) := by
  unfold Go.Proofs.Ytgdomnejhjdnmaa.ladIf
  cases b
  · exact h
  · exact ⟨h.2.1, h.1, h.2.2.2, h.2.2.1⟩
theorem like_EE {s t : Lad} (h : likeL s t) : likeP (ladEE s) (ladEE t) := (h.1.add h.2.2.1).mul (h.1.add h.2.2.1)
theorem like_FF {s t : Lad} (h : likeL s t) : likeP (ladFF s) (ladFF t) := (h.1.sub h.2.2.1).mul (h.1.sub h.2.2.1)
theorem like_HE {s t : Lad} (h : likeL s t) : likeP (ladHE s) (ladHE t) := (h.2.1.sub h.2.2.2).mul (h.1.add h.2.2.1)
theorem like_GF {s t : Lad} (h : likeL s t) : likeP (ladGF s) (ladGF t) := (h.2.1.add h.2.2.2).mul (h.1.sub h.2.2.1)
theorem like_step {x y : Int} {s t : Lad} (hx : likeP x y) (h : likeL s t) : likeL (ladStep x s) (ladStep y t) :=
  ⟨(like_EE h).mul (like_FF h), ((like_HE h).add (like_GF h)).mul ((like_HE h).add (like_GF h)), ((like_EE h).sub (like_FF h)).mul ((like_EE h).add (((like_EE h).sub (like_FF h)).mulR _)), hx.mul (((like_HE h).sub (like_GF h)).mul ((like_HE h).sub (like_GF h)))⟩
/-- The ladder behind n of its 255 bits, from the highest down. -/
def ladN (bit : Nat → Bool) (x : Int) : Nat → Lad
  | 0 => ⟨1, x, 0, 1⟩
  | n + 1 => ladStep x (ladIf (bit (254 - n) != (if n = 0 then false else bit (255 - n))) (ladN bit x n))
/-- The bit that was met last. -/
def lastB (bit : Nat → Bool) (n : Nat) : Bool := if n = 0 then false else bit (255 - n)
def ladE (bit : Nat → Bool) (x : Int) : Lad := ladIf (bit 0) (ladN bit x 255)
/-- The point's number. -/
def ladZ (bit : Nat → Bool) (x : Int) : Int := (ladE bit x).a * (ladE bit x).c ^ (fldP - 2).toNat % fldP
theorem ladN_like {x y : Int} (hx : likeP x y) (bit : Nat → Bool) : ∀ n, likeL (ladN bit x n) (ladN bit y n)
  | 0 => ⟨likeP.refl _, hx, likeP.refl _, likeP.refl _⟩
  | n + 1 => like_step hx ((ladN_like hx bit n).ladIf _)
theorem ladZ_of {s : Lad} {bit : Nat → Bool} {x : Int} (h : likeL s (ladE bit x)) : s.a * s.c ^ (fldP - 2).toNat % fldP = ladZ bit x := (h.1.mul (like_pow h.2.2.1 _)).mod
theorem ladZ_like {x y : Int} (hx : likeP x y) (bit : Nat → Bool) : ladZ bit x = ladZ bit y := ladZ_of ((ladN_like hx bit 255).ladIf _)
theorem ladN_congr {bit bit' : Nat → Bool} (x : Int) (h : ∀ i, i < 255 → bit i = bit' i) : ∀ n, n ≤ 255 → ladN bit x n = ladN bit' x n
  | 0, _ => rfl
  | n + 1, hn => by
    have ih := ladN_congr x h n (by omega)
    rw [ladN, ladN, ih, h (254 - n) (by omega)]
    by_cases h0 : n = 0
    · rw [if_pos h0, if_pos h0]
    · rw [if_neg h0, if_neg h0, h (255 - n) (by omega)]
theorem ladZ_congr {bit bit' : Nat → Bool} (x : Int) (h : ∀ i, i < 255 → bit i = bit' i) : ladZ bit x = ladZ bit' x := by
  unfold ladZ ladE
  rw [ladN_congr x h 255 (by omega), h 0 (by omega)]

/-! ### the ladder by numbers of 16 parts -/
structure Az where
  a : Nat → Int
  b : Nat → Int
  c : Nat → Int
  d : Nat → Int
def azVal (s : Az) : Lad := ⟨valZ s.a 16, valZ s.b 16, valZ s.c 16, valZ s.d 16⟩
def azOk (s : Az) : Prop := smZ s.a ∧ smZ s.b ∧ smZ s.c ∧ smZ s.d
def azSw (s : Az) : Az := ⟨s.b, s.a, s.d, s.c⟩
def azIf (t : Bool) (s : Az) : Az := if t then azSw s else s
theorem azIf_val (t : Bool) (s : Az) : azVal (azIf t s) = ladIf t (azVal s) := by cases t <;> rfl
theorem azIf_ok {t : Bool} {s : Az} (h : azOk s) : azOk (azIf t s) := by
  cases t
  · exact h
  · exact ⟨h.2.1, h.1, h.2.2.2, h.2.2.1⟩
def oneAt (v : Int) (i : Nat) : Int := if i = 0 then v else 0
/-- 121665 in 16 parts. -/
def mZ (i : Nat) : Int := if i = 0 then 56129 else if i = 1 then 1 else 0
theorem mZ_val : valZ mZ 16 = 121665 := by decide
theorem mZ_sm : smZ mZ := fun i => by
  unfold mZ
  split
  · omega
  · split <;> omega
theorem oneAt_val (v : Int) : valZ (oneAt v) 16 = v := by
  have h := valZ_split (oneAt v) 1 15
  have e : valZ (fun i => oneAt v (1 + i)) 15 = 0 := by
    have e0 : valZ (fun i => oneAt v (1 + i)) 15 = valZ (fun _ => 0) 15 := valZ_congr fun i _ => by rw [oneAt, if_neg (by omega)]
    rw [e0, valZ_zero]
  rw [e] at h
  have h2 : valZ (oneAt v) 1 = v := by simp [valZ, oneAt]
  show valZ (oneAt v) (1 + 15) = v
  rw [h, h2]
  omega
theorem oneAt_sm {v : Int} (h0 : 0 ≤ v) (h1 : v ≤ 65535) : smZ (oneAt v) := fun i => by unfold oneAt; split <;> omega
def azEE (s : Az) : Nat → Int := mulZ (addZ s.a s.c) (addZ s.a s.c)
def azFF (s : Az) : Nat → Int := mulZ (subZ s.a s.c) (subZ s.a s.c)
def azHE (s : Az) : Nat → Int := mulZ (subZ s.b s.d) (addZ s.a s.c)
def azGF (s : Az) : Nat → Int := mulZ (addZ s.b s.d) (subZ s.a s.c)
def azW (s : Az) : Nat → Int := subZ (azEE s) (azFF s)
def azStep (x : Nat → Int) (s : Az) : Az := ⟨mulZ (azEE s) (azFF s), mulZ (addZ (azHE s) (azGF s)) (addZ (azHE s) (azGF s)), mulZ (azW s) (addZ (azEE s) (mulZ (azW s) mZ)), mulZ x (mulZ (subZ (azHE s) (azGF s)) (subZ (azHE s) (azGF s)))⟩
theorem azEE_sm {s : Az} (h : azOk s) : smZ (azEE s) := mulZ_sm (add_ok h.1 h.2.2.1) (add_ok h.1 h.2.2.1)
theorem azFF_sm {s : Az} (h : azOk s) : smZ (azFF s) := mulZ_sm (sub_ok h.1 h.2.2.1) (sub_ok h.1 h.2.2.1)
theorem azHE_sm {s : Az} (h : azOk s) : smZ (azHE s) := mulZ_sm (sub_ok h.2.1 h.2.2.2) (add_ok h.1 h.2.2.1)
theorem azGF_sm {s : Az} (h : azOk s) : smZ (azGF s) := mulZ_sm (add_ok h.2.1 h.2.2.2) (sub_ok h.1 h.2.2.1)
theorem azW_ok {s : Az} (h : azOk s) : okZ (azW s) := sub_ok (azEE_sm h) (azFF_sm h)
theorem azWM_sm {s : Az} (h : azOk s) : smZ (mulZ (azW s) mZ) := mulZ_sm (azW_ok h) mZ_sm.ok
theorem azStep_ok {x : Nat → Int} {s : Az} (hx : smZ x) (h : azOk s) : azOk (azStep x s) :=
  ⟨mulZ_sm (azEE_sm h).ok (azFF_sm h).ok, mulZ_sm (add_ok (azHE_sm h) (azGF_sm h)) (add_ok (azHE_sm h) (azGF_sm h)), mulZ_sm (azW_ok h) (add_ok (azEE_sm h) (azWM_sm h)), mulZ_sm hx.ok (mulZ_sm (sub_ok (azHE_sm h) (azGF_sm h)) (sub_ok (azHE_sm h) (azGF_sm h))).ok⟩
theorem like_mul2 {f g : Nat → Int} {u v : Int} (hf : likeP (valZ f 16) u) (hg : likeP (valZ g 16) v) : likeP (valZ (mulZ f g) 16) (u * v) := (like_mul f g).trans (hf.mul hg)
theorem like_add2 {f g : Nat → Int} {u v : Int} (hf : likeP (valZ f 16) u) (hg : likeP (valZ g 16) v) : likeP (valZ (addZ f g) 16) (u + v) := by rw [val_addZ]; exact hf.add hg
theorem like_sub2 {f g : Nat → Int} {u v : Int} (hf : likeP (valZ f 16) u) (hg : likeP (valZ g 16) v) : likeP (valZ (subZ f g) 16) (u - v) := by rw [val_subZ]; exact hf.sub hg
theorem azStep_like {x : Nat → Int} {y : Int} {s : Az} {t : Lad} (hx : likeP (valZ x 16) y) (h : likeL (azVal s) t) : likeL (azVal (azStep x s)) (ladStep y t) := by
  have hac := like_add2 h.1 h.2.2.1
  have sac := like_sub2 h.1 h.2.2.1
  have hbd := like_add2 h.2.1 h.2.2.2
  have sbd := like_sub2 h.2.1 h.2.2.2
  have ee := like_mul2 hac hac
  have ff := like_mul2 sac sac
  have he := like_mul2 sbd hac
  have gf := like_mul2 hbd sac
  have ww := like_sub2 ee ff
  have mm : likeP (valZ mZ 16) 121665 := by rw [mZ_val]; exact likeP.refl _
  exact ⟨like_mul2 ee ff, like_mul2 (like_add2 he gf) (like_add2 he gf), like_mul2 ww (like_add2 ee (like_mul2 ww mm)), like_mul2 hx (like_mul2 (like_sub2 he gf) (like_sub2 he gf))⟩
def azN (bit : Nat → Bool) (x : Nat → Int) : Nat → Az
  | 0 => ⟨oneAt 1, x, fun _ => 0, oneAt 1⟩
  | n + 1 => azStep x (azIf (bit (254 - n) != lastB bit n) (azN bit x n))
theorem azN_ok {x : Nat → Int} (hx : smZ x) (bit : Nat → Bool) : ∀ n, azOk (azN bit x n)
  | 0 => ⟨oneAt_sm (by decide) (by decide), hx, fun _ => ⟨by show (-65600 : Int) ≤ 0; omega, by show (0 : Int) ≤ 65600; omega⟩, oneAt_sm (by decide) (by decide)⟩
  | n + 1 => azStep_ok hx (azIf_ok (azN_ok hx bit n))
theorem azN_like (x : Nat → Int) (bit : Nat → Bool) : ∀ n, likeL (azVal (azN bit x n)) (ladN bit (valZ x 16) n)
  | 0 => by
    refine ⟨?_, likeP.refl _, ?_, ?_⟩
    · show likeP (valZ (oneAt 1) 16) 1
      rw [oneAt_val]; exact likeP.refl _
    · show likeP (valZ (fun _ => 0) 16) 0
      rw [valZ_zero]; exact likeP.refl _
    · show likeP (valZ (oneAt 1) 16) 1
      rw [oneAt_val]; exact likeP.refl _
  | n + 1 => by
    refine azStep_like (likeP.refl _) ?_
    rw [azIf_val]
    exact (azN_like x bit n).ladIf _
/-- What the specification's ladder comes to. -/
theorem az_point {x : Nat → Int} (bit : Nat → Bool) : (valZ (mulZ (azIf (bit 0) (azN bit x 255)).a (invZ (azIf (bit 0) (azN bit x 255)).c 254)) 16) % fldP = ladZ bit (valZ x 16) := by
  have h : likeL (azVal (azIf (bit 0) (azN bit x 255))) (ladE bit (valZ x 16)) := by
    rw [azIf_val]
    exact (azN_like x bit 255).ladIf _
  have hi := like_inv (azIf (bit 0) (azN bit x 255)).c 254
  rw [← invE_val] at hi
  have hm := (like_mul (azIf (bit 0) (azN bit x 255)).a (invZ (azIf (bit 0) (azN bit x 255)).c 254)).trans (hi.mulL _)
  rw [hm.mod]
  exact ladZ_of h

/-! ### clamped -/
def clampL (ks : List Int) : List Int := (ks.set 0 (ks.getD 0 0 / 8 * 8)).set 31 (ks.getD 31 0 % 64 + 64)
theorem clampL_length (ks : List Int) : (clampL ks).length = ks.length := by simp [clampL]
theorem clampL_byte {ks : List Int} (hb : ∀ x ∈ ks, 0 ≤ x ∧ x < 256) : ∀ x ∈ clampL ks, 0 ≤ x ∧ x < 256 := by
  intro x hx
  have h0 := byteZ hb 0
  have h1 := byteZ hb 31
  rcases List.mem_or_eq_of_mem_set hx with h | h
  · rcases List.mem_or_eq_of_mem_set h with h | h
    · exact hb x h
    · omega
  · omega
/-- Bit i of bytes. -/
def bitB (ks : List Int) (i : Nat) : Bool := decide ((ks.getD (i / 8) 0).toNat / 2 ^ (i % 8) % 2 = 1)

end Go.Proofs.Ytgdomnejhjdnmaa

namespace Go.Proofs.Ytgdomnejhjdnmaa
set_option maxRecDepth 100000

/-- a is 0 by p. -/
def zP (a : Int) : Prop := fldP ∣ a
theorem zP_zero : zP 0 := Int.dvd_zero _
theorem zP.add {a b : Int} (h : zP a) (k : zP b) : zP (a + b) := Int.dvd_add h k
theorem zP.sub {a b : Int} (h : zP a) (k : zP b) : zP (a - b) := Int.dvd_sub h k
theorem zP.mulL {a : Int} (c : Int) (h : zP a) : zP (c * a) := Int.dvd_mul_of_dvd_right h
theorem zP.mulR {a : Int} (c : Int) (h : zP a) : zP (a * c) := Int.dvd_mul_of_dvd_left h
theorem zP_1 {t a c : Int} (e : t = c * a) (h : zP a) : zP t := e ▸ h.mulL c
theorem zP_2 {t a b c d : Int} (e : t = c * a + d * b) (h : zP a) (k : zP b) : zP t := e ▸ (h.mulL c).add (k.mulL d)
theorem zP_3 {t a b c d f g : Int} (e : t = c * a + d * b + f * g) (h : zP a) (k : zP b) (l : zP g) : zP t := e ▸ ((h.mulL c).add (k.mulL d)).add (l.mulL f)
theorem zP_4 {t a b c d f g i j : Int} (e : t = c * a + d * b + f * g + i * j) (h : zP a) (k : zP b) (l : zP g) (m : zP j) : zP t := e ▸ (((h.mulL c).add (k.mulL d)).add (l.mulL f)).add (m.mulL i)
theorem zP_mod {a : Int} : zP a ↔ a % fldP = 0 := ⟨Int.emod_eq_zero_of_dvd, Int.dvd_of_emod_eq_zero⟩
theorem zP_like {a b : Int} : zP (a - b) ↔ likeP a b := by
  constructor
  · rintro ⟨k, h⟩
    exact ⟨k, by rw [Int.mul_comm k fldP]; omega⟩
  · rintro ⟨k, h⟩
    exact ⟨k, by rw [h, Int.mul_comm fldP k]; omega⟩
theorem zP_or {a b : Int} (h : zP (a * b)) : zP a ∨ zP b := by
  have hP : fldP.natAbs = 57896044618658097711785492504343953926634992332820282019728792003956564819949 := rfl
  have h' := Int.natAbs_dvd_natAbs.2 h
  rw [Int.natAbs_mul, hP] at h'
  rcases prime_mul prime_n77.1 h' with k | k
  · exact .inl (Int.natAbs_dvd_natAbs.1 (by rw [hP]; exact k))
  · exact .inr (Int.natAbs_dvd_natAbs.1 (by rw [hP]; exact k))
theorem nz_mul {a b : Int} (h : ¬ zP a) (k : ¬ zP b) : ¬ zP (a * b) := fun x => (zP_or x).elim h k
theorem zP_of_mul {a b : Int} (h : zP (a * b)) (k : ¬ zP a) : zP b := (zP_or h).resolve_left k
theorem nz_small {a : Int} (h : a % fldP ≠ 0) : ¬ zP a := fun x => h (zP_mod.1 x)
theorem nz_one : ¬ zP 1 := nz_small (by decide)
theorem nz_two : ¬ zP 2 := nz_small (by decide)
theorem nz_cong {a b : Int} (h : zP (a - b)) (k : ¬ zP b) : ¬ zP a := fun x => k (by have := x.sub h; rwa [Int.sub_sub_self] at this)
/-- What makes 1 with z. -/
def invI (z : Int) : Int := z ^ (fldP - 2).toNat
theorem inv_is {z : Int} (h : ¬ zP z) : zP (z * invI z - 1) := by
  have hz : z % fldP ≠ 0 := fun x => h (zP_mod.2 x)
  have hf := fermatP z hz
  rw [Int.pow_succ, Int.mul_comm] at hf
  exact zP_like.2 (likeP_of_mod (by show z * z ^ (fldP - 2).toNat % fldP = 1 % fldP; rw [hf]; decide))
theorem zP_left (a : Int) : zP (a % fldP - a) := zP_like.2 (likeP_mod a)
/-- A quotient. -/
theorem quot_is {n z : Int} (h : ¬ zP z) : zP ((n * invI z) % fldP * z - n) := by
  have h1 := zP_left (n * invI z)
  have h2 := inv_is h
  generalize (n * invI z) % fldP = q at h1 ⊢
  generalize invI z = i at h1 h2
  exact zP_2 (c := z) (d := n) (by grind) h1 h2
theorem same_of {u v : Int} (h : zP (u - v)) : u % fldP = v % fldP := (zP_like.1 h).mod

/-! ### d, which is no square -/
def dE : Int := 20800338683988658368647408995589388737092878452977063003340006470870624536394
theorem dE_is : zP (dE * 121666 - 121665) := zP_mod.2 (by decide)
theorem nz_d : ¬ zP dE := nz_small (by decide)
theorem dE_halfN (e : Nat) (he : e = 28948022309329048855892746252171976963317496166410141009864396001978282409974) : (20800338683988658368647408995589388737092878452977063003340006470870624536394 : Nat) ^ e % 57896044618658097711785492504343953926634992332820282019728792003956564819949 = 57896044618658097711785492504343953926634992332820282019728792003956564819948 := by
  rw [powM_one (f := 255) (by rw [he]; decide), he]
  decide +kernel
theorem dE_half : dE ^ ((fldP - 1) / 2).toNat % fldP = fldP - 1 := by
  have h := dE_halfN ((fldP - 1) / 2).toNat (by decide)
  generalize ((fldP - 1) / 2).toNat = e at h ⊢
  have hd : dE = ((20800338683988658368647408995589388737092878452977063003340006470870624536394 : Nat) : Int) := rfl
  have hP : fldP = ((57896044618658097711785492504343953926634992332820282019728792003956564819949 : Nat) : Int) := rfl
  rw [hd, ← Int.natCast_pow, hP, ← Int.natCast_emod, h]
  decide
theorem pow_half {z : Int} (h : ¬ zP z) : zP ((z * z) ^ ((fldP - 1) / 2).toNat - 1) := by
  have hz : z % fldP ≠ 0 := fun x => h (zP_mod.2 x)
  have hf := fermatP z hz
  have he : (fldP - 2).toNat + 1 = 2 * ((fldP - 1) / 2).toNat := by decide
  have e2 : (z * z) ^ ((fldP - 1) / 2).toNat = z ^ ((fldP - 2).toNat + 1) := by
    rw [he, Int.pow_mul]
    congr 1
    rw [Int.pow_succ, Int.pow_succ, Int.pow_zero, Int.one_mul]
  rw [e2]
  exact zP_like.2 (likeP_of_mod (by rw [hf]; decide))
theorem no_square {s t : Int} (h : zP (s * s - dE * (t * t))) : zP t := by
  refine Classical.byContradiction fun ht => ?_
  have hs : ¬ zP s := fun x => by
    have h1 : zP (dE * (t * t)) := zP_2 (a := s) (b := s * s - dE * (t * t)) (c := s) (d := -1) (by grind) x h
    exact nz_mul nz_d (nz_mul ht ht) h1
  have h1 := pow_half hs
  have h2 := pow_half ht
  have h3 := zP_like.2 (like_pow (zP_like.1 h) ((fldP - 1) / 2).toNat)
  rw [show (dE * (t * t)) ^ ((fldP - 1) / 2).toNat = dE ^ ((fldP - 1) / 2).toNat * (t * t) ^ ((fldP - 1) / 2).toNat from Int.mul_pow] at h3
  have h4 : zP (dE ^ ((fldP - 1) / 2).toNat - -1) := zP_like.2 (likeP_of_mod (by rw [dE_half]; decide))
  generalize (s * s) ^ ((fldP - 1) / 2).toNat = S at h1 h3
  generalize (t * t) ^ ((fldP - 1) / 2).toNat = T at h2 h3
  generalize dE ^ ((fldP - 1) / 2).toNat = D at h3 h4
  refine nz_two ?_
  exact zP_4 (c := -1) (d := 1) (f := D) (i := 1) (by grind) h1 h3 h2 h4

end Go.Proofs.Ytgdomnejhjdnmaa

namespace Go.Proofs.Ytgdomnejhjdnmaa
set_option maxRecDepth 100000

set_option maxHeartbeats 4000000 in
theorem assocX_id (d x1 y1 x2 y2 x3 y3 : Int) :
    ((x1*y2 + y1*x2)*(1 - d*x1*x2*y1*y2)*y3 + (y1*y2 - x1*x2)*(1 + d*x1*x2*y1*y2)*x3)*((1 + d*x2*x3*y2*y3)*(1 - d*x2*x3*y2*y3) + d*x1*y1*(x2*y3 + y2*x3)*(y2*y3 - x2*x3)) - (x1*(y2*y3 - x2*x3)*(1 + d*x2*x3*y2*y3) + y1*(x2*y3 + y2*x3)*(1 - d*x2*x3*y2*y3))*((1 + d*x1*x2*y1*y2)*(1 - d*x1*x2*y1*y2) + d*(x1*y2 + y1*x2)*(y1*y2 - x1*x2)*x3*y3) =
    (-d*x1*x2^2*y2*x3^2*y3-d*y1*x2*y2^2*x3^2*y3-d*y1*x2^2*y2*x3*y3^2+d*x1*x2*y2^2*x3*y3^2-x1*x2^3*x3^3+y1*x2^2*y2*x3^3-x1*x2*y2^2*x3^3+y1*y2^3*x3^3+y1*x2^3*x3^2*y3+x1*x2^2*y2*x3^2*y3+y1*x2*y2^2*x3^2*y3+x1*y2^3*x3^2*y3-x1*x2^3*x3*y3^2+y1*x2^2*y2*x3*y3^2-x1*x2*y2^2*x3*y3^2+y1*y2^3*x3*y3^2+y1*x2^3*y3^3+x1*x2^2*y2*y3^3+y1*x2*y2^2*y3^3+x1*y2^3*y3^3+x1*x2^3*x3-y1*x2^2*y2*x3+x1*x2*y2^2*x3-y1*y2^3*x3+x1*x2*x3^3-y1*y2*x3^3-y1*x2^3*y3-x1*x2^2*y2*y3-y1*x2*y2^2*y3-x1*y2^3*y3-y1*x2*x3^2*y3-x1*y2*x3^2*y3+x1*x2*x3*y3^2-y1*y2*x3*y3^2-y1*x2*y3^3-x1*y2*y3^3-x1*x2*x3+y1*y2*x3+y1*x2*y3+x1*y2*y3)*(x1*x1 + y1*y1 - 1 - d*x1*x1*y1*y1) + (d^2*x1^3*y1^2*x2^2*y2*x3^2*y3+d^2*x1^2*y1^3*x2*y2^2*x3^2*y3+d^2*x1^2*y1^3*x2^2*y2*x3*y3^2-d^2*x1^3*y1^2*x2*y2^2*x3*y3^2-d*x1^3*y1^2*x2*x3^3+d*x1^2*y1^3*y2*x3^3-d*x1^2*y1*x2^2*y2*x3^3+d*x1*y1^2*x2*y2^2*x3^3+d*x1^2*y1^3*x2*x3^2*y3+d*x1^3*y1^2*y2*x3^2*y3-d*x1*y1^2*x2^2*y2*x3^2*y3-d*x1^2*y1*x2*y2^2*x3^2*y3-d*x1^3*y1^2*x2*x3*y3^2+d*x1^2*y1^3*y2*x3*y3^2-d*x1^2*y1*x2^2*y2*x3*y3^2+d*x1*y1^2*x2*y2^2*x3*y3^2+d*x1^2*y1^3*x2*y3^3+d*x1^3*y1^2*y2*y3^3-d*x1*y1^2*x2^2*y2*y3^3-d*x1^2*y1*x2*y2^2*y3^3+d*x1^3*y1^2*x2*x3-d*x1^2*y1^3*y2*x3+d*x1^2*y1*x2^2*y2*x3-d*x1*y1^2*x2*y2^2*x3-d*x1^2*y1^3*x2*y3-d*x1^3*y1^2*y2*y3+d*x1*y1^2*x2^2*y2*y3+d*x1^2*y1*x2*y2^2*y3+x1^3*x2*x3^3+x1*y1^2*x2*x3^3-x1^2*y1*y2*x3^3-y1^3*y2*x3^3-x1^2*y1*x2*x3^2*y3-y1^3*x2*x3^2*y3-x1^3*y2*x3^2*y3-x1*y1^2*y2*x3^2*y3+x1^3*x2*x3*y3^2+x1*y1^2*x2*x3*y3^2-x1^2*y1*y2*x3*y3^2-y1^3*y2*x3*y3^2-x1^2*y1*x2*y3^3-y1^3*x2*y3^3-x1^3*y2*y3^3-x1*y1^2*y2*y3^3-x1^3*x2*x3-x1*y1^2*x2*x3+x1^2*y1*y2*x3+y1^3*y2*x3-x1*x2*x3^3+y1*y2*x3^3+x1^2*y1*x2*y3+y1^3*x2*y3+x1^3*y2*y3+x1*y1^2*y2*y3+y1*x2*x3^2*y3+x1*y2*x3^2*y3-x1*x2*x3*y3^2+y1*y2*x3*y3^2+y1*x2*y3^3+x1*y2*y3^3+x1*x2*x3-y1*y2*x3-y1*x2*y3-x1*y2*y3)*(x2*x2 + y2*y2 - 1 - d*x2*x2*y2*y2) + (-d^2*x1^2*y1*x2^4*y2^3*x3+d^2*x1*y1^2*x2^3*y2^4*x3-d^2*x1*y1^2*x2^4*y2^3*y3-d^2*x1^2*y1*x2^3*y2^4*y3+d*x1^2*y1*x2^4*y2*x3+d*x1^3*x2^3*y2^2*x3-d*y1^3*x2^2*y2^3*x3-d*x1*y1^2*x2*y2^4*x3+d*x1*y1^2*x2^4*y2*y3-d*y1^3*x2^3*y2^2*y3-d*x1^3*x2^2*y2^3*y3+d*x1^2*y1*x2*y2^4*y3-d*x1*x2^3*y2^2*x3+d*y1*x2^2*y2^3*x3+d*y1*x2^3*y2^2*y3+d*x1*x2^2*y2^3*y3)*(x3*x3 + y3*y3 - 1 - d*x3*x3*y3*y3) := by grind
set_option maxHeartbeats 4000000 in
theorem assocY_id (d x1 y1 x2 y2 x3 y3 : Int) :
    ((y1*y2 - x1*x2)*(1 + d*x1*x2*y1*y2)*y3 - (x1*y2 + y1*x2)*(1 - d*x1*x2*y1*y2)*x3)*((1 + d*x2*x3*y2*y3)*(1 - d*x2*x3*y2*y3) - d*x1*y1*(x2*y3 + y2*x3)*(y2*y3 - x2*x3)) - (y1*(y2*y3 - x2*x3)*(1 + d*x2*x3*y2*y3) - x1*(x2*y3 + y2*x3)*(1 - d*x2*x3*y2*y3))*((1 + d*x1*x2*y1*y2)*(1 - d*x1*x2*y1*y2) - d*(x1*y2 + y1*x2)*(y1*y2 - x1*x2)*x3*y3) =
    (-d*y1*x2^2*y2*x3^2*y3+d*x1*x2*y2^2*x3^2*y3+d*x1*x2^2*y2*x3*y3^2+d*y1*x2*y2^2*x3*y3^2-y1*x2^3*x3^3-x1*x2^2*y2*x3^3-y1*x2*y2^2*x3^3-x1*y2^3*x3^3-x1*x2^3*x3^2*y3+y1*x2^2*y2*x3^2*y3-x1*x2*y2^2*x3^2*y3+y1*y2^3*x3^2*y3-y1*x2^3*x3*y3^2-x1*x2^2*y2*x3*y3^2-y1*x2*y2^2*x3*y3^2-x1*y2^3*x3*y3^2-x1*x2^3*y3^3+y1*x2^2*y2*y3^3-x1*x2*y2^2*y3^3+y1*y2^3*y3^3+y1*x2^3*x3+x1*x2^2*y2*x3+y1*x2*y2^2*x3+x1*y2^3*x3+y1*x2*x3^3+x1*y2*x3^3+x1*x2^3*y3-y1*x2^2*y2*y3+x1*x2*y2^2*y3-y1*y2^3*y3+x1*x2*x3^2*y3-y1*y2*x3^2*y3+y1*x2*x3*y3^2+x1*y2*x3*y3^2+x1*x2*y3^3-y1*y2*y3^3-y1*x2*x3-x1*y2*x3-x1*x2*y3+y1*y2*y3)*(x1*x1 + y1*y1 - 1 - d*x1*x1*y1*y1) + (d^2*x1^2*y1^3*x2^2*y2*x3^2*y3-d^2*x1^3*y1^2*x2*y2^2*x3^2*y3-d^2*x1^3*y1^2*x2^2*y2*x3*y3^2-d^2*x1^2*y1^3*x2*y2^2*x3*y3^2-d*x1^2*y1^3*x2*x3^3-d*x1^3*y1^2*y2*x3^3+d*x1*y1^2*x2^2*y2*x3^3+d*x1^2*y1*x2*y2^2*x3^3-d*x1^3*y1^2*x2*x3^2*y3+d*x1^2*y1^3*y2*x3^2*y3-d*x1^2*y1*x2^2*y2*x3^2*y3+d*x1*y1^2*x2*y2^2*x3^2*y3-d*x1^2*y1^3*x2*x3*y3^2-d*x1^3*y1^2*y2*x3*y3^2+d*x1*y1^2*x2^2*y2*x3*y3^2+d*x1^2*y1*x2*y2^2*x3*y3^2-d*x1^3*y1^2*x2*y3^3+d*x1^2*y1^3*y2*y3^3-d*x1^2*y1*x2^2*y2*y3^3+d*x1*y1^2*x2*y2^2*y3^3+d*x1^2*y1^3*x2*x3+d*x1^3*y1^2*y2*x3-d*x1*y1^2*x2^2*y2*x3-d*x1^2*y1*x2*y2^2*x3+d*x1^3*y1^2*x2*y3-d*x1^2*y1^3*y2*y3+d*x1^2*y1*x2^2*y2*y3-d*x1*y1^2*x2*y2^2*y3+x1^2*y1*x2*x3^3+y1^3*x2*x3^3+x1^3*y2*x3^3+x1*y1^2*y2*x3^3+x1^3*x2*x3^2*y3+x1*y1^2*x2*x3^2*y3-x1^2*y1*y2*x3^2*y3-y1^3*y2*x3^2*y3+x1^2*y1*x2*x3*y3^2+y1^3*x2*x3*y3^2+x1^3*y2*x3*y3^2+x1*y1^2*y2*x3*y3^2+x1^3*x2*y3^3+x1*y1^2*x2*y3^3-x1^2*y1*y2*y3^3-y1^3*y2*y3^3-x1^2*y1*x2*x3-y1^3*x2*x3-x1^3*y2*x3-x1*y1^2*y2*x3-y1*x2*x3^3-x1*y2*x3^3-x1^3*x2*y3-x1*y1^2*x2*y3+x1^2*y1*y2*y3+y1^3*y2*y3-x1*x2*x3^2*y3+y1*y2*x3^2*y3-y1*x2*x3*y3^2-x1*y2*x3*y3^2-x1*x2*y3^3+y1*y2*y3^3+y1*x2*x3+x1*y2*x3+x1*x2*y3-y1*y2*y3)*(x2*x2 + y2*y2 - 1 - d*x2*x2*y2*y2) + (d^2*x1*y1^2*x2^4*y2^3*x3+d^2*x1^2*y1*x2^3*y2^4*x3-d^2*x1^2*y1*x2^4*y2^3*y3+d^2*x1*y1^2*x2^3*y2^4*y3-d*x1*y1^2*x2^4*y2*x3+d*y1^3*x2^3*y2^2*x3+d*x1^3*x2^2*y2^3*x3-d*x1^2*y1*x2*y2^4*x3+d*x1^2*y1*x2^4*y2*y3+d*x1^3*x2^3*y2^2*y3-d*y1^3*x2^2*y2^3*y3-d*x1*y1^2*x2*y2^4*y3-d*y1*x2^3*y2^2*x3-d*x1*x2^2*y2^3*x3-d*x1*x2^3*y2^2*y3+d*y1*x2^2*y2^3*y3)*(x3*x3 + y3*y3 - 1 - d*x3*x3*y3*y3) := by grind
set_option maxHeartbeats 4000000 in
theorem stays_id (d x1 y1 x2 y2 : Int) :
    (x1*y2 + y1*x2)^2*(1 - d*x1*x2*y1*y2)^2 + (y1*y2 - x1*x2)^2*(1 + d*x1*x2*y1*y2)^2 - (1 + d*x1*x2*y1*y2)^2*(1 - d*x1*x2*y1*y2)^2 - d*(x1*y2 + y1*x2)^2*(y1*y2 - x1*x2)^2 =
    (d*x1^2*y1^2*x2^4+d*x1^2*y1^2*y2^4-2*d*x1^2*y1^2*x2^2-2*d*x1^2*y1^2*y2^2+2*x1^2*y1^2*x2^2+2*x1^2*y1^2*y2^2+d*x1^2*y1^2-2*x1^2*y1^2-x1^2*x2^2-y1^2*x2^2-x1^2*y2^2-y1^2*y2^2+x1^2+y1^2+1)*(x1*x1 + y1*y1 - 1 - d*x1*x1*y1*y1) + (d^3*x1^4*y1^4*x2^2*y2^2+d^2*x1^4*y1^4*x2^2+d^2*x1^4*y1^4*y2^2-d^2*x1^4*y1^4+2*d*x1^4*y1^4-d*x1^4*y1^2*x2^2-d*x1^2*y1^4*x2^2-d*x1^4*y1^2*y2^2-d*x1^2*y1^4*y2^2-2*x1^4*y1^2-2*x1^2*y1^4-2*d*x1^2*y1^2+x1^4+4*x1^2*y1^2+y1^4)*(x2*x2 + y2*y2 - 1 - d*x2*x2*y2*y2) := by grind
set_option maxHeartbeats 4000000 in
theorem ladders_id (d x1 y1 x2 y2 : Int) :
    ((1 - d*x1*x2*y1*y2) + (y1*y2 - x1*x2))*((1 + d*x1*x2*y1*y2) + y1*y2 + x1*x2)*(y2 - y1)^2 - ((1 - d*x1*x2*y1*y2) - (y1*y2 - x1*x2))*((1 + d*x1*x2*y1*y2) - y1*y2 - x1*x2)*(y1 + y2)^2 =
    (-4*y1*y2^3+4*y1*y2)*(x1*x1 + y1*y1 - 1 - d*x1*x1*y1*y1) + (-4*d*x1^2*y1^3*y2+4*x1^2*y1*y2)*(x2*x2 + y2*y2 - 1 - d*x2*x2*y2*y2) := by grind

end Go.Proofs.Ytgdomnejhjdnmaa

namespace Go.Proofs.Ytgdomnejhjdnmaa
set_option maxRecDepth 100000

structure Pt where
  x : Int
  y : Int
def onE (P : Pt) : Prop := zP (P.x*P.x + P.y*P.y - 1 - dE*P.x*P.x*P.y*P.y)
def epsE (P Q : Pt) : Int := dE*P.x*Q.x*P.y*Q.y

/-- 1 or -1 is not d x x' y y'. -/
theorem no_eps {d x1 y1 x2 y2 s : Int} (hd : d = dE) (h1 : zP (x1*x1 + y1*y1 - 1 - d*x1*x1*y1*y1)) (h2 : zP (x2*x2 + y2*y2 - 1 - d*x2*x2*y2*y2)) (hs : s * s = 1) (h : zP (d*x1*x2*y1*y2 - s)) : False := by
  have hns : ¬ zP s := fun x => nz_one (zP_1 (c := s) hs.symm x)
  have hne : ¬ zP (d*x1*x2*y1*y2) := nz_cong h hns
  have hx1 : ¬ zP x1 := fun x => hne (zP_1 (c := d*x2*y1*y2) (by grind) x)
  have hy1 : ¬ zP y1 := fun x => hne (zP_1 (c := d*x1*x2*y2) (by grind) x)
  have hx2 : ¬ zP x2 := fun x => hne (zP_1 (c := d*x1*y1*y2) (by grind) x)
  have k1 : zP ((x1 + s*y1)*(x1 + s*y1) - d*((x1*y1*(x2 + y2))*(x1*y1*(x2 + y2)))) :=
    zP_3 (c := 1) (d := -(d*x1*x1*y1*y1)) (f := -(d*x1*x2*y1*y2 + s) - 2*x1*y1) (by grind) h1 h2 h
  have k2 : zP ((x1 - s*y1)*(x1 - s*y1) - d*((x1*y1*(x2 - y2))*(x1*y1*(x2 - y2)))) :=
    zP_3 (c := 1) (d := -(d*x1*x1*y1*y1)) (f := -(d*x1*x2*y1*y2 + s) + 2*x1*y1) (by grind) h1 h2 h
  rw [hd] at k1 k2
  have m1 := zP_of_mul (no_square k1) (nz_mul hx1 hy1)
  have m2 := zP_of_mul (no_square k2) (nz_mul hx1 hy1)
  exact nz_mul nz_two hx2 (zP_2 (c := 1) (d := 1) (by grind) m1 m2)
theorem nz_plus {P Q : Pt} (hP : onE P) (hQ : onE Q) : ¬ zP (1 + epsE P Q) := fun h => no_eps rfl hP hQ (s := -1) (by decide) (zP_1 (c := 1) (a := 1 + epsE P Q) (by unfold epsE; grind) h)
theorem nz_minus {P Q : Pt} (hP : onE P) (hQ : onE Q) : ¬ zP (1 - epsE P Q) := fun h => no_eps rfl hP hQ (s := 1) (by decide) (zP_1 (c := -1) (a := 1 - epsE P Q) (by unfold epsE; grind) h)

/-- The sum of two points. -/
def addE (P Q : Pt) : Pt := ⟨((P.x*Q.y + P.y*Q.x) * invI (1 + epsE P Q)) % fldP, ((P.y*Q.y - P.x*Q.x) * invI (1 - epsE P Q)) % fldP⟩
theorem addE_x {P Q : Pt} (hP : onE P) (hQ : onE Q) : zP ((addE P Q).x * (1 + epsE P Q) - (P.x*Q.y + P.y*Q.x)) := quot_is (nz_plus hP hQ)
theorem addE_y {P Q : Pt} (hP : onE P) (hQ : onE Q) : zP ((addE P Q).y * (1 - epsE P Q) - (P.y*Q.y - P.x*Q.x)) := quot_is (nz_minus hP hQ)
/-- Is what is left by p. -/
def redE (P : Pt) : Prop := P.x % fldP = P.x ∧ P.y % fldP = P.y
theorem addE_red (P Q : Pt) : redE (addE P Q) := ⟨mod_left _, mod_left _⟩
theorem pt_same {P Q : Pt} (hP : redE P) (hQ : redE Q) (hx : zP (P.x - Q.x)) (hy : zP (P.y - Q.y)) : P = Q := by
  have h1 := same_of hx
  have h2 := same_of hy
  rw [hP.1, hQ.1] at h1
  rw [hP.2, hQ.2] at h2
  cases P
  cases Q
  simp only at h1 h2
  rw [h1, h2]
theorem addE_comm (P Q : Pt) : addE P Q = addE Q P := by
  have e : epsE P Q = epsE Q P := by unfold epsE; grind
  unfold addE
  rw [e, show P.x*Q.y + P.y*Q.x = Q.x*P.y + Q.y*P.x by grind, show P.y*Q.y - P.x*Q.x = Q.y*P.y - Q.x*P.x by grind]

theorem addE_on {P Q : Pt} (hP : onE P) (hQ : onE Q) : onE (addE P Q) := by
  have a := addE_x hP hQ
  have b := addE_y hP hQ
  have na := nz_plus hP hQ
  have nb := nz_minus hP hQ
  unfold onE at hP hQ ⊢
  unfold epsE at a b na nb
  generalize (addE P Q).x = s at a ⊢
  generalize (addE P Q).y = t at b ⊢
  generalize P.x = x1 at a b na nb hP
  generalize P.y = y1 at a b na nb hP
  generalize Q.x = x2 at a b na nb hQ
  generalize Q.y = y2 at a b na nb hQ
  generalize dE = d at a b na nb hP hQ ⊢
  have hid : zP ((x1*y2 + y1*x2)^2*(1 - d*x1*x2*y1*y2)^2 + (y1*y2 - x1*x2)^2*(1 + d*x1*x2*y1*y2)^2 - (1 + d*x1*x2*y1*y2)^2*(1 - d*x1*x2*y1*y2)^2 - d*(x1*y2 + y1*x2)^2*(y1*y2 - x1*x2)^2) := zP_2 (stays_id d x1 y1 x2 y2) hP hQ
  generalize x1*y2 + y1*x2 = A at a hid
  generalize y1*y2 - x1*x2 = B at b hid
  generalize 1 + d*x1*x2*y1*y2 = m at a na hid
  generalize 1 - d*x1*x2*y1*y2 = n at b nb hid
  have hnz : ¬ zP (m*m*(n*n)) := nz_mul (nz_mul na na) (nz_mul nb nb)
  refine zP_of_mul (a := m*m*(n*n)) ?_ hnz
  refine zP_3 (c := 1) (d := (n*n - d*B*B)*(s*m + A)) (f := (m*m - d*s*s*m*m)*(t*n + B)) ?_ hid a b
  grind

theorem cross {u v m1 n1 m2 n2 : Int} (h1 : zP (u*m1 - n1)) (h2 : zP (v*m2 - n2)) (h : zP (n1*m2 - n2*m1)) (k1 : ¬ zP m1) (k2 : ¬ zP m2) : zP (u - v) := by
  refine zP_of_mul (a := m1*m2) ?_ (nz_mul k1 k2)
  exact zP_3 (c := m2) (d := -m1) (f := 1) (by grind) h1 h2 h

/-- The sum's x by what its first point was made of. -/
theorem clear_x {s t u m n A B x y d : Int} (a : zP (s*m - A)) (b : zP (t*n - B)) (h : zP (u*(1 + d*s*x*t*y) - (s*y + t*x))) : zP (u*(m*n + d*A*B*x*y) - (A*n*y + B*m*x)) :=
  zP_3 (c := -(u*d*x*y*t*n) + y*n) (d := -(u*d*x*y*A) + x*m) (f := m*n) (by grind) a b h
theorem clear_y {s t u m n A B x y d : Int} (a : zP (s*m - A)) (b : zP (t*n - B)) (h : zP (u*(1 - d*s*x*t*y) - (t*y - s*x))) : zP (u*(m*n - d*A*B*x*y) - (B*m*y - A*n*x)) :=
  zP_3 (c := u*d*x*y*t*n - x*n) (d := u*d*x*y*A + y*m) (f := m*n) (by grind) a b h
theorem clear_nz {s t m n A B x y d g : Int} (a : zP (s*m - A)) (b : zP (t*n - B)) (hm : ¬ zP m) (hn : ¬ zP n) (h : ¬ zP (1 + g*d*s*x*t*y)) : ¬ zP (m*n + g*d*A*B*x*y) := by
  have k := nz_mul (nz_mul hm hn) h
  refine nz_cong ?_ k
  exact zP_2 (c := -(g*d*x*y*t*n)) (d := -(g*d*x*y*A)) (by grind) a b

theorem addE_assoc {P Q R : Pt} (hP : onE P) (hQ : onE Q) (hR : onE R) : addE (addE P Q) R = addE P (addE Q R) := by
  have hS := addE_on hP hQ
  have hT := addE_on hQ hR
  have a := addE_x hP hQ
  have b := addE_y hP hQ
  have c := addE_x hQ hR
  have e := addE_y hQ hR
  have f := addE_x hS hR
  have g := addE_y hS hR
  have i := addE_x hP hT
  have j := addE_y hP hT
  have n1 := nz_plus hP hQ
  have n2 := nz_minus hP hQ
  have n3 := nz_plus hQ hR
  have n4 := nz_minus hQ hR
  have n5 := nz_plus hS hR
  have n6 := nz_minus hS hR
  have n7 := nz_plus hP hT
  have n8 := nz_minus hP hT
  refine pt_same (addE_red _ _) (addE_red _ _) ?_ ?_
  all_goals
    unfold onE at hP hQ hR
    unfold epsE at a b c e f g i j n1 n2 n3 n4 n5 n6 n7 n8
    generalize (addE (addE P Q) R).x = ux at f ⊢
    generalize (addE (addE P Q) R).y = uy at g ⊢
    generalize (addE P (addE Q R)).x = vx at i ⊢
    generalize (addE P (addE Q R)).y = vy at j ⊢
    generalize (addE P Q).x = s1 at *
    generalize (addE P Q).y = s2 at *
    generalize (addE Q R).x = t1 at *
    generalize (addE Q R).y = t2 at *
    generalize P.x = x1 at *
    generalize P.y = y1 at *
    generalize Q.x = x2 at *
    generalize Q.y = y2 at *
    generalize R.x = x3 at *
    generalize R.y = y3 at *
    generalize dE = d at *
  · have h1 := clear_x (d := d) (x := x3) (y := y3) a b f
    have h2 := clear_x (u := vx) (d := d) (x := x1) (y := y1) c e (zP_1 (c := 1) (by grind) i)
    have m1 := clear_nz (g := 1) (d := d) (x := x3) (y := y3) a b n1 n2 (fun x => n5 (zP_1 (c := 1) (by grind) x))
    have m2 := clear_nz (g := 1) (d := d) (x := x1) (y := y1) c e n3 n4 (fun x => n7 (zP_1 (c := 1) (by grind) x))
    rw [Int.one_mul] at m1 m2
    refine cross h1 h2 ?_ m1 m2
    exact zP_1 (c := 1) (by grind) (zP_3 (assocX_id d x1 y1 x2 y2 x3 y3) hP hQ hR)
  · have h1 := clear_y (d := d) (x := x3) (y := y3) a b g
    have h2 := clear_y (u := vy) (d := d) (x := x1) (y := y1) c e (zP_1 (c := 1) (by grind) j)
    have m1 := clear_nz (g := -1) (d := d) (x := x3) (y := y3) a b n1 n2 (fun x => n6 (zP_1 (c := 1) (by grind) x))
    have m2 := clear_nz (g := -1) (d := d) (x := x1) (y := y1) c e n3 n4 (fun x => n8 (zP_1 (c := 1) (by grind) x))
    refine cross h1 h2 ?_ (fun x => m1 (zP_1 (c := 1) (by grind) x)) (fun x => m2 (zP_1 (c := 1) (by grind) x))
    exact zP_1 (c := 1) (by grind) (zP_3 (assocY_id d x1 y1 x2 y2 x3 y3) hP hQ hR)

/-! ### the neutral point, inverses -/
def zeroE : Pt := ⟨0, 1⟩
theorem zeroE_on : onE zeroE := zP_mod.2 (by decide)
theorem zeroE_red : redE zeroE := ⟨by decide, by decide⟩
theorem zero_add {P : Pt} (hP : onE P) (hr : redE P) : addE zeroE P = P := by
  have a := addE_x zeroE_on hP
  have b := addE_y zeroE_on hP
  refine pt_same (addE_red _ _) hr ?_ ?_
  · unfold epsE zeroE at a
    simp only at a
    exact zP_1 (c := 1) (by unfold zeroE; grind) a
  · unfold epsE zeroE at b
    simp only at b
    exact zP_1 (c := 1) (by unfold zeroE; grind) b
theorem add_zero {P : Pt} (hP : onE P) (hr : redE P) : addE P zeroE = P := by rw [addE_comm]; exact zero_add hP hr
def negE (P : Pt) : Pt := ⟨-P.x, P.y⟩
theorem negE_on {P : Pt} (hP : onE P) : onE (negE P) := zP_1 (c := 1) (by unfold negE; grind) hP
theorem neg_add {P : Pt} (hP : onE P) : addE P (negE P) = zeroE := by
  have hN := negE_on hP
  have a := addE_x hP hN
  have b := addE_y hP hN
  have n1 := nz_plus hP hN
  have n2 := nz_minus hP hN
  refine pt_same (addE_red _ _) zeroE_red ?_ ?_
  · unfold epsE negE at a n1
    simp only at a n1
    unfold zeroE
    simp only
    refine zP_of_mul (a := 1 + dE*P.x*(-P.x)*P.y*P.y) (zP_1 (c := 1) (by unfold negE; grind) a) n1
  · unfold epsE negE at b n2
    simp only at b n2
    unfold onE at hP
    unfold zeroE
    simp only
    refine zP_of_mul (a := 1 - dE*P.x*(-P.x)*P.y*P.y) (zP_2 (c := 1) (d := 1) (by unfold negE; grind) b hP) n2

/-! ### so many times a point -/
def mulE (P : Pt) : Nat → Pt
  | 0 => zeroE
  | n + 1 => addE (mulE P n) P
theorem mulE_on {P : Pt} (hP : onE P) : ∀ n, onE (mulE P n)
  | 0 => zeroE_on
  | n + 1 => addE_on (mulE_on hP n) hP
theorem mulE_red (P : Pt) : ∀ n, redE (mulE P n)
  | 0 => zeroE_red
  | _ + 1 => addE_red _ _
theorem mulE_one {P : Pt} (hP : onE P) (hr : redE P) : mulE P 1 = P := zero_add hP hr
theorem mulE_add {P : Pt} (hP : onE P) (m : Nat) : ∀ n, mulE P (m + n) = addE (mulE P m) (mulE P n)
  | 0 => (add_zero (mulE_on hP m) (mulE_red P m)).symm
  | n + 1 => by
    show addE (mulE P (m + n)) P = addE (mulE P m) (addE (mulE P n) P)
    rw [mulE_add hP m n, addE_assoc (mulE_on hP m) (mulE_on hP n) hP]
theorem mulE_mul {P : Pt} (hP : onE P) (m : Nat) : ∀ n, mulE (mulE P m) n = mulE P (m * n)
  | 0 => rfl
  | n + 1 => by
    show addE (mulE (mulE P m) n) (mulE P m) = _
    rw [mulE_mul hP m n, ← mulE_add hP, Nat.mul_succ]
theorem mulE_zero (n : Nat) : mulE zeroE n = zeroE := by
  induction n with
  | zero => rfl
  | succ n ih => show addE (mulE zeroE n) zeroE = zeroE; rw [ih]; exact zero_add zeroE_on zeroE_red

end Go.Proofs.Ytgdomnejhjdnmaa

namespace Go.Proofs.Ytgdomnejhjdnmaa
set_option maxRecDepth 100000

theorem primeL_2 : IsPrime 2 := trial_prime (k := 2) (by decide +kernel)
theorem primeL_3 : IsPrime 3 := trial_prime (k := 2) (by decide +kernel)
theorem primeL_5 : IsPrime 5 := trial_prime (k := 3) (by decide +kernel)
theorem primeL_7 : IsPrime 7 := trial_prime (k := 3) (by decide +kernel)
theorem primeL_11 : IsPrime 11 := trial_prime (k := 4) (by decide +kernel)
theorem primeL_23 : IsPrime 23 := trial_prime (k := 5) (by decide +kernel)
theorem primeL_41 : IsPrime 41 := trial_prime (k := 7) (by decide +kernel)
theorem primeL_43 : IsPrime 43 := trial_prime (k := 7) (by decide +kernel)
theorem primeL_73 : IsPrime 73 := trial_prime (k := 9) (by decide +kernel)
theorem primeL_269 : IsPrime 269 := trial_prime (k := 17) (by decide +kernel)
theorem primeL_307 : IsPrime 307 := trial_prime (k := 18) (by decide +kernel)
theorem primeL_1361 : IsPrime 1361 := trial_prime (k := 37) (by decide +kernel)
theorem primeL_2551 : IsPrime 2551 := trial_prime (k := 51) (by decide +kernel)
theorem primeL_2851 : IsPrime 2851 := trial_prime (k := 54) (by decide +kernel)
theorem primeL_5879 : IsPrime 5879 := trial_prime (k := 77) (by decide +kernel)
theorem primeL_30703 : IsPrime 30703 := trial_prime (k := 176) (by decide +kernel)
theorem primeL_82163 : IsPrime 82163 := trial_prime (k := 287) (by decide +kernel)
theorem primeL_132667 : IsPrime 132667 := trial_prime (k := 365) (by decide +kernel)
theorem primeL_137849 : IsPrime 137849 := trial_prime (k := 372) (by decide +kernel)
theorem primeL_409477 : IsPrime 409477 := trial_prime (k := 640) (by decide +kernel)
theorem primeL_531581 : IsPrime 531581 := trial_prime (k := 730) (by decide +kernel)
theorem primeL_1224481 : IsPrime 1224481 :=
  (prattB_prime (g := 13) (f := 21) (l := [2, 2, 2, 2, 2, 3, 5, 2551]) (by decide +kernel) (by
    intro q hq
    simp only [List.mem_cons, List.not_mem_nil, or_false] at hq
    rcases hq with rfl | rfl | rfl | rfl | rfl | rfl | rfl | rfl
    · exact primeL_2
    · exact primeL_2
    · exact primeL_2
    · exact primeL_2
    · exact primeL_2
    · exact primeL_3
    · exact primeL_5
    · exact primeL_2551)).1
theorem primeL_14741173 : IsPrime 14741173 :=
  (prattB_prime (g := 2) (f := 24) (l := [2, 2, 3, 3, 409477]) (by decide +kernel) (by
    intro q hq
    simp only [List.mem_cons, List.not_mem_nil, or_false] at hq
    rcases hq with rfl | rfl | rfl | rfl | rfl
    · exact primeL_2
    · exact primeL_2
    · exact primeL_3
    · exact primeL_3
    · exact primeL_409477)).1
theorem primeL_58964693 : IsPrime 58964693 :=
  (prattB_prime (g := 2) (f := 26) (l := [2, 2, 14741173]) (by decide +kernel) (by
    intro q hq
    simp only [List.mem_cons, List.not_mem_nil, or_false] at hq
    rcases hq with rfl | rfl | rfl
    · exact primeL_2
    · exact primeL_2
    · exact primeL_14741173)).1
theorem primeL_292386187 : IsPrime 292386187 :=
  (prattB_prime (g := 2) (f := 29) (l := [2, 3, 3, 3, 3, 307, 5879]) (by decide +kernel) (by
    intro q hq
    simp only [List.mem_cons, List.not_mem_nil, or_false] at hq
    rcases hq with rfl | rfl | rfl | rfl | rfl | rfl | rfl
    · exact primeL_2
    · exact primeL_3
    · exact primeL_3
    · exact primeL_3
    · exact primeL_3
    · exact primeL_307
    · exact primeL_5879)).1
theorem primeL_213441916511 : IsPrime 213441916511 :=
  (prattB_prime (g := 13) (f := 38) (l := [2, 5, 73, 292386187]) (by decide +kernel) (by
    intro q hq
    simp only [List.mem_cons, List.not_mem_nil, or_false] at hq
    rcases hq with rfl | rfl | rfl | rfl
    · exact primeL_2
    · exact primeL_5
    · exact primeL_73
    · exact primeL_292386187)).1
theorem primeL_n16 : IsPrime 1257559732178653 :=
  (prattB_prime (g := 2) (f := 51) (l := [2, 2, 3, 7, 23, 531581, 1224481]) (by decide +kernel) (by
    intro q hq
    simp only [List.mem_cons, List.not_mem_nil, or_false] at hq
    rcases hq with rfl | rfl | rfl | rfl | rfl | rfl | rfl
    · exact primeL_2
    · exact primeL_2
    · exact primeL_3
    · exact primeL_7
    · exact primeL_23
    · exact primeL_531581
    · exact primeL_1224481)).1
theorem primeL_n19 : IsPrime 4434155615661930479 :=
  (prattB_prime (g := 17) (f := 62) (l := [2, 41, 43, 1257559732178653]) (by decide +kernel) (by
    intro q hq
    simp only [List.mem_cons, List.not_mem_nil, or_false] at hq
    rcases hq with rfl | rfl | rfl | rfl
    · exact primeL_2
    · exact primeL_41
    · exact primeL_43
    · exact primeL_n16)).1
theorem primeL_n22 : IsPrime 3044861653679985063343 :=
  (prattB_prime (g := 5) (f := 72) (l := [2, 3, 11, 30703, 82163, 132667, 137849]) (by decide +kernel) (by
    intro q hq
    simp only [List.mem_cons, List.not_mem_nil, or_false] at hq
    rcases hq with rfl | rfl | rfl | rfl | rfl | rfl | rfl
    · exact primeL_2
    · exact primeL_3
    · exact primeL_11
    · exact primeL_30703
    · exact primeL_82163
    · exact primeL_132667
    · exact primeL_137849)).1
theorem primeL_n27 : IsPrime 172054593956031949258510691 :=
  (prattB_prime (g := 2) (f := 88) (l := [2, 5, 1361, 2851, 4434155615661930479]) (by decide +kernel) (by
    intro q hq
    simp only [List.mem_cons, List.not_mem_nil, or_false] at hq
    rcases hq with rfl | rfl | rfl | rfl | rfl
    · exact primeL_2
    · exact primeL_5
    · exact primeL_1361
    · exact primeL_2851
    · exact primeL_n19)).1
theorem primeL_n33 : IsPrime 198211423230930754013084525763697 :=
  (prattB_prime (g := 5) (f := 108) (l := [2, 2, 2, 2, 3, 23, 58964693, 3044861653679985063343]) (by decide +kernel) (by
    intro q hq
    simp only [List.mem_cons, List.not_mem_nil, or_false] at hq
    rcases hq with rfl | rfl | rfl | rfl | rfl | rfl | rfl | rfl
    · exact primeL_2
    · exact primeL_2
    · exact primeL_2
    · exact primeL_2
    · exact primeL_3
    · exact primeL_23
    · exact primeL_58964693
    · exact primeL_n22)).1
theorem primeL_n41 : IsPrime 19757330305831588566944191468367130476339 :=
  (prattB_prime (g := 2) (f := 134) (l := [2, 269, 213441916511, 172054593956031949258510691]) (by decide +kernel) (by
    intro q hq
    simp only [List.mem_cons, List.not_mem_nil, or_false] at hq
    rcases hq with rfl | rfl | rfl | rfl
    · exact primeL_2
    · exact primeL_269
    · exact primeL_213441916511
    · exact primeL_n27)).1
theorem primeL_n42 : IsPrime 276602624281642239937218680557139826668747 :=
  (prattB_prime (g := 2) (f := 138) (l := [2, 7, 19757330305831588566944191468367130476339]) (by decide +kernel) (by
    intro q hq
    simp only [List.mem_cons, List.not_mem_nil, or_false] at hq
    rcases hq with rfl | rfl | rfl
    · exact primeL_2
    · exact primeL_7
    · exact primeL_n41)).1
theorem primeL_n76 : IsPrime 7237005577332262213973186563042994240857116359379907606001950938285454250989 :=
  (prattB_prime (g := 2) (f := 253) (l := [2, 2, 3, 11, 198211423230930754013084525763697, 276602624281642239937218680557139826668747]) (by decide +kernel) (by
    intro q hq
    simp only [List.mem_cons, List.not_mem_nil, or_false] at hq
    rcases hq with rfl | rfl | rfl | rfl | rfl | rfl
    · exact primeL_2
    · exact primeL_2
    · exact primeL_3
    · exact primeL_11
    · exact primeL_n33
    · exact primeL_n42)).1

/-- The order of the base point. -/
def ordL : Nat := 7237005577332262213973186563042994240857116359379907606001950938285454250989
theorem ordL_prime : IsPrime ordL := primeL_n76

/-! ### points by three numbers, without a quotient -/
structure Pj where
  X : Int
  Y : Int
  Z : Int
def RepJ (J : Pj) (P : Pt) : Prop := zP (P.x * J.Z - J.X) ∧ zP (P.y * J.Z - J.Y) ∧ ¬ zP J.Z
def addK (X1 Y1 Z1 X2 Y2 Z2 : Int) : Pj := ⟨Z1*Z2*(Z1*Z2*(Z1*Z2) - dE*(X1*X2)*(Y1*Y2))*(X1*Y2 + Y1*X2), Z1*Z2*(Z1*Z2*(Z1*Z2) + dE*(X1*X2)*(Y1*Y2))*(Y1*Y2 - X1*X2), (Z1*Z2*(Z1*Z2) - dE*(X1*X2)*(Y1*Y2))*(Z1*Z2*(Z1*Z2) + dE*(X1*X2)*(Y1*Y2))⟩
def modJ (J : Pj) : Pj := ⟨J.X % fldP, J.Y % fldP, J.Z % fldP⟩
def addJ (a b : Pj) : Pj := modJ (addK a.X a.Y a.Z b.X b.Y b.Z)
theorem modJ_rep {J : Pj} {P : Pt} (h : RepJ J P) : RepJ (modJ J) P := by
  obtain ⟨h1, h2, h3⟩ := h
  have hx := zP_left J.X
  have hy := zP_left J.Y
  have hz := zP_left J.Z
  unfold RepJ modJ
  simp only
  generalize J.X % fldP = x at *
  generalize J.Y % fldP = y at *
  generalize J.Z % fldP = z at *
  exact ⟨zP_3 (c := 1) (d := P.x) (f := -1) (by grind) h1 hz hx, zP_3 (c := 1) (d := P.y) (f := -1) (by grind) h2 hz hy, nz_cong hz h3⟩
theorem addK_rep {a b : Pj} {P Q : Pt} (hP : onE P) (hQ : onE Q) (ha : RepJ a P) (hb : RepJ b Q) : RepJ (addK a.X a.Y a.Z b.X b.Y b.Z) (addE P Q) := by
  have hx := addE_x hP hQ
  have hy := addE_y hP hQ
  have n1 := nz_plus hP hQ
  have n2 := nz_minus hP hQ
  obtain ⟨a1, a2, a3⟩ := ha
  obtain ⟨b1, b2, b3⟩ := hb
  unfold epsE at hx hy n1 n2
  unfold RepJ addK
  simp only
  generalize (addE P Q).x = u at *
  generalize (addE P Q).y = v at *
  generalize P.x = x1 at *
  generalize P.y = y1 at *
  generalize Q.x = x2 at *
  generalize Q.y = y2 at *
  generalize a.X = X1 at *
  generalize a.Y = Y1 at *
  generalize a.Z = Z1 at *
  generalize b.X = X2 at *
  generalize b.Y = Y2 at *
  generalize b.Z = Z2 at *
  generalize dE = d at *
  -- each product of the two points' numbers, by the points
  have cXX : zP (x1*x2*(Z1*Z2) - X1*X2) := zP_2 (c := x2*Z2) (d := X1) (by grind) a1 b1
  have cYY : zP (y1*y2*(Z1*Z2) - Y1*Y2) := zP_2 (c := y2*Z2) (d := Y1) (by grind) a2 b2
  have cXY : zP (x1*y2*(Z1*Z2) - X1*Y2) := zP_2 (c := y2*Z2) (d := X1) (by grind) a1 b2
  have cYX : zP (y1*x2*(Z1*Z2) - Y1*X2) := zP_2 (c := x2*Z2) (d := Y1) (by grind) a2 b1
  have nA := nz_mul a3 b3
  generalize Z1*Z2 = A at *
  generalize X1*X2 = C at *
  generalize Y1*Y2 = D at *
  generalize X1*Y2 = F at *
  generalize Y1*X2 = G at *
  -- the two quotients' lower numbers
  have hm : zP (A*A - d*C*D - A*A*(1 - d*x1*x2*y1*y2)) := zP_2 (c := d*y1*y2*A) (d := d*C) (by grind) cXX cYY
  have hp : zP (A*A + d*C*D - A*A*(1 + d*x1*x2*y1*y2)) := zP_2 (c := -(d*y1*y2*A)) (d := -(d*C)) (by grind) cXX cYY
  have nm := nz_cong hm (nz_mul (nz_mul nA nA) n2)
  have np := nz_cong hp (nz_mul (nz_mul nA nA) n1)
  have cS : zP ((x1*y2 + y1*x2)*A - (F + G)) := zP_2 (c := 1) (d := 1) (by grind) cXY cYX
  have cD : zP ((y1*y2 - x1*x2)*A - (D - C)) := zP_2 (c := 1) (d := -1) (by grind) cYY cXX
  generalize A*A - d*C*D = M at *
  generalize A*A + d*C*D = N at *
  generalize F + G = S at *
  generalize D - C = T at *
  generalize x1*y2 + y1*x2 = s at *
  generalize y1*y2 - x1*x2 = t at *
  generalize 1 + d*x1*x2*y1*y2 = p at *
  generalize 1 - d*x1*x2*y1*y2 = q at *
  refine ⟨?_, ?_, nz_mul nm np⟩
  · exact zP_3 (c := u*M) (d := M*A*A) (f := M*A) (by grind) hp hx cS
  · exact zP_3 (c := v*N) (d := N*A*A) (f := N*A) (by grind) hm hy cD
theorem addJ_rep {a b : Pj} {P Q : Pt} (hP : onE P) (hQ : onE Q) (ha : RepJ a P) (hb : RepJ b Q) : RepJ (addJ a b) (addE P Q) := modJ_rep (addK_rep hP hQ ha hb)
def mulJ (J : Pj) : Nat → Nat → Pj
  | 0, _ => ⟨0, 1, 1⟩
  | f + 1, n => if n % 2 = 1 then addJ (addJ (mulJ J f (n / 2)) (mulJ J f (n / 2))) J else addJ (mulJ J f (n / 2)) (mulJ J f (n / 2))
theorem zeroJ_rep : RepJ ⟨0, 1, 1⟩ zeroE := ⟨zP_mod.2 (by decide), zP_mod.2 (by decide), nz_one⟩
theorem mulJ_rep {J : Pj} {P : Pt} (hP : onE P) (h : RepJ J P) : ∀ f n, n < 2 ^ f → RepJ (mulJ J f n) (mulE P n)
  | 0, n, hn => by
    obtain rfl : n = 0 := by simpa using hn
    exact zeroJ_rep
  | f + 1, n, hn => by
    have ih := mulJ_rep hP h f (n / 2) (by rw [Nat.pow_succ] at hn; omega)
    have h2 := addJ_rep (mulE_on hP _) (mulE_on hP _) ih ih
    rw [← mulE_add hP] at h2
    unfold mulJ
    split
    · rename_i ho
      have h3 := addJ_rep (mulE_on hP _) hP h2 h
      rw [show n = (n / 2 + n / 2) + 1 by omega]
      rw [show ((n / 2 + n / 2) + 1) / 2 = n / 2 by omega]
      exact h3
    · rename_i ho
      rw [show mulE P n = mulE P (n / 2 + n / 2) by congr 1; omega]
      exact h2
theorem rep_zero {J : Pj} {P : Pt} (hr : redE P) (h : RepJ J P) (hx : zP J.X) (hy : zP (J.Y - J.Z)) : P = zeroE := by
  obtain ⟨h1, h2, h3⟩ := h
  refine pt_same hr zeroE_red ?_ ?_
  · exact zP_of_mul (a := J.Z) (zP_2 (c := 1) (d := 1) (by unfold zeroE; grind) h1 hx) h3
  · exact zP_of_mul (a := J.Z) (zP_2 (c := 1) (d := 1) (by unfold zeroE; grind) h2 hy) h3

/-! ### the base point -/
def baseE : Pt := ⟨9771384041963202563870679428059935816164187996444183106833894008023910952347, 46316835694926478169428394003475163141307993866256225615783033603165251855960⟩
theorem baseE_on : onE baseE := zP_mod.2 (by decide)
theorem baseE_red : redE baseE := ⟨by decide, by decide⟩
theorem baseE_rep : RepJ ⟨baseE.x, baseE.y, 1⟩ baseE := ⟨zP_mod.2 (by decide), zP_mod.2 (by decide), nz_one⟩
def ordB : Bool := (mulJ ⟨baseE.x, baseE.y, 1⟩ 253 ordL).X % fldP == 0 && ((mulJ ⟨baseE.x, baseE.y, 1⟩ 253 ordL).Y - (mulJ ⟨baseE.x, baseE.y, 1⟩ 253 ordL).Z) % fldP == 0
theorem ordB_yes : ordB = true := by decide +kernel
theorem base_order : mulE baseE ordL = zeroE := by
  have h := ordB_yes
  unfold ordB at h
  simp only [Bool.and_eq_true, beq_iff_eq] at h
  exact rep_zero (mulE_red _ _) (mulJ_rep baseE_on baseE_rep 253 ordL (by decide)) (zP_mod.2 h.1) (zP_mod.2 h.2)
theorem base_nonzero : baseE ≠ zeroE := fun h => by
  have := congrArg Pt.x h
  revert this
  decide

end Go.Proofs.Ytgdomnejhjdnmaa

namespace Go.Proofs.Ytgdomnejhjdnmaa
set_option maxRecDepth 100000

/-! ### the order -/
theorem mul_back {P : Pt} (hP : onE P) {m n : Nat} (hm : mulE P m = zeroE) (h : mulE P (m + n) = zeroE) : mulE P n = zeroE := by
  rw [mulE_add hP, hm, zero_add (mulE_on hP n) (mulE_red P n)] at h
  exact h
theorem mul_times {P : Pt} (hP : onE P) {m : Nat} (hm : mulE P m = zeroE) (q : Nat) : mulE P (m * q) = zeroE := by rw [← mulE_mul hP, hm, mulE_zero]
theorem order_dvd : ∀ r : Nat, 0 < r → mulE baseE r = zeroE → ordL ∣ r := by
  intro r
  induction r using Nat.strongRecOn with
  | ind r ih =>
    intro h0 hr
    rcases Nat.lt_or_ge r ordL with hlt | hge
    · exfalso
      have hs : mulE baseE (ordL % r) = zeroE := mul_back baseE_on (mul_times baseE_on hr (ordL / r)) (by rw [Nat.div_add_mod]; exact base_order)
      have hsr : ordL % r < r := Nat.mod_lt _ h0
      rcases Nat.eq_zero_or_pos (ordL % r) with hz | hz
      · rcases ordL_prime.2 r (Nat.dvd_of_mod_eq_zero hz) with h1 | h1
        · rw [h1, mulE_one baseE_on baseE_red] at hr
          exact base_nonzero hr
        · omega
      · have := Nat.le_of_dvd hz (ih _ hsr hz hs)
        omega
    · obtain ⟨t, rfl⟩ : ∃ t, r = ordL + t := ⟨r - ordL, by omega⟩
      have ht := mul_back baseE_on base_order hr
      rcases Nat.eq_zero_or_pos t with hz | hz
      · subst hz
        exact Nat.dvd_refl _
      · have hpos : 0 < ordL := by decide
        exact (Nat.dvd_add_right (Nat.dvd_refl _)).2 (ih t (by omega) hz ht)
theorem mul_zero_iff (n : Nat) : mulE baseE n = zeroE ↔ ordL ∣ n := by
  constructor
  · intro h
    rcases Nat.eq_zero_or_pos n with hz | hz
    · subst hz; exact Nat.dvd_zero _
    · exact order_dvd n hz h
  · rintro ⟨q, rfl⟩
    exact mul_times baseE_on base_order q

/-! ### y of a multiple of the base point -/
theorem nz_1d : ¬ zP (1 - dE) := nz_small (by decide)
theorem x_zero {x y d : Int} (h : zP (x*x + y*y - 1 - d*x*x*y*y)) (hy : zP (y*y - 1)) (hd : ¬ zP (1 - d)) : zP x := by
  have h1 : zP ((1 - d) * (x * x)) := zP_2 (c := 1) (d := -1 + d*x*x) (by grind) h hy
  rcases zP_or (zP_of_mul h1 hd) with k | k <;> exact k
theorem y_one {P : Pt} (hP : onE P) (hr : redE P) (h : zP (P.y - 1)) : P = zeroE := by
  have hx := x_zero hP (zP_1 (c := P.y + 1) (by grind) h) nz_1d
  exact pt_same hr zeroE_red (zP_1 (c := 1) (by unfold zeroE; grind) hx) (zP_1 (c := 1) (by unfold zeroE; grind) h)
theorem dbl_y {P : Pt} (hP : onE P) : zP ((addE P P).y * (1 - dE*P.x*P.x*P.y*P.y) - (P.y*P.y - P.x*P.x)) := addE_y hP hP
theorem dbl_x {P : Pt} (hP : onE P) : zP ((addE P P).x * (1 + dE*P.x*P.x*P.y*P.y) - (P.x*P.y + P.y*P.x)) := addE_x hP hP
theorem two_dvd {n : Nat} (h : ordL ∣ n + n) : ordL ∣ n := by
  rw [← Nat.two_mul] at h
  rcases prime_mul ordL_prime h with k | k
  · exact absurd (Nat.le_of_dvd (by decide) k) (by decide)
  · exact k
theorem y_not_minus (n : Nat) : ¬ zP ((mulE baseE n).y + 1) := fun h => by
  have hP := mulE_on baseE_on n
  have hx := x_zero hP (zP_1 (c := (mulE baseE n).y - 1) (by grind) h) nz_1d
  have hy2 := dbl_y hP
  have h2 : addE (mulE baseE n) (mulE baseE n) = zeroE := by
    refine y_one (addE_on hP hP) (addE_red _ _) ?_
    generalize (addE (mulE baseE n) (mulE baseE n)).y = v at *
    generalize (mulE baseE n).x = x at *
    generalize (mulE baseE n).y = y at *
    exact zP_3 (c := 1) (d := v*dE*x*y*y - x) (f := y - 1) (by grind) hy2 hx h
  rw [← mulE_add baseE_on] at h2
  have h3 := (mul_zero_iff n).2 (two_dvd ((mul_zero_iff _).1 h2))
  rw [h3] at h
  exact nz_two h
theorem y_not_zero (n : Nat) : ¬ zP (mulE baseE n).y := fun h => by
  have hP := mulE_on baseE_on n
  have hy2 := dbl_y hP
  refine y_not_minus (n + n) ?_
  rw [mulE_add baseE_on]
  unfold onE at hP
  generalize (addE (mulE baseE n) (mulE baseE n)).y = v at *
  generalize (mulE baseE n).x = x at *
  generalize (mulE baseE n).y = y at *
  exact zP_3 (c := 1) (d := v*dE*x*x*y + 2*y - dE*x*x*y) (f := -1) (by grind) hy2 h hP

/-! ### the ladder's step -/
/-- The two numbers a, c stand for a point whose y it is. -/
def RepU (a c y : Int) : Prop := ¬ zP (a + c) ∧ zP ((a - c) - y * (a + c))
theorem rep_of {a c y : Int} (h : zP (a * (1 - y) - c * (1 + y))) (k : ¬ (zP a ∧ zP c)) : RepU a c y := by
  have h2 : zP ((a - c) - y * (a + c)) := zP_1 (c := 1) (by grind) h
  refine ⟨fun h1 => ?_, h2⟩
  have h3 : zP (a - c) := zP_2 (c := 1) (d := y) (by grind) h2 h1
  exact k ⟨zP_of_mul (zP_2 (c := 1) (d := 1) (by grind) h1 h3) nz_two, zP_of_mul (zP_2 (c := 1) (d := -1) (by grind) h1 h3) nz_two⟩
theorem nz_A : ¬ zP 121666 := nz_small (by decide)
theorem rep_dbl {a c : Int} {P : Pt} (hP : onE P) (h : RepU a c P.y) :
    RepU (((a + c) * (a + c)) * ((a - c) * (a - c))) (((a + c) * (a + c) - (a - c) * (a - c)) * ((a + c) * (a + c) + ((a + c) * (a + c) - (a - c) * (a - c)) * 121665)) (addE P P).y := by
  obtain ⟨hE, hF⟩ := h
  have hy := dbl_y hP
  have hn := nz_minus hP hP
  have hd := dE_is
  unfold onE at hP
  unfold epsE at hn
  generalize (addE P P).y = v at *
  generalize P.x = x at *
  generalize P.y = y at *
  generalize a + c = E at *
  generalize a - c = F at *
  generalize dE = d at *
  have h1 : zP ((1 - x*x)*(121666 - 121665*(y*y)) - y*y) := zP_2 (c := -121666) (d := -(x*x*y*y)) (by grind) hP hd
  have hW : zP (F*F - y*y*(E*E)) := zP_1 (c := F + y*E) (by grind) hF
  have hEE := nz_mul hE hE
  generalize E*E = G at *
  generalize F*F = W at *
  refine rep_of ?_ ?_
  · refine zP_of_mul (a := 1 - d*x*x*y*y) ?_ hn
    refine zP_4 (c := -(G*W + (G - W)*(G + (G - W)*121665))) (d := G*W - (G - W)*(G + (G - W)*121665)) (f := 2*(G*(1 - y*y) - (1 - x*x)*(-(243331*G) + 121665*(W + y*y*G)))) (i := -(2*G*G*(1 - y*y))) ?_ hy hP hW h1
    grind
  · rintro ⟨ha, hc⟩
    have hw := zP_of_mul ha hEE
    exact nz_mul nz_A (nz_mul hEE hEE) (zP_2 (c := 1) (d := 243331*G - 121665*W) (by grind) hc hw)

theorem diff_y {P Q : Pt} (hP : onE P) (hQ : onE Q) :
    zP ((1 + (addE P Q).y)*(1 + (addE P (negE Q)).y)*((Q.y - P.y)*(Q.y - P.y)) - (1 - (addE P Q).y)*(1 - (addE P (negE Q)).y)*((P.y + Q.y)*(P.y + Q.y))) := by
  have hN := negE_on hQ
  have a := addE_y hP hQ
  have b := addE_y hP hN
  have n1 := nz_plus hP hQ
  have n2 := nz_minus hP hQ
  unfold epsE at a b n1 n2
  unfold onE at hP hQ
  generalize (addE P Q).y = s at *
  generalize (addE P (negE Q)).y = t at *
  have b' : zP (t * (1 + dE*P.x*Q.x*P.y*Q.y) - (P.y*Q.y + P.x*Q.x)) := zP_1 (c := 1) (by unfold negE; grind) b
  clear b
  generalize P.x = x1 at *
  generalize P.y = y1 at *
  generalize Q.x = x2 at *
  generalize Q.y = y2 at *
  generalize dE = d at *
  have hid := zP_2 (ladders_id d x1 y1 x2 y2) hP hQ
  refine zP_of_mul (a := (1 - d*x1*x2*y1*y2)*(1 + d*x1*x2*y1*y2)) ?_ (nz_mul n2 n1)
  generalize 1 - d*x1*x2*y1*y2 = m at *
  generalize 1 + d*x1*x2*y1*y2 = n at *
  refine zP_3 (c := 1) (d := n*(1 + t)*((y2 - y1)*(y2 - y1)) + n*(1 - t)*((y1 + y2)*(y1 + y2))) (f := (m + (y1*y2 - x1*x2))*((y2 - y1)*(y2 - y1)) + (m - (y1*y2 - x1*x2))*((y1 + y2)*(y1 + y2))) ?_ hid a b'
  grind

theorem rep_sum {a b c d x yA yB yS yD : Int} (h1 : RepU a c yA) (h2 : RepU b d yB) (hid : zP ((1 + yS)*(1 + yD)*((yB - yA)*(yB - yA)) - (1 - yS)*(1 - yD)*((yA + yB)*(yA + yB)))) (hx : zP (x*(1 - yD) - (1 + yD))) (hD : ¬ zP (1 - yD)) (hD' : ¬ zP (1 + yD)) (hyA : ¬ zP yA) :
    RepU (((b - d)*(a + c) + (b + d)*(a - c)) * ((b - d)*(a + c) + (b + d)*(a - c))) (x * (((b - d)*(a + c) - (b + d)*(a - c)) * ((b - d)*(a + c) - (b + d)*(a - c)))) yS := by
  obtain ⟨n1, r1⟩ := h1
  obtain ⟨n2, r2⟩ := h2
  have hmu := nz_mul n1 n2
  generalize a + c = A at *
  generalize a - c = C at *
  generalize b + d = B at *
  generalize b - d = D at *
  have hS : zP (D*A + B*C - A*B*(yA + yB)) := zP_2 (c := B) (d := A) (by grind) r1 r2
  have hT : zP (D*A - B*C - A*B*(yB - yA)) := zP_2 (c := -B) (d := A) (by grind) r1 r2
  generalize D*A + B*C = S at *
  generalize D*A - B*C = T at *
  generalize A*B = M at *
  refine rep_of ?_ ?_
  · refine zP_of_mul (a := 1 - yD) ?_ hD
    refine zP_4 (c := -(T*T*(1 + yS))) (d := (1 - yS)*(1 - yD)*(S + M*(yA + yB))) (f := -((1 + yD)*(1 + yS)*(T + M*(yB - yA)))) (i := -(M*M)) ?_ hx hS hT hid
    grind
  · rintro ⟨hb, hd⟩
    have hs : zP S := by rcases zP_or hb with k | k <;> exact k
    have hnx : ¬ zP x := fun k => hD' (zP_2 (c := 1 - yD) (d := -1) (by grind) k hx)
    have ht : zP T := by rcases zP_or (zP_of_mul hd hnx) with k | k <;> exact k
    have k1 : zP (yA + yB) := zP_of_mul (a := M) (zP_2 (c := 1) (d := -1) (by grind) hs hS) hmu
    have k2 : zP (yB - yA) := zP_of_mul (a := M) (zP_2 (c := 1) (d := -1) (by grind) ht hT) hmu
    exact hyA (zP_of_mul (zP_2 (c := 1) (d := -1) (by grind) k1 k2) nz_two)

/-! ### the ladder -/
def LadOk (B : Pt) (s : Lad) (n : Nat) : Prop := RepU s.a s.c (mulE B n).y ∧ RepU s.b s.d (mulE B (n + 1)).y
theorem step_diff {k n : Nat} : addE (mulE (mulE baseE k) (n + 1)) (negE (mulE (mulE baseE k) n)) = mulE baseE k := by
  have hB := mulE_on baseE_on k
  have hn := mulE_on hB n
  rw [show mulE (mulE baseE k) (n + 1) = addE (mulE baseE k) (mulE (mulE baseE k) n) by rw [addE_comm]; rfl, addE_assoc hB hn (negE_on hn), neg_add hn, add_zero hB (mulE_red _ _)]
theorem uno {k : Nat} (hk : ¬ ordL ∣ k) : ¬ zP (1 - (mulE baseE k).y) := fun h => hk ((mul_zero_iff k).1 (y_one (mulE_on baseE_on k) (mulE_red _ _) (zP_1 (c := -1) (by grind) h)))
theorem duo (k : Nat) : ¬ zP (1 + (mulE baseE k).y) := fun h => y_not_minus k (zP_1 (c := 1) (by grind) h)
theorem step_ok {k n : Nat} {x : Int} {s : Lad} (hk : ¬ ordL ∣ k) (hx : zP (x * (1 - (mulE baseE k).y) - (1 + (mulE baseE k).y))) (h : LadOk (mulE baseE k) s n) :
    LadOk (mulE baseE k) (ladStep x s) (n + n) ∧ LadOk (mulE baseE k) (ladSw (ladStep x (ladSw s))) (n + n + 1) := by
  obtain ⟨h1, h2⟩ := h
  have hB := mulE_on baseE_on k
  have hid := diff_y (mulE_on hB (n + 1)) (mulE_on hB n)
  rw [step_diff, ← mulE_add hB, show n + 1 + n = n + n + 1 by omega] at hid
  have hyn : ¬ zP (mulE (mulE baseE k) n).y := by rw [mulE_mul baseE_on]; exact y_not_zero _
  have hyn' : ¬ zP (mulE (mulE baseE k) (n + 1)).y := by rw [mulE_mul baseE_on]; exact y_not_zero _
  have d1 := rep_dbl (mulE_on hB n) h1
  have d2 := rep_dbl (mulE_on hB (n + 1)) h2
  rw [← mulE_add hB] at d1 d2
  rw [show n + 1 + (n + 1) = n + n + 1 + 1 by omega] at d2
  refine ⟨⟨d1, ?_⟩, ⟨?_, d2⟩⟩
  · exact rep_sum h1 h2 (zP_1 (c := 1) (by grind) hid) hx (uno hk) (duo k) hyn
  · exact rep_sum h2 h1 (zP_1 (c := 1) (by grind) hid) hx (uno hk) (duo k) hyn'
/-- The number of the first n bits. -/
def preB (bit : Nat → Bool) : Nat → Nat
  | 0 => 0
  | n + 1 => preB bit n + preB bit n + (bit (254 - n)).toNat
theorem ladIf_two (t u : Bool) (s : Lad) : ladIf (t != u) s = ladIf t (ladIf u s) := by cases t <;> cases u <;> rfl
theorem lad_ok {k : Nat} {x : Int} (bit : Nat → Bool) (hk : ¬ ordL ∣ k) (hx : zP (x * (1 - (mulE baseE k).y) - (1 + (mulE baseE k).y))) : ∀ n, n ≤ 255 → LadOk (mulE baseE k) (ladIf (lastB bit n) (ladN bit x n)) (preB bit n)
  | 0, _ => by
    refine ⟨⟨nz_one, (by show zP ((1 - 0) - 1 * (1 + 0)); exact zP_zero)⟩, ⟨fun h => ?_, ?_⟩⟩
    · refine nz_two (zP_2 (c := (1 - (mulE baseE k).y)) (d := -1) ?_ h hx)
      show (2 : Int) = (1 - (mulE baseE k).y) * (x + 1) + -1 * (x * (1 - (mulE baseE k).y) - (1 + (mulE baseE k).y))
      grind
    · show zP ((x - 1) - (mulE (mulE baseE k) 1).y * (x + 1))
      rw [mulE_one (mulE_on baseE_on k) (mulE_red _ _)]
      exact zP_1 (c := 1) (by grind) hx
  | n + 1, hn => by
    have ih := lad_ok bit hk hx n (by omega)
    have e1 : lastB bit (n + 1) = bit (254 - n) := by
      unfold lastB
      rw [if_neg (by omega), show 255 - (n + 1) = 254 - n by omega]
    have e2 : ladN bit x (n + 1) = ladStep x (ladIf (bit (254 - n)) (ladIf (lastB bit n) (ladN bit x n))) := by rw [← ladIf_two]; rfl
    rw [e1, e2]
    generalize ladIf (lastB bit n) (ladN bit x n) = s at ih ⊢
    have hst := step_ok hk hx ih
    show LadOk _ _ (preB bit n + preB bit n + (bit (254 - n)).toNat)
    cases bit (254 - n)
    · exact hst.1
    · exact hst.2
/-- What the ladder answers. -/
theorem lad_is {k : Nat} {x : Int} (bit : Nat → Bool) (hk : ¬ ordL ∣ k) (hx : zP (x * (1 - (mulE baseE k).y) - (1 + (mulE baseE k).y))) (hb : ¬ ordL ∣ k * preB bit 255) :
    zP (ladZ bit x * (1 - (mulE baseE (k * preB bit 255)).y) - (1 + (mulE baseE (k * preB bit 255)).y)) := by
  have h := (lad_ok bit hk hx 255 (Nat.le_refl _)).1
  rw [mulE_mul baseE_on] at h
  have hy := uno hb
  have e : ladIf (lastB bit 255) (ladN bit x 255) = ladE bit x := rfl
  rw [e] at h
  unfold ladZ
  generalize (mulE baseE (k * preB bit 255)).y = y at *
  generalize (ladE bit x).a = a at *
  generalize (ladE bit x).c = c at *
  obtain ⟨h1, h2⟩ := h
  have hc : ¬ zP c := fun hc => by
    have ha : zP a := zP_of_mul (a := 1 - y) (zP_2 (c := 1) (d := 1 + y) (by grind) h2 hc) hy
    exact h1 (ha.add hc)
  have hq := quot_is (n := a) hc
  unfold invI at hq
  generalize (a * c ^ (fldP - 2).toNat) % fldP = q at *
  refine zP_of_mul (a := c) ?_ hc
  exact zP_2 (c := 1 - y) (d := 1) (by grind) hq h2
theorem ladZ_mod (bit : Nat → Bool) (x : Int) : ladZ bit x % fldP = ladZ bit x := mod_left _
theorem base_u : zP (9 * (1 - (mulE baseE 1).y) - (1 + (mulE baseE 1).y)) := by
  rw [mulE_one baseE_on baseE_red]
  exact zP_mod.2 (by decide)
theorem one_ord : ¬ ordL ∣ 1 := fun h => absurd (Nat.le_of_dvd (by decide) h) (by decide)

/-- What two make of each other's points is one, and is not 0. -/
theorem agreed_is (bit bit' : Nat → Bool) (h : ¬ ordL ∣ preB bit 255) (h' : ¬ ordL ∣ preB bit' 255) : ladZ bit (ladZ bit' 9) = ladZ bit' (ladZ bit 9) ∧ ladZ bit (ladZ bit' 9) ≠ 0 := by
  have hm : ¬ ordL ∣ preB bit 255 * preB bit' 255 := fun k => (prime_mul ordL_prime k).elim h h'
  have a := lad_is bit one_ord base_u (by rw [Nat.one_mul]; exact h)
  have a' := lad_is bit' one_ord base_u (by rw [Nat.one_mul]; exact h')
  rw [Nat.one_mul] at a a'
  have b := lad_is bit' h a hm
  have b' := lad_is bit h' a' (by rw [Nat.mul_comm]; exact hm)
  rw [Nat.mul_comm (preB bit' 255)] at b'
  have hy := uno hm
  have hd := duo (preB bit 255 * preB bit' 255)
  generalize (mulE baseE (preB bit 255 * preB bit' 255)).y = y at *
  have e1 := ladZ_mod bit (ladZ bit' 9)
  have e2 := ladZ_mod bit' (ladZ bit 9)
  generalize ladZ bit (ladZ bit' 9) = u at *
  generalize ladZ bit' (ladZ bit 9) = v at *
  refine ⟨?_, fun hz => ?_⟩
  · have := same_of (zP_of_mul (a := 1 - y) (zP_2 (t := (1 - y) * (u - v)) (c := 1) (d := -1) (by grind) b' b) hy)
    rw [e1, e2] at this
    exact this
  · subst hz
    exact hd (zP_1 (c := -1) (by grind) b')

/-! ### clamped keys -/
theorem preB_lt (bit : Nat → Bool) : ∀ n, preB bit n < 2 ^ n
  | 0 => Nat.one_pos
  | n + 1 => by
    have ih := preB_lt bit n
    show preB bit n + preB bit n + (bit (254 - n)).toNat < 2 ^ (n + 1)
    have : (bit (254 - n)).toNat ≤ 1 := by cases bit (254 - n) <;> decide
    rw [Nat.pow_succ]
    omega
theorem preB_pos {bit : Nat → Bool} (h : bit 254 = true) : ∀ n, 0 < n → 0 < preB bit n
  | 1, _ => by
    show 0 < preB bit 0 + preB bit 0 + (bit (254 - 0)).toNat
    rw [h]
    exact Nat.one_pos
  | n + 2, _ => by
    have ih := preB_pos h (n + 1) (by omega)
    show 0 < preB bit (n + 1) + preB bit (n + 1) + (bit (254 - (n + 1))).toNat
    omega
theorem preB_clamped {bit : Nat → Bool} (h : bit 254 = true) (h0 : bit 0 = false) (h1 : bit 1 = false) (h2 : bit 2 = false) : ¬ ordL ∣ preB bit 255 := by
  have e3 : preB bit 253 = preB bit 252 + preB bit 252 + (bit 2).toNat := rfl
  have e4 : preB bit 254 = preB bit 253 + preB bit 253 + (bit 1).toNat := rfl
  have e5 : preB bit 255 = preB bit 254 + preB bit 254 + (bit 0).toNat := rfl
  rw [h2] at e3
  rw [h1] at e4
  rw [h0] at e5
  simp only [Bool.toNat_false, Nat.add_zero] at e3 e4 e5
  have hlt := preB_lt bit 252
  have hpos := preB_pos h 252 (by decide)
  generalize preB bit 252 = m at *
  have e : preB bit 255 = 8 * m := by omega
  rw [e]
  intro hd
  rcases prime_mul ordL_prime hd with k | k
  · exact absurd (Nat.le_of_dvd (by decide) k) (by decide)
  · have h3 := Nat.le_of_dvd hpos k
    have h4 : (2 : Nat) ^ 252 < ordL := by decide
    omega

end Go.Proofs.Ytgdomnejhjdnmaa

namespace Go.Proofs.Ytgdomnejhjdnmaa
open Go.RowKit

theorem byte_all {f g : Int → Int} (h : ((List.range 256).all fun n => f (n : Nat) == g (n : Nat)) = true) {x : Int} (h0 : 0 ≤ x) (h1 : x < 256) : f x = g x := by
  obtain ⟨n, rfl⟩ : ∃ n : Nat, x = n := ⟨x.toNat, by omega⟩
  rw [List.all_eq_true] at h
  simpa using h n (List.mem_range.2 (by omega))
theorem and248 {x : Int} (h0 : 0 ≤ x) (h1 : x < 256) : bits .and .u8 x 248 = x / 8 * 8 := byte_all (f := fun x => bits .and .u8 x 248) (g := fun x => x / 8 * 8) (by kernel_rfl) h0 h1
theorem and127 {x : Int} (h0 : 0 ≤ x) (h1 : x < 256) : bits .and .u8 x 127 = x % 128 := byte_all (f := fun x => bits .and .u8 x 127) (g := fun x => x % 128) (by kernel_rfl) h0 h1
theorem or64 {x : Int} (h0 : 0 ≤ x) (h1 : x < 256) : bits .or .u8 (x % 128) 64 = x % 64 + 64 := byte_all (f := fun x => bits .or .u8 (x % 128) 64) (g := fun x => x % 64 + 64) (by kernel_rfl) h0 h1
theorem not7 {x : Int} (h0 : 0 ≤ x) (h1 : x < 256) : bits .andNot .u8 x 7 = x / 8 * 8 := byte_all (f := fun x => bits .andNot .u8 x 7) (g := fun x => x / 8 * 8) (by kernel_rfl) h0 h1
theorem not128 {x : Int} (h0 : 0 ≤ x) (h1 : x < 256) : bits .andNot .u8 x 128 = x % 128 := byte_all (f := fun x => bits .andNot .u8 x 128) (g := fun x => x % 128) (by kernel_rfl) h0 h1
def clampR (ks : List Int) (n : Nat) : List Int := if n = 32 then clampL ks else []
theorem clampR_length {ks : List Int} {n : Nat} (h : ks.length = n) : (clampR ks n).length = oneN n := by
  unfold clampR oneN
  split
  · rw [clampL_length, h]; omega
  · rfl
theorem clampR_byte {ks : List Int} {n : Nat} (hb : ∀ x ∈ ks, 0 ≤ x ∧ x < 256) : ∀ x ∈ clampR ks n, 0 ≤ x ∧ x < 256 := by
  unfold clampR
  split
  · exact clampL_byte hb
  · intro x hx; cases hx
theorem mapU_set (xs : List Int) (k : Nat) (v : Int) : (xs.map (Value.int .u8)).set k (.int .u8 v) = (xs.set k v).map (Value.int .u8) := List.map_set.symm
theorem rowU_cell {w : World} {lo e g n c : Nat} {xs : List Int} (h : w.ownsRow lo e 1 (.slice (some ⟨g, 0, none⟩) n c) n (xs.map (Value.int .u8))) (k : Nat) (hk : k < n) : w.cell? ⟨g, k, none⟩ = some (.int .u8 (xs.getD k 0)) := by
  have hl : xs.length = n := owns_len h
  rw [h.cellAt k (by omega)]
  simp [List.getD_eq_getElem?_getD, List.getElem?_eq_getElem (show k < xs.length by omega)]

set_option maxRecDepth 100000 in
set_option maxHeartbeats 4000000 in
theorem specClamp_any (p : Option Addr) (n c : Nat) (ks : List Int) (w : World) (hl : ks.length = n) (h : BytesIn w p n ks) (hb : ∀ x ∈ ks, 0 ≤ x ∧ x < 256) :
    Calls Try.prog 34 #[.slice p n c] w fun e w' => ∃ p' c', e = .returned (.slice p' (oneN n) c') ∧ Own 5 w' w.heap.size w'.heap.size (.slice p' (oneN n) c') (oneN n) (clampR ks n) ∧ Below w.heap.size w w' := by
  obtain ⟨i0, hi, hz0, hz1, hz2⟩ := info_parts infoByte
  have hown0 : (w.alloc (.cells #[] 5)).ownsRow w.heap.size 5 1 (.slice (some ⟨w.heap.size, 0, none⟩) 0 0) 0 (([] : List Int).map (Value.int .u8)) := World.ownsRow_made w #[] 0 (Nat.le_refl _) (by unfold maxLen; omega) rfl
  have hb0 : Below w.heap.size w (w.alloc (.cells #[] 5)) := (Below.refl _ _).alloc (Nat.le_refl _) _
  have h1 := in_below h hb0
  clear h
  unfold oneN clampR
  by_cases hok : n = 32
  · rw [if_pos hok, if_pos hok]
    subst hok
    have x0 := byteZ hb 0
    have x1 := byteZ hb 31
    have a0 := and248 x0.1 x0.2
    have a1 := and127 x1.1 x1.2
    have a2 := or64 x1.1 x1.2
    have hc31 : (ks.set 0 (ks.getD 0 0 / 8 * 8)).getD 31 0 = ks.getD 31 0 := by rw [List.getD_eq_getElem?_getD, List.getElem?_set_ne (by decide), ← List.getD_eq_getElem?_getD]
    unfold clampL
    obtain ⟨u, hu⟩ : ∃ u, u = ks.getD 0 0 := ⟨_, rfl⟩
    obtain ⟨v, hv⟩ : ∃ v, v = ks.getD 31 0 := ⟨_, rfl⟩
    rw [← hu] at a0 hc31 ⊢
    rw [← hv] at a1 a2 hc31 ⊢
    obtain ⟨u', hu'⟩ : ∃ u', u' = u / 8 * 8 := ⟨_, rfl⟩
    obtain ⟨v', hv'⟩ : ∃ v', v' = v % 64 + 64 := ⟨_, rfl⟩
    obtain ⟨v1, hv1⟩ : ∃ v1, v1 = v % 128 := ⟨_, rfl⟩
    rw [← hu'] at a0 hc31 ⊢
    rw [← hv1] at a1 a2
    rw [← hv'] at a2 ⊢
    clear hu' hv' hv1 x0 x1 hb
    replace hu : Hid (u = ks.getD 0 0) := hu
    replace hc31 : Hid ((ks.set 0 u').getD 31 0 = v) := hc31
    clear hv
    go_enter Try.func34, Try.ntmps34
    go_wp2_with (at_builtin; refine list_spread hi hz0 hz1 hz2 (.tmp 8) (.tmp 9) 22 Try.underlying22 hown0 h1 hl (by decide) (by decide) (by decide) (by simp) (by rfl) (by rfl) (by rfl) (by rfl) ?_; intro g cap w1 ho1 hg1 hb1; simp only [Nat.zero_add, List.nil_append] at ho1 ⊢; have c0 := rowU_cell ho1 0 (by decide); rw [← hu.out] at c0; have f0 := ho1.frozenAt 0; have s0 := ho1.stored 0 (.int .u8 u'); rw [mapU_set] at s0; have c1 := rowU_cell s0.1 31 (by decide); rw [hc31.out] at c1; have f1 := s0.1.frozenAt 31; have s1 := s0.1.stored 31 (.int .u8 v'); rw [mapU_set] at s1)
    go_ret
    have hlt := ho1.lt g rfl
    have k0 := hb0.trans hb1
    have k1 := k0.grown s0.2 k0.size (fun k hk => by cases hk; exact hlt.1)
    exact ⟨_, _, rfl, .of s1.1, k1.grown s1.2 k1.size (fun k hk => by cases hk; exact hlt.1)⟩
  · rw [if_neg hok, if_neg hok]
    have z1 : ((n : Int) != 32) = true := by simp; omega
    clear h1 hb
    go_enter Try.func34, Try.ntmps34
    go_wp2_with (fail)
    go_ret
    exact ⟨_, _, rfl, .of hown0, hb0⟩

theorem cloneB_any (p : Option Addr) (c : Nat) (ks : List Int) (w : World) (hl : ks.length = 32) (h : BytesIn w p 32 ks) :
    Calls Try.prog 36 #[.slice p 32 c] w fun e w' => ∃ g c', e = .returned (.slice (some ⟨g, 0, none⟩) 32 c') ∧ w'.ownsRow w.heap.size 5 1 (.slice (some ⟨g, 0, none⟩) 32 c') 32 (ks.map (Value.int .u8)) ∧ Below w.heap.size w w' := by
  obtain ⟨i0, hi, hz0, hz1, hz2⟩ := info_parts infoByte
  have hown0 : (w.alloc (.cells #[] 5)).ownsRow w.heap.size 5 1 (.slice (some ⟨w.heap.size, 0, none⟩) 0 0) 0 (([] : List Int).map (Value.int .u8)) := World.ownsRow_made w #[] 0 (Nat.le_refl _) (by unfold maxLen; omega) rfl
  have hb0 : Below w.heap.size w (w.alloc (.cells #[] 5)) := (Below.refl _ _).alloc (Nat.le_refl _) _
  have h1 := in_below h hb0
  obtain ⟨b, o, rfl, _⟩ := h (by decide)
  have hnil := fun w => Lib.run_eql_slice_nil (P := Try.prog) w 22 5 (some ⟨b, o, none⟩) 32 c 0 0 Try.underlying22
  simp only [Option.isNone_some] at hnil
  clear h
  go_enter Try.func36, Try.ntmps36
  go_wp2_with (at_builtin; refine list_spread hi hz0 hz1 hz2 (.tmp 5) (.tmp 6) 22 Try.underlying22 hown0 h1 hl (by decide) (by decide) (by decide) (by simp) (by rfl) (by rfl) (by rfl) (by rfl) ?_; intro g cap w1 ho1 hg1 hb1; simp only [Nat.zero_add, List.nil_append] at ho1 ⊢)
  go_ret
  exact ⟨_, _, rfl, ho1, hb0.trans hb1⟩

set_option maxRecDepth 100000 in
set_option maxHeartbeats 4000000 in
theorem implClamp_any (p : Option Addr) (n c : Nat) (ks : List Int) (w : World) (hl : ks.length = n) (h : BytesIn w p n ks) (hb : ∀ x ∈ ks, 0 ≤ x ∧ x < 256) :
    Calls Try.prog 21 #[.slice p n c] w fun e w' => ∃ p' c', e = .returned (.slice p' (oneN n) c') ∧ Own 5 w' w.heap.size w'.heap.size (.slice p' (oneN n) c') (oneN n) (clampR ks n) ∧ Below w.heap.size w w' := by
  unfold oneN clampR
  by_cases hok : n = 32
  · rw [if_pos hok, if_pos hok]
    subst hok
    have x0 := byteZ hb 0
    have x1 := byteZ hb 31
    have a0 := not7 x0.1 x0.2
    have a1 := not128 x1.1 x1.2
    have a2 := or64 x1.1 x1.2
    have hc31 : (ks.set 0 (ks.getD 0 0 / 8 * 8)).getD 31 0 = ks.getD 31 0 := by rw [List.getD_eq_getElem?_getD, List.getElem?_set_ne (by decide), ← List.getD_eq_getElem?_getD]
    have hc32 : ((ks.set 0 (ks.getD 0 0 / 8 * 8)).set 31 (ks.getD 31 0 % 128)).getD 31 0 = ks.getD 31 0 % 128 := by rw [List.getD_eq_getElem?_getD, List.getElem?_set_self (by simp [hl])]; rfl
    have hss : ((ks.set 0 (ks.getD 0 0 / 8 * 8)).set 31 (ks.getD 31 0 % 128)).set 31 (ks.getD 31 0 % 64 + 64) = (ks.set 0 (ks.getD 0 0 / 8 * 8)).set 31 (ks.getD 31 0 % 64 + 64) := List.set_set _
    have CC := cloneB_any p c ks w hl h
    unfold clampL
    obtain ⟨u, hu⟩ : ∃ u, u = ks.getD 0 0 := ⟨_, rfl⟩
    obtain ⟨v, hv⟩ : ∃ v, v = ks.getD 31 0 := ⟨_, rfl⟩
    rw [← hu] at a0 hc31 hc32 hss ⊢
    rw [← hv] at a1 a2 hc31 hc32 hss ⊢
    obtain ⟨u', hu'⟩ : ∃ u', u' = u / 8 * 8 := ⟨_, rfl⟩
    obtain ⟨v', hv'⟩ : ∃ v', v' = v % 64 + 64 := ⟨_, rfl⟩
    obtain ⟨v1, hv1⟩ : ∃ v1, v1 = v % 128 := ⟨_, rfl⟩
    rw [← hu'] at a0 hc31 hc32 hss ⊢
    rw [← hv1] at a1 a2 hc32 hss
    rw [← hv'] at a2 hss ⊢
    rw [← hss]
    clear hu' hv' hv1 x0 x1 hb h hss
    replace hu : Hid (u = ks.getD 0 0) := hu
    replace hc31 : Hid ((ks.set 0 u').getD 31 0 = v) := hc31
    replace hc32 : Hid (((ks.set 0 u').set 31 v1).getD 31 0 = v1) := hc32
    clear hv
    go_enter Try.func21, Try.ntmps21
    go_wp2_with (fail)
    refine CC.mono ?_
    rintro e w1 ⟨g, cap, rfl, ho1, hb1⟩
    have c0 := rowU_cell ho1 0 (by decide)
    rw [← hu.out] at c0
    have f0 := ho1.frozenAt 0
    have s0 := ho1.stored 0 (.int .u8 u')
    rw [mapU_set] at s0
    have c1 := rowU_cell s0.1 31 (by decide)
    rw [hc31.out] at c1
    have f1 := s0.1.frozenAt 31
    have s1 := s0.1.stored 31 (.int .u8 v1)
    rw [mapU_set] at s1
    have c2 := rowU_cell s1.1 31 (by decide)
    rw [hc32.out] at c2
    have f2 := s1.1.frozenAt 31
    have s2 := s1.1.stored 31 (.int .u8 v')
    rw [mapU_set] at s2
    have hlt := ho1.lt g rfl
    have k1 := hb1.grown s0.2 hb1.size (fun k hk => by cases hk; exact hlt.1)
    have k2 := k1.grown s1.2 k1.size (fun k hk => by cases hk; exact hlt.1)
    have hbel := k2.grown s2.2 k2.size (fun k hk => by cases hk; exact hlt.1)
    clear k1 k2
    have hown := s2.1
    clear s0 s1 s2 ho1 hb1 hlt CC
    go_wp2_with (fail)
    go_ret
    exact ⟨_, _, rfl, .of hown, hbel⟩
  · rw [if_neg hok, if_neg hok]
    have z1 : ((n : Int) != 32) = true := by simp; omega
    clear h hb
    go_enter Try.func21, Try.ntmps21
    go_wp2_with (fail)
    go_ret
    exact ⟨_, _, rfl, ⟨⟨rfl, .inl ⟨rfl, rfl⟩⟩, fun k hk => by cases hk⟩, Below.refl _ _⟩

end Go.Proofs.Ytgdomnejhjdnmaa

namespace Go.Proofs.Ytgdomnejhjdnmaa
open Go.RowKit
set_option maxRecDepth 100000

theorem szZ {f : Nat → Int} : (Try.prog.info? 60).map (·.size) = some (zV f 16).length := by rw [zV_length]; exact (zero_of_info infoZ16).2
theorem szZ2 {f : Nat → Int} : (Try.prog.info? 60).map (·.size) = some (zV f 16).toArray.size := by
  have : (zV f 16).toArray.size = 16 := by simp [zV_length]
  rw [this]; exact (zero_of_info infoZ16).2
theorem RowZ.there2 {ty : Nat} {w : World} {lo g : Nat} {f f' : Nat → Int} (h : RowZ ty 16 w lo g f) : w.there g 0 (zV f' 16).toArray.size := by
  have : (zV f' 16).toArray.size = 16 := by simp [zV_length]
  rw [this]; exact h.there
theorem RowZ.drew {ty n : Nat} {w : World} {lo g : Nat} {f : Nat → Int} (h : RowZ ty n w lo g f) : RowZ ty n w.drew lo g f := h.below (Below.refl _ _).drew
/-- A list of 16 parts: f's. -/
structure IsZ (L : List Value) (f : Nat → Int) : Prop where
  eq : zV f 16 = L
theorem IsZ.sz {L : List Value} {f : Nat → Int} (h : IsZ L f) : (Try.prog.info? 60).map (·.size) = some L.length := by rw [← h.eq]; exact szZ
theorem IsZ.sz2 {L : List Value} {f : Nat → Int} (h : IsZ L f) : (Try.prog.info? 60).map (·.size) = some L.toArray.size := by rw [← h.eq]; exact szZ2
theorem IsZ.one {L : List Value} {f : Nat → Int} (h : IsZ L f) : ∀ v ∈ L, v.oneCell' = true := by rw [← h.eq]; exact zV_one f 16
theorem IsZ.range {L : List Value} {f : Nat → Int} {ty : Nat} {w : World} {lo g : Nat} (h : IsZ L f) (r : RowZ ty 16 w lo g f) : w.rangeAt g 0 L := by rw [← h.eq]; exact r.range
/-- A new variable with a value. -/
theorem IsZ.made {L : List Value} {f : Nat → Int} (h : IsZ L f) (w : World) (lo : Nat) (hlo : lo ≤ w.heap.size) {Z : Array Value} (hZ : Z = (zV (fun _ => 0) 16).toArray) :
    RowZ 60 16 ((w.alloc (.cells Z 60)).setCells w.heap.size 0 L) lo w.heap.size f ∧ Below w.heap.size w ((w.alloc (.cells Z 60)).setCells w.heap.size 0 L) ∧ (w.alloc (.cells Z 60)).there w.heap.size 0 L.toArray.size := by
  have m := RowZ.made w 60 16 lo (fun _ => 0) (by decide) hlo
  rw [← hZ] at m
  have p := m.put (f' := f)
  have t := m.there2 (f' := f)
  have b : Below w.heap.size w (w.alloc (.cells Z 60)) := (Below.refl _ _).alloc (Nat.le_refl _) _
  rw [h.eq] at p t
  exact ⟨p.1, b.grown p.2 (Nat.le_trans (Nat.le_refl _) b.size) (fun k hk => by cases hk; exact Nat.le_refl _), t⟩
theorem IsZ.put {L : List Value} {f f0 : Nat → Int} {w : World} {lo g : Nat} (h : IsZ L f) (r : RowZ 60 16 w lo g f0) :
    RowZ 60 16 (w.setCells g 0 L) lo g f ∧ w.grownBy (w.setCells g 0 L) (some g) ∧ w.there g 0 L.toArray.size := by
  have p := r.put (f' := f)
  have t := r.there2 (f' := f)
  rw [h.eq] at p t
  exact ⟨p.1, p.2, t⟩

theorem cAdd {La Lc Le : List Value} {fa fc : Nat → Int} (ia : IsZ La fa) (ic : IsZ Lc fc) (ie : IsZ Le (addZ fa fc)) (ha : okZ fa) (hc : okZ fc) (X : World) : Calls Try.prog 46 #[.agg La.toArray, .agg Lc.toArray] X fun e w' => e = .returned (.agg Le.toArray) ∧ Below X.heap.size X w' := by
  have h := l8Add_any fa fc X (fun i => by have := ha i; omega) (fun i => by have := hc i; omega)
  have h2 : zV (fun i => fa i + fc i) 16 = Le := ie.eq
  rw [h2, ia.eq, ic.eq] at h
  exact h

theorem cSub {La Lc Le : List Value} {fa fc : Nat → Int} (ia : IsZ La fa) (ic : IsZ Lc fc) (ie : IsZ Le (subZ fa fc)) (ha : okZ fa) (hc : okZ fc) (X : World) : Calls Try.prog 47 #[.agg La.toArray, .agg Lc.toArray] X fun e w' => e = .returned (.agg Le.toArray) ∧ Below X.heap.size X w' := by
  have h := l8Sub_any fa fc X (fun i => by have := ha i; omega) (fun i => by have := hc i; omega)
  have h2 : zV (fun i => fa i - fc i) 16 = Le := ie.eq
  rw [h2, ia.eq, ic.eq] at h
  exact h

theorem cMul {La Lc Le : List Value} {fa fc : Nat → Int} (ia : IsZ La fa) (ic : IsZ Lc fc) (ie : IsZ Le (mulZ fa fc)) (ha : okZ fa) (hc : okZ fc) (X : World) : Calls Try.prog 48 #[.agg La.toArray, .agg Lc.toArray] X fun e w' => e = .returned (.agg Le.toArray) ∧ Below X.heap.size X w' := by
  have h := l8Mul_any fa fc X ha hc
  rw [ie.eq, ia.eq, ic.eq] at h
  exact h

theorem mZ_set (i : Nat) : (if i = 1 then 1 else if i = 0 then 56129 else (0 : Int)) = mZ i := by
  unfold mZ
  by_cases h0 : i = 0
  · subst h0; rfl
  · by_cases h1 : i = 1
    · subst h1; rfl
    · rw [if_neg h1, if_neg h0, if_neg h0, if_neg h1]
def bitI (b : Bool) : Int := if b then 1 else 0
theorem and7 (j : Nat) (h : j < 256) : bits .and .i64 (j : Int) 7 = ((j % 8 : Nat) : Int) := by
  have e : bits .and .i64 (j : Int) 7 = IntKind.i64.wrap ((BitVec.ofInt 64 (j : Int) &&& BitVec.ofInt 64 7).toNat : Int) := rfl
  have e1 : (BitVec.ofInt 64 (j : Int)).toNat = j := by rw [BitVec.toNat_ofInt]; omega
  have e2 : (BitVec.ofInt 64 7).toNat = 2 ^ 3 - 1 := rfl
  rw [e, BitVec.toNat_and, e1, e2, Nat.and_two_pow_sub_one_eq_mod, IntKind.wrap_i64]
  omega
theorem and1 (v : Nat) (h : v < 256) : bits .and .i64 (v : Int) 1 = bitI (decide (v % 2 = 1)) := by
  have e : bits .and .i64 (v : Int) 1 = IntKind.i64.wrap ((BitVec.ofInt 64 (v : Int) &&& BitVec.ofInt 64 1).toNat : Int) := rfl
  have e1 : (BitVec.ofInt 64 (v : Int)).toNat = v := by rw [BitVec.toNat_ofInt]; omega
  have e2 : (BitVec.ofInt 64 1).toNat = 2 ^ 1 - 1 := rfl
  rw [e, BitVec.toNat_and, e1, e2, Nat.and_two_pow_sub_one_eq_mod, IntKind.wrap_i64]
  unfold bitI
  by_cases h2 : v % 2 = 1
  · simp [h2]
  · have : v % 2 = 0 := by omega
    simp [this]

end Go.Proofs.Ytgdomnejhjdnmaa
