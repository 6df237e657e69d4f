/-
  A part of the proof.
-/
import Derived.Test.YtnpffnhiefgglaaGreatDoorParw30
import Derived.Test.YtnpffnhiefgglaaGreatDoorParw18
namespace Go.Proofs.YtnpffnhiefgglaaGreatDoor
open Go.RowKit
set_option maxRecDepth 100000
set_option maxHeartbeats 8000000 in
theorem l8Inv_any (f : Nat → Int) (w : World) (h1 : okZ f) :
    Calls Tryz.prog 138 #[.agg (zV f 16).toArray] w fun e w' => e = .returned (.agg (zV (invZ f 254) 16).toArray) ∧ Below w.heap.size w w' := by
  have hz := (zero_of_info infoZ16).1
  have hsz0 := (zero_of_info infoZ16).2
  have HSZ : Hid (∀ g : Nat → Int, (Tryz.prog.info? 125).map (·.size) = some (zV g 16).length ∧ (Tryz.prog.info? 125).map (·.size) = some (zV g 16).toArray.size ∧ (zV g 16).toArray.size = 16) := fun g => by
    have e : (zV g 16).toArray.size = 16 := by simp [zV_length]
    exact ⟨by rw [zV_length]; exact hsz0, by rw [e]; exact hsz0, e⟩
  have m0 := RowZ.made w 125 16 w.heap.size f (by decide) (Nat.le_refl _)
  obtain ⟨As, hAs⟩ : ∃ As, As = zV f 16 := ⟨_, rfl⟩
  have hoA := zV_one f 16
  have hsA := (HSZ.out f).1
  have hsA2 := (HSZ.out f).2.1
  have hsA3 := (HSZ.out f).2.2
  rw [← hAs] at m0 hoA hsA hsA2 hsA3 ⊢
  have ba : Below w.heap.size w (w.alloc (.cells As.toArray 125)) := (Below.refl _ _).alloc (Nat.le_refl _) _
  have sa : (w.alloc (.cells As.toArray 125)).heap.size = w.heap.size + 1 := by simp
  have HM : Hid (∀ (X : World) (n : Nat), n ≤ X.heap.size → RowZ 125 16 (X.alloc (.cells (zV (fun _ => 0) 16).toArray 125)) n X.heap.size (fun _ => 0)) := fun X n hX => RowZ.made X 125 16 n (fun _ => 0) (by decide) hX
  obtain ⟨Z, hZ⟩ : ∃ Z, Z = (zV (fun _ => 0) 16).toArray := ⟨_, rfl⟩
  rw [← hZ] at hz
  simp only [← hZ] at HM
  clear hZ
  have m1 := HM.out (w.alloc (.cells As.toArray 125)) w.heap.size (by omega)
  have bb : Below (w.alloc (.cells As.toArray 125)).heap.size (w.alloc (.cells As.toArray 125)) ((w.alloc (.cells As.toArray 125)).alloc (.cells Z 125)) := (Below.refl _ _).alloc (Nat.le_refl _) _
  have sb : ((w.alloc (.cells As.toArray 125)).alloc (.cells Z 125)).heap.size = w.heap.size + 1 + 1 := by simp
  have m2 := HM.out ((w.alloc (.cells As.toArray 125)).alloc (.cells Z 125)) w.heap.size (by omega)
  have bc : Below ((w.alloc (.cells As.toArray 125)).alloc (.cells Z 125)).heap.size ((w.alloc (.cells As.toArray 125)).alloc (.cells Z 125)) (((w.alloc (.cells As.toArray 125)).alloc (.cells Z 125)).alloc (.cells Z 125)) := (Below.refl _ _).alloc (Nat.le_refl _) _
  have q0' := m0.below bb
  have hra0 := q0'.range
  rw [← hAs] at hra0
  have q0 := q0'.below bc
  have q1 := m1.below bc
  rw [sa] at q1
  rw [sb] at m2
  have bel := below_on (below_on ba bb) bc
  have hth0 : (((w.alloc (.cells As.toArray 125)).alloc (.cells Z 125)).alloc (.cells Z 125)).there (w.heap.size + 1 + 1) 0 As.toArray.size := by rw [hsA3]; exact m2.there
  have p2 := m2.put (f' := f)
  rw [← hAs] at p2
  replace hAs : Hid (As = zV f 16) := hAs
  go_enter Tryz.func138, Tryz.ntmps138
  go_wp2_with (first | (refine wpList_load_mid rfl 125 _ rfl w.heap.size 0 rfl As _ hra0 Tryz.underlying125 rfl hsA ?_) | (refine wpList_store_mid rfl 125 _ _ rfl (w.heap.size + 1 + 1) 0 As.toArray rfl rfl hth0 hsA2 (all_oneCell_toArray hoA) ?_))
  obtain ⟨GR, hGR⟩ : ∃ GR, GR = w.heap.size + 1 := ⟨_, rfl⟩
  rw [← hGR] at q1 p2 ⊢
  obtain ⟨GC, hGC⟩ : ∃ GC, GC = GR + 1 := ⟨_, rfl⟩
  rw [← hGC] at p2 ⊢
  have hneA : w.heap.size ≠ GC := by omega
  have hneR : GR ≠ GC := by omega
  have hloC : w.heap.size ≤ GC := by omega
  have hloR : w.heap.size ≤ GR := by omega
  have k0 := q0.kept p2.2 hneA
  have k1 := q1.kept p2.2 hneR
  have kb := bel.grown p2.2 bel.size (fun k hk => by cases hk; exact hloC)
  have pc := p2.1
  generalize ((((w.alloc (.cells As.toArray 125)).alloc (.cells Z 125)).alloc (.cells Z 125)).setCells GC 0 As) = wb at pc k0 k1 kb ⊢
  clear m0 m1 m2 ba bb bc sa sb q0 q0' q1 bel hra0 hth0 p2 HM hz hGR hGC
  go_loopw [4] (fun i wr => ∃ k : Nat, k ≤ 254 ∧ i = .int .i64 (253 - (k : Int)) ∧ RowZ 125 16 wr w.heap.size GC (invZ f k) ∧ RowZ 125 16 wr w.heap.size w.heap.size f ∧ RowZ 125 16 wr w.heap.size GR (fun _ => 0) ∧ Below w.heap.size w wr)
    (fun i _ => (intOf i + 1).toNat)
  case atStart => exact ⟨0, by omega, rfl, pc, k0, k1, kb⟩
  case round =>
    clear pc k0 k1 kb
    obtain ⟨k, hk, rfl, rc, rA, rR, bel⟩ := hrel
    obtain ⟨i, hi⟩ : ∃ i : Int, i = 253 - (k : Int) := ⟨_, rfl⟩
    rw [← hi]
    by_cases hlt : k < 254
    · have hge : (0 : Int) ≤ i := by omega
      have hok := invZ_ok h1 k
      have C1 := fun X => l8Mul_any (invZ f k) (invZ f k) X hok hok
      have hok2 := mulZ_ok hok hok
      have C2 := fun X => l8Mul_any (mulZ (invZ f k) (invZ f k)) f X hok2 h1
      have HI : Hid (invZ f (k + 1) = if k = 251 ∨ k = 249 then mulZ (invZ f k) (invZ f k) else mulZ (mulZ (invZ f k) (invZ f k)) f) := rfl
      clear hok hok2
      generalize invZ f k = c at rc C1 C2 HI
      have hrc := rc.range
      have hsc := (HSZ.out c).1
      obtain ⟨Cs, hCs⟩ : ∃ Cs, Cs = zV c 16 := ⟨_, rfl⟩
      rw [← hCs] at hrc hsc
      simp only [← hCs] at C1
      rw [← hAs.out] at C2
      clear hCs
      have hii : i - 1 = 253 - ((k + 1 : Nat) : Int) := by omega
      have li : i ≤ 253 := by omega
      replace hi : Hid (i = 253 - (k : Int)) := hi
      replace hii : Hid (i - 1 = 253 - ((k + 1 : Nat) : Int)) := hii
      go_wp2_with (refine wpList_load_mid rfl 125 _ rfl GC 0 rfl Cs _ hrc Tryz.underlying125 rfl hsc ?_)
      refine (C1 _).mono ?_
      rintro e w5 ⟨rfl, b5⟩
      have rc5 := rc.below b5
      have rA5 := rA.below b5
      have rR5 := rR.below b5
      have bel5 := below_on bel b5
      clear rc rA rR bel b5 C1 hrc hsc
      obtain ⟨M, hM⟩ : ∃ M, M = mulZ c c := ⟨_, rfl⟩
      simp only [← hM] at C2 HI
      rw [← hM]
      have hm1 := (HSZ.out M).1
      have hm2 := (HSZ.out M).2.1
      have hm3 := (HSZ.out M).2.2
      have hoM := zV_one M 16
      have pM := rc5.put (f' := M)
      have hthM : w5.there GC 0 (zV M 16).toArray.size := by rw [hm3]; exact rc5.there
      have rA6 := rA5.kept pM.2 hneA
      have rR6 := rR5.kept pM.2 hneR
      have bel6 := bel5.grown pM.2 bel5.size (fun k hk => by cases hk; exact hloC)
      have rc6 := pM.1
      have hrM := rc6.range
      have hrA := rA6.range
      obtain ⟨Ms, hMs⟩ : ∃ Ms, Ms = zV M 16 := ⟨_, rfl⟩
      rw [← hMs] at hm1 hm2 hthM hoM hrM rc6 rA6 rR6 bel6 hrA ⊢
      rw [← hAs.out] at hrA
      simp only [← hMs] at C2
      clear hMs hM pM rc5 rA5 rR5 bel5 hm3
      by_cases hs : k = 251 ∨ k = 249
      · have HI' : invZ f (k + 1) = M := by rw [HI.out, if_pos hs]
        clear HI C2
        rcases hs with h | h
        · have z2 : i = 2 := by have := hi.out; omega
          subst z2
          go_wp2_with (refine wpList_store_mid rfl 125 _ _ rfl GC 0 Ms.toArray rfl rfl hthM hm2 (all_oneCell_toArray hoM) ?_)
          go_roundw
          case rel => exact ⟨k + 1, by omega, by rw [← hii.out]; rfl, by rw [HI']; exact rc6, rA6, rR6, bel6⟩
          case measure => simp [intOf]
        · have z2 : i = 4 := by have := hi.out; omega
          subst z2
          go_wp2_with (refine wpList_store_mid rfl 125 _ _ rfl GC 0 Ms.toArray rfl rfl hthM hm2 (all_oneCell_toArray hoM) ?_)
          go_roundw
          case rel => exact ⟨k + 1, by omega, by rw [← hii.out]; rfl, by rw [HI']; exact rc6, rA6, rR6, bel6⟩
          case measure => simp [intOf]
      · have HI' : invZ f (k + 1) = mulZ M f := by rw [HI.out, if_neg hs]
        have z2 : (i != 2) = true := by have := hi.out; simp; omega
        have z4 : (i != 4) = true := by have := hi.out; simp; omega
        clear HI
        go_wp2_with (first | (refine wpList_store_mid rfl 125 _ _ rfl GC 0 Ms.toArray rfl rfl hthM hm2 (all_oneCell_toArray hoM) ?_) | (refine wpList_load_mid rfl 125 _ rfl GC 0 rfl Ms _ hrM Tryz.underlying125 rfl hm1 ?_) | (refine wpList_load_mid rfl 125 _ rfl w.heap.size 0 rfl As _ hrA Tryz.underlying125 rfl hsA ?_))
        refine (C2 _).mono ?_
        rintro e w7 ⟨rfl, b7⟩
        have rc7 := rc6.below b7
        have rA7 := rA6.below b7
        have rR7 := rR6.below b7
        have bel7 := below_on bel6 b7
        clear C2 rc6 rA6 rR6 bel6 b7 hrM hrA hthM
        obtain ⟨N, hN⟩ : ∃ N, N = mulZ M f := ⟨_, rfl⟩
        rw [← hN] at HI' ⊢
        have hn2 := (HSZ.out N).2.1
        have hn3 := (HSZ.out N).2.2
        have hoN := zV_one N 16
        have pN := rc7.put (f' := N)
        have hthN : w7.there GC 0 (zV N 16).toArray.size := by rw [hn3]; exact rc7.there
        have rA8 := rA7.kept pN.2 hneA
        have rR8 := rR7.kept pN.2 hneR
        have bel8 := bel7.grown pN.2 bel7.size (fun k hk => by cases hk; exact hloC)
        have rc8 := pN.1
        obtain ⟨Ns, hNs⟩ : ∃ Ns, Ns = zV N 16 := ⟨_, rfl⟩
        rw [← hNs] at hn2 hthN hoN rc8 rA8 rR8 bel8 ⊢
        clear hNs hN pN rc7 rA7 rR7 bel7 hn3
        go_wp2_with (refine wpList_store_mid rfl 125 _ _ rfl GC 0 Ns.toArray rfl rfl hthN hn2 (all_oneCell_toArray hoN) ?_)
        go_roundw
        case rel => exact ⟨k + 1, by omega, by rw [← hii.out], by rw [HI']; exact rc8, rA8, rR8, bel8⟩
        case measure => simp [intOf]; omega
    · obtain rfl : k = 254 := by omega
      have hi' : i = -1 := by omega
      subst hi'
      have hrc := rc.range
      have hsz := (HSZ.out (invZ f 254)).1
      have hsz2 := (HSZ.out (invZ f 254)).2.1
      have hsC := (HSZ.out (invZ f 254)).2.2
      have hone := zV_one (invZ f 254) 16
      have hth2 : wr.there GR 0 (zV (invZ f 254) 16).toArray.size := by rw [hsC]; exact rR.there
      have hp := rR.put (f' := invZ f 254)
      have hbel : Below w.heap.size w (wr.setCells GR 0 (zV (invZ f 254) 16)) := bel.grown hp.2 bel.size (fun k hk => by cases hk; exact hloR)
      have hld := run_loadVar_mid (P := Tryz.prog) _ GR 0 125 _ _ hp.1.range Tryz.underlying125 rfl hsz
      obtain ⟨Cs, hCs⟩ : ∃ Cs, Cs = zV (invZ f 254) 16 := ⟨_, rfl⟩
      rw [← hCs] at hrc hsz hsz2 hth2 hbel hld hone
      replace hCs : Hid (Cs = zV (invZ f 254) 16) := hCs
      clear hp rc rA rR bel hsC
      go_wp2_with (first | (refine wpList_load_mid rfl 125 _ rfl GC 0 rfl Cs _ hrc Tryz.underlying125 rfl hsz ?_) | (refine wpList_store_mid rfl 125 _ _ rfl GR 0 Cs.toArray rfl rfl hth2 hsz2 (all_oneCell_toArray hone) ?_))
      (try simp only [Exit.inBlock, Exit.then])
      refine bodyPost_ret (v := .agg Cs.toArray) ?_ rfl ⟨by rw [hCs.out], hbel⟩
      simp [results, asAddr, Act.put, hld]
theorem and_maskZ (k : Nat) (hk : k ≤ 32) (v : Int) : bits .and .i64 v ((2 ^ k - 1 : Nat) : Int) = v % (2 ^ k : Nat) := by
  have e : bits .and .i64 v ((2 ^ k - 1 : Nat) : Int) = IntKind.i64.wrap ((BitVec.ofInt 64 v &&& BitVec.ofInt 64 ((2 ^ k - 1 : Nat) : Int)).toNat : Int) := rfl
  have e1 : (BitVec.ofInt 64 v).toNat = (v % 18446744073709551616).toNat := BitVec.toNat_ofInt v
  have hp : 2 ^ k ≤ 4294967296 := Nat.le_trans (Nat.pow_le_pow_right (by decide) hk) (by decide)
  have hp0 : 0 < 2 ^ k := Nat.two_pow_pos k
  have e2 : (BitVec.ofInt 64 ((2 ^ k - 1 : Nat) : Int)).toNat = 2 ^ k - 1 := by rw [BitVec.toNat_ofInt]; omega
  have hd : ((2 ^ k : Nat) : Int) ∣ 18446744073709551616 := by
    have : 2 ^ k ∣ 2 ^ 64 := Nat.pow_dvd_pow 2 (by omega)
    exact Int.ofNat_dvd.2 this
  have e3 : (((v % 18446744073709551616).toNat % 2 ^ k : Nat) : Int) = v % (2 ^ k : Nat) := by
    rw [Int.natCast_emod, Int.toNat_of_nonneg (by omega), Int.emod_emod_of_dvd v hd]
  rw [e, BitVec.toNat_and, e1, e2, Nat.and_two_pow_sub_one_eq_mod, e3, IntKind.wrap_i64]
  have h1 : 0 ≤ v % ((2 ^ k : Nat) : Int) := Int.emod_nonneg _ (by omega)
  have h2 : v % ((2 ^ k : Nat) : Int) < ((2 ^ k : Nat) : Int) := Int.emod_lt_of_pos _ (by omega)
  omega
theorem and_65535Z (v : Int) : bits .and .i64 v 65535 = v % 65536 := and_maskZ 16 (by decide) v
theorem and_255Z (v : Int) : bits .and .i64 v 255 = v % 256 := and_maskZ 8 (by decide) v
theorem and_1Z (v : Int) : bits .and .i64 v 1 = v % 2 := and_maskZ 1 (by decide) v
def dwnK (t : Nat → Int) (i j : Nat) : Int := if j + 1 < i then digZ (dffZ t) j else if j + 1 = i then dffZ t j + carZ (dffZ t) j else t j
theorem raw_range {t : Nat → Int} (ht : ∀ i, 0 ≤ t i ∧ t i < 65536) (j : Nat) : -65536 ≤ dffZ t j + carZ (dffZ t) j ∧ dffZ t j + carZ (dffZ t) j ≤ 32768 ∨ j = 0 := by
  by_cases h0 : j = 0
  · exact .inr h0
  · refine .inl ?_
    have hc := dff_car ht j
    have h := ht j
    have hp : 32767 ≤ prtZ j ∧ prtZ j ≤ 65535 := by
      unfold prtZ
      split
      · omega
      · split <;> omega
    have hd : dffZ t j = t j - prtZ j := rfl
    omega
theorem raw_le {t : Nat → Int} (ht : ∀ i, 0 ≤ t i ∧ t i < 65536) (j : Nat) : -65536 ≤ dffZ t j + carZ (dffZ t) j ∧ dffZ t j + carZ (dffZ t) j ≤ 32768 := by
  rcases raw_range ht j with h | h
  · exact h
  · subst h
    have h0 := ht 0
    have hd : dffZ t 0 = t 0 - 65517 := rfl
    have hc : carZ (dffZ t) 0 = 0 := rfl
    omega
def itZ (t : Nat → Int) : Nat → Nat → Int
  | 0 => t
  | k + 1 => lssZ (itZ t k)
theorem itZ_range {t : Nat → Int} (ht : ∀ i, 0 ≤ t i ∧ t i < 65536) : ∀ k i, 0 ≤ itZ t k i ∧ itZ t k i < 65536
  | 0 => ht
  | k + 1 => lss_range (itZ_range ht k)
set_option maxHeartbeats 8000000 in
theorem l8Bytes_any (f : Nat → Int) (w : World) (h1 : ∀ i, -140737488355328 ≤ f i) (h2 : ∀ i, f i ≤ 140737488355328) :
    Calls Tryz.prog 137 #[.agg (zV f 16).toArray] w fun e w' => ∃ p' c', e = .returned (.slice p' 32 c') ∧ Own 5 w' w.heap.size w'.heap.size (.slice p' 32 c') 32 (prtB (redZ f) 16) ∧ Below w.heap.size w w' := by
  have hz := (zero_of_info infoZ16).1
  have hsz0 := (zero_of_info infoZ16).2
  have HSZ : Hid (∀ g : Nat → Int, (Tryz.prog.info? 125).map (·.size) = some (zV g 16).length ∧ (Tryz.prog.info? 125).map (·.size) = some (zV g 16).toArray.size ∧ (zV g 16).toArray.size = 16) := fun g => by
    have e : (zV g 16).toArray.size = 16 := by simp [zV_length]
    exact ⟨by rw [zV_length]; exact hsz0, by rw [e]; exact hsz0, e⟩
  have HM : Hid (∀ (X : World) (n : Nat), n ≤ X.heap.size → RowZ 125 16 (X.alloc (.cells (zV (fun _ => 0) 16).toArray 125)) n X.heap.size (fun _ => 0)) := fun X n hX => RowZ.made X 125 16 n (fun _ => 0) (by decide) hX
  have m0 := RowZ.made w 125 16 w.heap.size f (by decide) (Nat.le_refl _)
  obtain ⟨As, hAs⟩ : ∃ As, As = zV f 16 := ⟨_, rfl⟩
  have hsA := (HSZ.out f).1
  have hra0 := m0.range
  rw [← hAs] at m0 hsA hra0 ⊢
  have ba : Below w.heap.size w (w.alloc (.cells As.toArray 125)) := (Below.refl _ _).alloc (Nat.le_refl _) _
  obtain ⟨Z, hZ⟩ : ∃ Z, Z = (zV (fun _ => 0) 16).toArray := ⟨_, rfl⟩
  rw [← hZ] at hz
  simp only [← hZ] at HM
  clear hZ
  have hh := cry_head (f := f) (M := 2147516417) (fun i => by have := h1 i; omega) (fun i => by have := h2 i; omega) (by omega)
  have h2nd := cry_twice h1 h2
  have C1 := fun X => l8Carry_any f X h1 h2
  have C2 := fun X => l8Carry_any (cryZ f) X (fun i => by
    by_cases h : i = 0
    · subst h; omega
    · have := cryZ_tail f i h; omega) (fun i => by
    by_cases h : i = 0
    · subst h; omega
    · have := cryZ_tail f i h; omega)
  have C3 := fun X => l8Carry_any (cryZ (cryZ f)) X (fun i => by
    by_cases h : i = 0
    · subst h; omega
    · have := h2nd.1 i h; omega) (fun i => by
    by_cases h : i = 0
    · subst h; omega
    · have := h2nd.1 i h; omega)
  have hT := cry_thrice h1 h2
  have HR : Hid (redZ f = itZ (cryZ (cryZ (cryZ f))) 2) := rfl
  rw [← hAs] at C1
  rw [HR.out]
  clear hh h2nd h1 h2 HR
  generalize cryZ (cryZ (cryZ f)) = T at C3 hT
  replace hAs : Hid (As = zV f 16) := hAs
  clear m0
  go_enter Tryz.func137, Tryz.ntmps137
  go_wp2_with (refine wpList_load_mid rfl 125 _ rfl w.heap.size 0 rfl As _ hra0 Tryz.underlying125 rfl hsA ?_)
  refine (C1 _).mono ?_
  rintro e w1 ⟨rfl, b1⟩
  go_wp2_with (fail)
  refine (C2 _).mono ?_
  rintro e w2 ⟨rfl, b2⟩
  go_wp2_with (fail)
  refine (C3 _).mono ?_
  rintro e w3 ⟨rfl, b3⟩
  have bel3 := below_on (below_on (below_on ba b1) b2) b3
  clear C1 C2 C3 b1 b2 b3 ba hra0 hsA hAs
  have mT := HM.out w3 w.heap.size bel3.size
  have bT : Below w3.heap.size w3 (w3.alloc (.cells Z 125)) := (Below.refl _ _).alloc (Nat.le_refl _) _
  have pT := mT.put (f' := T)
  have hs2 := (HSZ.out T).2.1
  have hs3 := (HSZ.out T).2.2
  have hoT := zV_one T 16
  have hthT : (w3.alloc (.cells Z 125)).there w3.heap.size 0 (zV T 16).toArray.size := by rw [hs3]; exact mT.there
  have bel4 := (below_on bel3 bT).grown pT.2 (below_on bel3 bT).size (fun k hk => by cases hk; exact bel3.size)
  have rT := pT.1
  obtain ⟨Ts, hTs⟩ : ∃ Ts, Ts = zV T 16 := ⟨_, rfl⟩
  rw [← hTs] at hs2 hoT hthT bel4 rT ⊢
  clear hTs pT mT bT hs3
  go_wp2_with (refine wpList_store_mid rfl 125 _ _ rfl w3.heap.size 0 Ts.toArray rfl rfl hthT hs2 (all_oneCell_toArray hoT) ?_)
  obtain ⟨GT, hGT⟩ : ∃ GT, GT = w3.heap.size := ⟨_, rfl⟩
  have hloT : w.heap.size ≤ GT := by rw [hGT]; exact bel3.size
  rw [← hGT] at rT bel4 ⊢
  generalize (w3.alloc (.cells Z 125)).setCells GT 0 Ts = wb at rT bel4 ⊢
  clear hthT hs2 hoT bel3 hGT
  go_loopw [4] (fun i wr => ∃ k : Nat, k ≤ 2 ∧ i = .int .i64 k ∧ RowZ 125 16 wr w.heap.size GT (itZ T k) ∧ Below w.heap.size w wr)
    (fun i _ => 2 - (intOf i).toNat)
  case atStart => exact ⟨0, by omega, rfl, rT, bel4⟩
  case round =>
    clear rT bel4
    obtain ⟨k, hk, rfl, rT, bel⟩ := hrel
    by_cases hlt : k < 2
    · have hlt' : (k : Int) < 2 := by omega
      have htr := itZ_range hT k
      have HI : Hid (lssZ (itZ T k) = itZ T (k + 1)) := rfl
      generalize itZ T k = t at rT htr HI
      have hrt := rT.range
      have hst := (HSZ.out t).1
      have hst2 := (HSZ.out t).2.1
      have hst3 := (HSZ.out t).2.2
      have hot := zV_one t 16
      have mM := HM.out wr w.heap.size bel.size
      have bM : Below wr.heap.size wr (wr.alloc (.cells Z 125)) := (Below.refl _ _).alloc (Nat.le_refl _) _
      have hthM : (wr.alloc (.cells Z 125)).there wr.heap.size 0 (zV t 16).toArray.size := by rw [hst3]; exact mM.there
      have pM := mM.put (f' := t)
      have hlTw := rT.lt.2
      have rT2 := (rT.below bM).kept pM.2 (Nat.ne_of_lt hlTw)
      have bel2 := (below_on bel bM).grown pM.2 (below_on bel bM).size (fun k hk => by cases hk; exact bel.size)
      have rM := pM.1
      obtain ⟨GM, hGM⟩ : ∃ GM, GM = wr.heap.size := ⟨_, rfl⟩
      have hloM : w.heap.size ≤ GM := by rw [hGM]; exact bel.size
      have hneM : GT ≠ GM := by rw [hGM]; exact Nat.ne_of_lt hlTw
      obtain ⟨Ss, hSs⟩ : ∃ Ss, Ss = zV t 16 := ⟨_, rfl⟩
      rw [← hSs] at hrt hst hst2 hot hthM rT2 bel2 rM
      clear hSs pM mM bM hst3 rT bel
      have c0 := rT2.cell 0 (by omega)
      have d0 := rM.cell 0 (by omega)
      have g0 := rM.frozen 0
      have r0 := rM.set 0 (dffZ t 0)
      have e0 : dffZ t 0 = t 0 - 65517 := rfl
      rw [e0] at r0
      have l0 := htr 0
      have rT3 := rT2.kept r0.2 (by rw [← hGM]; exact hneM)
      have bel3 := bel2.grown r0.2 bel2.size (fun k hk => by cases hk; rw [← hGM]; exact hloM)
      have rM3 : RowZ 125 16 _ w.heap.size wr.heap.size (dwnK t 1) := r0.1.congr fun i hi => by
        unfold dwnK
        by_cases a1 : i = 0
        · subst a1
          rw [if_pos rfl, if_neg (by omega), if_pos (by omega), e0]
          simp [carZ]
        · rw [if_neg a1, if_neg (by omega), if_neg (by omega)]
      generalize t 0 = t0 at c0 l0 r0 rT3 bel3 rM3 d0
      obtain ⟨z0, hz0⟩ : ∃ z0, z0 = t0 - 65517 := ⟨_, rfl⟩
      rw [← hz0] at rT3 bel3 rM3
      have ez0 : t0 - 65517 = z0 := hz0.symm
      clear r0 e0 hz0 rM
      go_wp2_with (first | (refine wpList_load_mid rfl 125 _ rfl GT 0 rfl Ss _ hrt Tryz.underlying125 rfl hst ?_) | (refine wpList_store_mid rfl 125 _ _ rfl wr.heap.size 0 Ss.toArray rfl rfl hthM hst2 (all_oneCell_toArray hot) ?_))
      rw [← hGM] at rT3 bel3 rM3 ⊢
      generalize ((wr.alloc (.cells Z 125)).setCells GM 0 Ss).setCell ⟨GM, 0, none⟩ (.int .i64 z0) = wm at rT3 bel3 rM3 ⊢
      clear hGM hthM hst hst2 hot hrt rT2 bel2 c0 d0 g0 l0 ez0 hlTw
      go_loopw [6] (fun i wx => ∃ j : Nat, 1 ≤ j ∧ j ≤ 15 ∧ i = .int .i64 j ∧ RowZ 125 16 wx w.heap.size GM (dwnK t j) ∧ RowZ 125 16 wx w.heap.size GT t ∧ Below w.heap.size w wx)
        (fun i _ => 15 - (intOf i).toNat)
      case atStart => exact ⟨1, by omega, by omega, rfl, rM3, rT3, bel3⟩
      case round =>
        clear rM3 rT3 bel3
        obtain ⟨j, hj1, hj2, rfl, rM, rT, bel⟩ := hrel
        by_cases hlj : j < 15
        · have hlj' : (j : Int) < 15 := by omega
          have hlj6 : (j : Int) < 16 := by omega
          obtain ⟨jp, hjp⟩ : ∃ jp : Nat, jp = j - 1 := ⟨_, rfl⟩
          have ejp : (j : Int) - 1 = (jp : Int) := by omega
          have ljp : (jp : Int) < 16 := by omega
          have cT := rT.cell j (by omega)
          have cM := rM.cell jp (by omega)
          have eM : dwnK t j jp = dffZ t jp + carZ (dffZ t) jp := by unfold dwnK; rw [if_neg (by omega), if_pos (by omega)]
          rw [eM] at cM
          have dM := rM.cell j (by omega)
          have fM := rM.frozen j
          have lr := raw_le htr jp
          have lt := htr j
          have hq := dff_car htr j
          have HQ : carZ (dffZ t) j = (dffZ t jp + carZ (dffZ t) jp) / 65536 := by
            have : j = jp + 1 := by omega
            rw [this]
            rfl
          have HD : digZ (dffZ t) jp = (dffZ t jp + carZ (dffZ t) jp) % 65536 := rfl
          have HV : dffZ t j = t j - 65535 := by
            unfold dffZ prtZ
            rw [if_neg (by omega), if_neg (by omega)]
          have r1 := rM.set j (dffZ t j + carZ (dffZ t) j)
          have c2 := r1.1.cell jp (by omega)
          have e2 : (if jp = j then dffZ t j + carZ (dffZ t) j else dwnK t j jp) = dffZ t jp + carZ (dffZ t) jp := by rw [if_neg (by omega), eM]
          rw [e2] at c2
          have f2 := r1.1.frozen jp
          have r2 := r1.1.set jp (digZ (dffZ t) jp)
          have HF : RowZ 125 16 _ w.heap.size GM (dwnK t (j + 1)) := r2.1.congr fun i hi => by
            unfold dwnK
            by_cases a1 : i = jp
            · subst a1
              rw [if_pos rfl, if_pos (by omega)]
            · rw [if_neg a1]
              by_cases a2 : i = j
              · subst a2
                rw [if_pos rfl, if_neg (by omega), if_pos rfl]
              · rw [if_neg a2]
                by_cases a3 : i + 1 < j
                · rw [if_pos a3, if_pos (by omega)]
                · rw [if_neg a3, if_neg (by omega), if_neg (by omega), if_neg (by omega)]
          have rT' := (rT.kept r1.2 hneM).kept r2.2 hneM
          have bel' := (bel.grown r1.2 bel.size (fun k hk => by cases hk; exact hloM)).grown r2.2 (Nat.le_trans bel.size r1.2.size) (fun k hk => by cases hk; exact hloM)
          rw [HD] at HF rT' bel'
          rw [HQ] at hq HF rT' bel' c2 f2
          rw [HV] at HF rT' bel' c2 f2
          obtain ⟨u, hu⟩ : ∃ u, u = dffZ t jp + carZ (dffZ t) jp := ⟨_, rfl⟩
          rw [← hu] at cM lr hq HF rT' bel' c2 f2
          generalize t j = x at cT lt HF rT' bel' c2 f2
          obtain ⟨x', hx'⟩ : ∃ x', x' = x - 65535 := ⟨_, rfl⟩
          have ex : x - 65535 = x' := hx'.symm
          obtain ⟨q, hqe⟩ : ∃ q, q = u / 65536 := ⟨_, rfl⟩
          have eq : u / 65536 = q := hqe.symm
          obtain ⟨b, hb'⟩ : ∃ b, b = q % 2 := ⟨_, rfl⟩
          have eb := and_1Z q
          rw [← hb'] at eb
          obtain ⟨v, hv⟩ : ∃ v, v = x' - b := ⟨_, rfl⟩
          have ev : x' - b = v := hv.symm
          have ed := and_65535Z u
          obtain ⟨d, hd⟩ : ∃ d, d = u % 65536 := ⟨_, rfl⟩
          rw [← hd] at ed HF rT' bel'
          rw [eq] at hq HF rT' bel' c2 f2
          rw [ex, show x' + q = v by omega] at HF rT' bel' c2 f2
          have lx' : -65535 ≤ x' ∧ x' ≤ 1 := by omega
          have lb : 0 ≤ b ∧ b ≤ 1 := by omega
          clear r1 r2 rM rT bel HQ HD HV eM e2 hu hx' hqe hb' hv hd hjp
          go_wp2_with (fail)
          go_region
          all_goals
            go_wp2
            go_roundw
            case rel => exact ⟨j + 1, by omega, by omega, by go_num, HF, rT', ⟨bel'.os, bel'.tape, bel'.output, bel'.size, bel'.block⟩⟩
            case measure => simp [intOf]; omega
        · obtain rfl : j = 15 := by omega
          have hnl : ¬ ((15 : Nat) : Int) < 15 := by omega
          have cT := rT.cell 15 (by omega)
          have cM := rM.cell 14 (by omega)
          have eM : dwnK t 15 14 = dffZ t 14 + carZ (dffZ t) 14 := by unfold dwnK; rw [if_neg (by omega), if_pos (by omega)]
          rw [eM] at cM
          have dM := rM.cell 15 (by omega)
          have fM := rM.frozen 15
          have lr := raw_le htr 14
          have lt := htr 15
          have hq := dff_car htr 15
          have HQ : carZ (dffZ t) 15 = (dffZ t 14 + carZ (dffZ t) 14) / 65536 := rfl
          have HD : digZ (dffZ t) 14 = (dffZ t 14 + carZ (dffZ t) 14) % 65536 := rfl
          have HV : topZ t = t 15 - 32767 + carZ (dffZ t) 15 := rfl
          have r1 := rM.set 15 (topZ t)
          have c15 := r1.1.cell 15 (by omega)
          simp only [if_true] at c15
          have c2 := r1.1.cell 14 (by omega)
          have e2 : (if 14 = 15 then topZ t else dwnK t 15 14) = dffZ t 14 + carZ (dffZ t) 14 := by rw [if_neg (by omega), eM]
          rw [e2] at c2
          have f2 := r1.1.frozen 14
          have r2 := r1.1.set 14 (digZ (dffZ t) 14)
          have HF : RowZ 125 16 _ w.heap.size GM (fun i => if i = 15 then topZ t else digZ (dffZ t) i) := r2.1.congr fun i hi => by
            by_cases a1 : i = 14
            · subst a1
              rw [if_pos rfl, if_neg (by omega)]
            · rw [if_neg a1]
              by_cases a2 : i = 15
              · rw [if_pos a2, if_pos a2]
              · rw [if_neg a2, if_neg a2]
                unfold dwnK
                rw [if_pos (by omega)]
          have rT' := (rT.kept r1.2 hneM).kept r2.2 hneM
          have bel' := (bel.grown r1.2 bel.size (fun k hk => by cases hk; exact hloM)).grown r2.2 (Nat.le_trans bel.size r1.2.size) (fun k hk => by cases hk; exact hloM)
          have HN : topZ t < 0 → lssZ t = t := fun h => by funext i; rw [lssZ, if_pos h]
          have HP : ¬ topZ t < 0 → lssZ t = fun i => if i = 15 then topZ t else digZ (dffZ t) i := fun h => by funext i; rw [lssZ, if_neg h]
          obtain ⟨F, hF⟩ : ∃ F : Nat → Int, F = fun i => if i = 15 then topZ t else digZ (dffZ t) i := ⟨_, rfl⟩
          rw [← hF] at HF
          simp only [← hF] at HP
          clear hF
          rw [HD] at rT' bel' HF
          obtain ⟨tp, htp⟩ : ∃ tp, tp = topZ t := ⟨_, rfl⟩
          rw [← htp] at HV rT' bel' HF c15 c2 f2 HN HP
          rw [HQ] at hq HV
          obtain ⟨u, hu⟩ : ∃ u, u = dffZ t 14 + carZ (dffZ t) 14 := ⟨_, rfl⟩
          rw [← hu] at cM lr hq HV rT' bel' HF c2
          obtain ⟨x, hx⟩ : ∃ x, x = t 15 := ⟨_, rfl⟩
          rw [← hx] at cT lt HV
          obtain ⟨x', hx'⟩ : ∃ x', x' = x - 32767 := ⟨_, rfl⟩
          have ex : x - 32767 = x' := hx'.symm
          obtain ⟨q, hqe⟩ : ∃ q, q = u / 65536 := ⟨_, rfl⟩
          have eq : u / 65536 = q := hqe.symm
          obtain ⟨b, hb'⟩ : ∃ b, b = q % 2 := ⟨_, rfl⟩
          have eb := and_1Z q
          rw [← hb'] at eb
          have ev : x' - b = tp := by omega
          obtain ⟨s5, hs5⟩ : ∃ s5, s5 = tp / 65536 := ⟨_, rfl⟩
          have es5 : tp / 65536 = s5 := hs5.symm
          obtain ⟨b5, hb5⟩ : ∃ b5, b5 = s5 % 2 := ⟨_, rfl⟩
          have eb5 := and_1Z s5
          rw [← hb5] at eb5
          have ed := and_65535Z u
          obtain ⟨d, hd⟩ : ∃ d, d = u % 65536 := ⟨_, rfl⟩
          rw [← hd] at ed HF rT' bel'
          have lx' : -32767 ≤ x' ∧ x' ≤ 32768 := by omega
          have lb : 0 ≤ b ∧ b ≤ 1 := by omega
          have ltp : -32768 ≤ tp ∧ tp ≤ 32768 := by omega
          by_cases hbl : tp < 0
          · have z5 : b5 = 1 := by omega
            have HE := HN hbl
            rw [HI.out] at HE
            subst z5
            clear r1 r2 rM rT bel HQ HD HV eM e2 hu hx hx' hqe hb' hd hs5 hb5 htp HN HP
            go_wp2_with (fail)
            go_roundw
            case rel => exact ⟨k + 1, by omega, by go_num, by rw [HE]; exact rT', bel'⟩
            case measure => simp [intOf]; omega
          · have z5 : b5 = 0 := by omega
            have HE := HP hbl
            rw [HI.out] at HE
            subst z5
            have hrF := HF.range
            have hf1 := (HSZ.out F).1
            have hf2 := (HSZ.out F).2.1
            have hf3 := (HSZ.out F).2.2
            have hoF := zV_one F 16
            have pF := rT'.put (f' := F)
            have hthF := rT'.there
            rw [← hf3] at hthF
            have bel9 := bel'.grown pF.2 bel'.size (fun k hk => by cases hk; exact hloT)
            have rT9 := pF.1
            obtain ⟨Fs, hFs⟩ : ∃ Fs, Fs = zV F 16 := ⟨_, rfl⟩
            rw [← hFs] at hrF hf1 hf2 hoF hthF bel9 rT9
            clear r1 r2 rM rT bel HQ HD HV eM e2 hu hx hx' hqe hb' hd hs5 hb5 htp HN HP pF hf3 hFs HF rT' bel'
            go_wp2_with (first | (refine wpList_load_mid rfl 125 _ rfl GM 0 rfl Fs _ hrF Tryz.underlying125 rfl hf1 ?_) | (refine wpList_store_mid rfl 125 _ _ rfl GT 0 Fs.toArray rfl rfl hthF hf2 (all_oneCell_toArray hoF) ?_))
            go_roundw
            case rel => exact ⟨k + 1, by omega, by go_num, by rw [HE]; exact rT9, bel9⟩
            case measure => simp [intOf]; omega
    · obtain rfl : k = 2 := by omega
      have hnl : ¬ ((2 : Nat) : Int) < 2 := by omega
      have htr := itZ_range hT 2
      obtain ⟨t, ht⟩ : ∃ t, t = itZ T 2 := ⟨_, rfl⟩
      rw [← ht] at rT htr
      replace ht : Hid (t = itZ T 2) := ht
      obtain ⟨j0, hj, hy0, hy1, hy2⟩ := info_parts infoByte
      have hsw := bel.size
      have hown0 : (wr.alloc (.cells #[] 5)).ownsRow wr.heap.size 5 1 (.slice (some ⟨wr.heap.size, 0, none⟩) 0 0) 0 ((prtB t 0).map (Value.int .u8)) := World.ownsRow_made wr #[] 0 (Nat.le_refl _) (by unfold maxLen; omega) rfl
      have hb0 : Below wr.heap.size wr (wr.alloc (.cells #[] 5)) := (Below.refl _ _).alloc (Nat.le_refl _) _
      have hlT := rT.lt.2
      have HC : Hid (∀ X i, i < 16 → Below wr.heap.size wr X → X.cell? ⟨GT, i, none⟩ = some (.int .i64 (t i))) := fun X i hi hX => (rT.below hX).cell i hi
      clear rT
      go_wp2_with (fail)
      obtain ⟨wo, hwo⟩ : ∃ wo, wo = wr := ⟨_, rfl⟩
      subst hwo
      go_loopw [8, 9] (fun v i wx => ∃ (k : Nat) (q : Option Addr) (cc : Nat), k ≤ 16 ∧ i = .int .i64 k ∧ v = .slice q (2 * k) cc ∧ wx.ownsRow wo.heap.size 5 1 (.slice q (2 * k) cc) (2 * k) ((prtB t k).map (Value.int .u8)) ∧ Below wo.heap.size wo wx)
        (fun _ i _ => 16 - (intOf i).toNat)
      case atStart => exact ⟨0, _, 0, by omega, rfl, rfl, hown0, hb0⟩
      case round =>
        clear hown0 hb0
        obtain ⟨k, q, cc, hk, rfl, rfl, hown, hbel⟩ := hrel
        by_cases hlt : k < 16
        · have hlt' : (k : Int) < 16 := by omega
          have HS : Hid (prtB t k ++ [t k % 256, t k / 256 % 256] = prtB t (k + 1)) := prtB_step t k
          have hx := htr k
          have hT0 := HC.out wr.drew k hlt (below_on hbel ((Below.refl _ _).drew))
          replace hown := owns_below hown (Below.refl wr.heap.size wr).drew
          replace hbel := below_on hbel ((Below.refl wr.heap.size wr).drew)
          have HK : Hid (∀ X, Below wo.heap.size wo X → X.cell? ⟨GT, k, none⟩ = some (.int .i64 (t k))) := fun X hX => HC.out X k hlt hX
          generalize t k = x at HS hx hT0 HK
          obtain ⟨lo, hlo⟩ : ∃ lo, lo = x % 256 := ⟨_, rfl⟩
          obtain ⟨x8, hx8⟩ : ∃ x8, x8 = x / 256 := ⟨_, rfl⟩
          have ex8 : x / 256 = x8 := hx8.symm
          obtain ⟨hi', hhi⟩ : ∃ hi', hi' = x8 % 256 := ⟨_, rfl⟩
          have ea := and_255Z x
          have eb := and_255Z x8
          rw [← hlo] at ea HS
          rw [← hhi] at eb
          rw [← hx8, ← hhi] at HS
          have llo : 0 ≤ lo ∧ lo < 256 := by omega
          have lhi : 0 ≤ hi' ∧ hi' < 256 := by omega
          have wl : IntKind.u8.wrap lo = lo := by rw [IntKind.wrap_u8]; omega
          have wh : IntKind.u8.wrap hi' = hi' := by rw [IntKind.wrap_u8]; omega
          have ml : lo % 256 = lo := by omega
          have mh : hi' % 256 = hi' := by omega
          have h2k : 2 * (k + 1) = 2 * k + 2 := by omega
          clear hlo hx8 hhi
          go_wp2_with (fail)
          refine wp_region_noPanic ?_
          refine wp_region_T 15 (fun X => X.cell? ⟨GT, k, none⟩ = some (.int .i64 x)) (fun _ => True) (by kernel_rfl) ?_
          generalize wr.drew = wX at hown hbel hT0 ⊢
          refine anyT_takeT (i := 0) (v := .slice q (2 * k) cc) rfl (by kernel_rfl) (by kernel_rfl) (by kernel_rfl) (by kernel_rfl) (fun _ _ _ h => h) (Or.inl ⟨by rfl, fun X _ => by go_simp⟩) hT0 (fun _ => trivial) ?_
          simp only [Act.put, List.getElem_toArray, List.getElem_cons_zero, List.setIfInBounds_toArray, List.set_cons_zero, List.set_cons_succ]
          refine anyT_takeT (i := 1) (v := .int .i64 (k : Int)) rfl (by kernel_rfl) (by kernel_rfl) (by kernel_rfl) (by kernel_rfl) (fun _ _ _ h => h) (Or.inl ⟨by rfl, fun X _ => by go_simp⟩) hT0 (fun _ => trivial) ?_
          simp only [Act.put, List.getElem_toArray, List.getElem_cons_zero, List.getElem_cons_succ, List.setIfInBounds_toArray, List.set_cons_zero, List.set_cons_succ]
          refine anyT_takeT (i := 2) (v := .pointer (some ⟨GT, k, none⟩)) rfl (by kernel_rfl) (by kernel_rfl) (by kernel_rfl) (by kernel_rfl) (fun _ _ _ h => h) (Or.inl ⟨by rfl, fun X _ => by go_simp⟩) hT0 (fun _ => trivial) ?_
          simp only [Act.put, List.getElem_toArray, List.getElem_cons_zero, List.getElem_cons_succ, List.setIfInBounds_toArray, List.set_cons_zero, List.set_cons_succ]
          refine anyT_takeT (i := 3) (v := .int .i64 x) rfl (by kernel_rfl) (by kernel_rfl) (by kernel_rfl) (by kernel_rfl) (fun _ _ _ h => h) (Or.inl ⟨by rfl, fun X hSw => by (try dsimp only at hSw); go_simp⟩) hT0 (fun _ => trivial) ?_
          simp only [Act.put, List.getElem_toArray, List.getElem_cons_zero, List.getElem_cons_succ, List.setIfInBounds_toArray, List.set_cons_zero, List.set_cons_succ]
          refine anyT_takeT (i := 4) (v := .int .i64 lo) rfl (by kernel_rfl) (by kernel_rfl) (by kernel_rfl) (by kernel_rfl) (fun _ _ _ h => h) (Or.inl ⟨by rfl, fun X _ => by go_simp⟩) hT0 (fun _ => trivial) ?_
          simp only [Act.put, List.getElem_toArray, List.getElem_cons_zero, List.getElem_cons_succ, List.setIfInBounds_toArray, List.set_cons_zero, List.set_cons_succ]
          refine anyT_takeT (i := 5) (v := .int .u8 lo) rfl (by kernel_rfl) (by kernel_rfl) (by kernel_rfl) (by kernel_rfl) (fun _ _ _ h => h) (Or.inl ⟨by rfl, fun X _ => by go_simp⟩) hT0 (fun _ => trivial) ?_
          simp only [Act.put, List.getElem_toArray, List.getElem_cons_zero, List.getElem_cons_succ, List.setIfInBounds_toArray, List.set_cons_zero, List.set_cons_succ]
          refine anyT_takeT (i := 6) (v := .int .i64 (k : Int)) rfl (by kernel_rfl) (by kernel_rfl) (by kernel_rfl) (by kernel_rfl) (fun _ _ _ h => h) (Or.inl ⟨by rfl, fun X _ => by go_simp⟩) hT0 (fun _ => trivial) ?_
          simp only [Act.put, List.getElem_toArray, List.getElem_cons_zero, List.getElem_cons_succ, List.setIfInBounds_toArray, List.set_cons_zero, List.set_cons_succ]
          refine anyT_takeT (i := 7) (v := .pointer (some ⟨GT, k, none⟩)) rfl (by kernel_rfl) (by kernel_rfl) (by kernel_rfl) (by kernel_rfl) (fun _ _ _ h => h) (Or.inl ⟨by rfl, fun X _ => by go_simp⟩) hT0 (fun _ => trivial) ?_
          simp only [Act.put, List.getElem_toArray, List.getElem_cons_zero, List.getElem_cons_succ, List.setIfInBounds_toArray, List.set_cons_zero, List.set_cons_succ]
          refine anyT_takeT (i := 8) (v := .int .i64 x) rfl (by kernel_rfl) (by kernel_rfl) (by kernel_rfl) (by kernel_rfl) (fun _ _ _ h => h) (Or.inl ⟨by rfl, fun X hSw => by (try dsimp only at hSw); go_simp⟩) hT0 (fun _ => trivial) ?_
          simp only [Act.put, List.getElem_toArray, List.getElem_cons_zero, List.getElem_cons_succ, List.setIfInBounds_toArray, List.set_cons_zero, List.set_cons_succ]
          refine anyT_takeT (i := 9) (v := .int .i64 x8) rfl (by kernel_rfl) (by kernel_rfl) (by kernel_rfl) (by kernel_rfl) (fun _ _ _ h => h) (Or.inl ⟨by rfl, fun X _ => by go_simp⟩) hT0 (fun _ => trivial) ?_
          simp only [Act.put, List.getElem_toArray, List.getElem_cons_zero, List.getElem_cons_succ, List.setIfInBounds_toArray, List.set_cons_zero, List.set_cons_succ]
          refine anyT_takeT (i := 10) (v := .int .i64 hi') rfl (by kernel_rfl) (by kernel_rfl) (by kernel_rfl) (by kernel_rfl) (fun _ _ _ h => h) (Or.inl ⟨by rfl, fun X _ => by go_simp⟩) hT0 (fun _ => trivial) ?_
          simp only [Act.put, List.getElem_toArray, List.getElem_cons_zero, List.getElem_cons_succ, List.setIfInBounds_toArray, List.set_cons_zero, List.set_cons_succ]
          refine anyT_takeT (i := 11) (v := .int .u8 hi') rfl (by kernel_rfl) (by kernel_rfl) (by kernel_rfl) (by kernel_rfl) (fun _ _ _ h => h) (Or.inl ⟨by rfl, fun X _ => by go_simp⟩) hT0 (fun _ => trivial) ?_
          simp only [Act.put, List.getElem_toArray, List.getElem_cons_zero, List.getElem_cons_succ, List.setIfInBounds_toArray, List.set_cons_zero, List.set_cons_succ]
          have bB : Below wX.heap.size wX (wX.alloc (.cells #[.int .u8 lo, .int .u8 hi'] 5)) := (Below.refl _ _).alloc (Nat.le_refl _) _
          have hT1 := HK.out _ (below_on hbel bB)
          refine anyT_one (i := 12) (by kernel_rfl) rfl (fun K hK => ?_)
          go_simp
          refine hK.out _ _ hT1 (fun _ => trivial) ?_
          clear hK K
          have hin2 : BytesIn (wX.alloc (.cells #[.int .u8 lo, .int .u8 hi'] 5)) (some ⟨wX.heap.size, 0, none⟩) 2 [lo, hi'] := owns_in (base := wX.heap.size) (e := 5) (c := 2) ⟨rfl, .inr ⟨wX.heap.size, 2, _, rfl, Nat.le_refl _, heap_alloc_new wX _, Nat.le_refl _, by unfold maxLen; omega, rfl, rfl⟩⟩
          have hsz2 := (below_on hbel bB).size
          refine anyT_one (i := 13) (by kernel_rfl) rfl (fun K hK => ?_)
          refine step_spread hj hy0 hy1 hy2 (.tmp 74) (.tmp 86) 22 Tryz.underlying22 (owns_below hown bB) hin2 rfl (by decide) (by omega) (by omega) hsz2 (by rfl) (by rfl) (by rfl) (by rfl) ?_
          intro gn cn wn ho hgn hbn
          rw [HS.out, ← h2k] at ho
          have hbel' := (below_on hbel bB).trans hbn
          refine hK.out _ _ (HK.out _ hbel') (fun _ => trivial) ?_
          clear hK K
          have hT0 := HK.out _ hbel'
          try rw [← h2k]
          refine anyT_takeT (i := 14) (v := .slice (some ⟨gn, 0, none⟩) (2 * (k + 1)) cn) rfl (by kernel_rfl) (by kernel_rfl) (by kernel_rfl) (by kernel_rfl) (fun _ _ _ h => h) (Or.inl ⟨by rfl, fun X _ => by go_simp⟩) hT0 (fun _ => trivial) ?_
          simp only [Act.put, List.getElem_toArray, List.getElem_cons_zero, List.getElem_cons_succ, List.setIfInBounds_toArray, List.set_cons_zero, List.set_cons_succ]
          refine anyT_done (by kernel_rfl) ?_ _
          refine NoPanic.normal ?_
          clear hT0 hT1 hown hin2 bB hbel
          go_wp2_with (fail)
          go_roundw
          case rel => exact ⟨k + 1, _, cn, by omega, by go_num, rfl, ho, hbel'⟩
          case measure => simp [intOf]; omega
        · obtain rfl : k = 16 := by omega
          have hno : ¬ ((16 : Nat) : Int) < 16 := by omega
          go_wp2_with (fail)
          go_ret
          rw [ht.out] at hown
          exact ⟨_, _, rfl, .of (owns_mono hown hsw), below_on bel hbel⟩
def numF (xs : List Int) : Int := valZ (ofZ xs) 16
def two32 (n m : Nat) : Prop := n = 32 ∧ m = 32
instance (n m : Nat) : Decidable (two32 n m) := inferInstanceAs (Decidable (_ ∧ _))
def fldN (n m : Nat) : Nat := if two32 n m then 32 else 0
def fldL (z : Int) (n m : Nat) : List Int := if two32 n m then numB (z % fldP) else []
theorem fldN_le (n m : Nat) : fldN n m ≤ 32 := by unfold fldN; split <;> omega
theorem numB_length (z : Int) : (numB z).length = 32 := rfl
theorem numB_byte (z : Int) : ∀ y ∈ numB z, 0 ≤ y ∧ y < 256 := by
  intro y hy
  simp only [numB, List.mem_flatMap, List.mem_cons, List.not_mem_nil, or_false] at hy
  obtain ⟨i, _, h | h⟩ := hy <;> omega
theorem fldL_byte (z : Int) (n m : Nat) : ∀ y ∈ fldL z n m, 0 ≤ y ∧ y < 256 := by
  unfold fldL
  split
  · exact numB_byte _
  · intro y hy; cases hy
theorem okZ_wide {f : Nat → Int} (h : okZ f) : (∀ i, -140737488355328 ≤ f i) ∧ ∀ i, f i ≤ 140737488355328 := ⟨fun i => by have := h i; omega, fun i => by have := h i; omega⟩
theorem invE_val : (fldP - 2).toNat = invE 254 := by
  have := invE_last
  omega
def oneN (n : Nat) : Nat := if n = 32 then 32 else 0
def oneL (z : Int) (n : Nat) : List Int := if n = 32 then numB (z % fldP) else []
theorem oneL_length (z : Int) (n : Nat) : (oneL z n).length = oneN n := by
  unfold oneL oneN
  split
  · exact numB_length _
  · rfl
theorem oneL_byte (z : Int) (n : Nat) : ∀ y ∈ oneL z n, 0 ≤ y ∧ y < 256 := by
  unfold oneL
  split
  · exact numB_byte _
  · intro y hy; cases hy
end Go.Proofs.YtnpffnhiefgglaaGreatDoor
namespace Go.Proofs.YtnpffnhiefgglaaGreatDoor
set_option maxRecDepth 100000
def IsPrime (n : Nat) : Prop := 2 ≤ n ∧ ∀ d, d ∣ n → d = 1 ∨ d = n
def prodL : List Nat → Nat
  | [] => 1
  | a :: l => a * prodL l
section
variable {N g : Nat}
end
def powM (N : Nat) : Nat → Nat → Nat → Nat → Nat
  | 0, _, _, acc => acc
  | f + 1, e, b, acc => powM N f (e / 2) (b * b % N) (if e % 2 = 1 then acc * b % N else acc)
def prattB (N g f : Nat) (l : List Nat) : Bool := prodL l == N - 1 && powM N f (N - 1) g 1 % N == 1 && l.all (fun q => powM N f ((N - 1) / q) g 1 % N != 1) && decide (N ≤ 2 ^ f) && decide (2 ≤ N)
def trialB (n k : Nat) : Bool := decide (2 ≤ n) && decide (n < k * k) && (List.range k).all fun d => decide (d < 2) || decide (n ≤ d) || n % d != 0
theorem numB_lo (z : Int) (i : Nat) (hi : i < 16) : (numB z).getD (2 * i) 0 = z / 65536 ^ i % 65536 % 256 := by
  have h : i = 0 ∨ i = 1 ∨ i = 2 ∨ i = 3 ∨ i = 4 ∨ i = 5 ∨ i = 6 ∨ i = 7 ∨ i = 8 ∨ i = 9 ∨ i = 10 ∨ i = 11 ∨ i = 12 ∨ i = 13 ∨ i = 14 ∨ i = 15 := by omega
  rcases h with rfl | rfl | rfl | rfl | rfl | rfl | rfl | rfl | rfl | rfl | rfl | rfl | rfl | rfl | rfl | rfl <;> rfl
theorem numB_hi (z : Int) (i : Nat) (hi : i < 16) : (numB z).getD (2 * i + 1) 0 = z / 65536 ^ i % 65536 / 256 % 256 := by
  have h : i = 0 ∨ i = 1 ∨ i = 2 ∨ i = 3 ∨ i = 4 ∨ i = 5 ∨ i = 6 ∨ i = 7 ∨ i = 8 ∨ i = 9 ∨ i = 10 ∨ i = 11 ∨ i = 12 ∨ i = 13 ∨ i = 14 ∨ i = 15 := by omega
  rcases h with rfl | rfl | rfl | rfl | rfl | rfl | rfl | rfl | rfl | rfl | rfl | rfl | rfl | rfl | rfl | rfl <;> rfl
theorem parts_val (z : Int) : ∀ n, valZ (fun i => z / 65536 ^ i % 65536) n = z % 65536 ^ n
  | 0 => by simp [valZ, Int.emod_one]
  | n + 1 => by
    have hp := powZ_pos n
    rw [valZ, parts_val z n, Int.pow_succ]
    have h1 := Int.mul_ediv_add_emod z (65536 ^ n)
    have h2 := Int.mul_ediv_add_emod (z / 65536 ^ n) 65536
    have e : z = (65536 ^ n * 65536) * (z / 65536 ^ n / 65536) + (z % 65536 ^ n + z / 65536 ^ n % 65536 * 65536 ^ n) := by
      have : 65536 ^ n * (z / 65536 ^ n) = 65536 ^ n * (65536 * (z / 65536 ^ n / 65536)) + 65536 ^ n * (z / 65536 ^ n % 65536) := by rw [← Int.mul_add, h2]
      rw [Int.mul_assoc, Int.mul_comm (z / 65536 ^ n % 65536)]
      omega
    have r1 : 0 ≤ z % 65536 ^ n := Int.emod_nonneg _ (by omega)
    have r2 : z % 65536 ^ n < 65536 ^ n := Int.emod_lt_of_pos _ hp
    have r3 : 0 ≤ z / 65536 ^ n % 65536 := by omega
    have r4 : z / 65536 ^ n % 65536 ≤ 65535 := by omega
    have r5 : 0 ≤ z / 65536 ^ n % 65536 * 65536 ^ n := Int.mul_nonneg r3 (by omega)
    have r6 : z / 65536 ^ n % 65536 * 65536 ^ n ≤ 65535 * 65536 ^ n := Int.mul_le_mul_of_nonneg_right r4 (by omega)
    have k : z % (65536 ^ n * 65536) = (65536 ^ n * 65536 * (z / 65536 ^ n / 65536) + (z % 65536 ^ n + z / 65536 ^ n % 65536 * 65536 ^ n)) % (65536 ^ n * 65536) := congrArg (fun x => x % (65536 ^ n * 65536)) e
    rw [Int.mul_add_emod_self_left, Int.emod_eq_of_lt (a := z % 65536 ^ n + z / 65536 ^ n % 65536 * 65536 ^ n) (by omega) (by omega)] at k
    exact k.symm
theorem numF_numB {z : Int} (h0 : 0 ≤ z) (h1 : z < fldP) : numF (numB z) = z := by
  have hb : (65536 : Int) ^ 16 = 65536 * 65536 ^ 15 := by decide
  have hP : fldP < 32768 * 65536 ^ 15 := by decide
  have h15 : z / 65536 ^ 15 < 32768 := Int.ediv_lt_of_lt_mul (by decide) (by omega)
  have h15' : 0 ≤ z / 65536 ^ 15 := Int.ediv_nonneg h0 (by decide)
  have e : valZ (ofZ (numB z)) 16 = valZ (fun i => z / 65536 ^ i % 65536) 16 := valZ_congr fun i hi => by
    have hp : pairZ (numB z) i = z / 65536 ^ i % 65536 := by
      unfold pairZ
      rw [numB_lo z i hi, numB_hi z i hi]
      omega
    unfold ofZ
    split
    · rename_i h
      subst h
      rw [hp]
      omega
    · exact hp
  rw [numF, e, parts_val, Int.emod_eq_of_lt h0 (by rw [hb]; omega)]
theorem fldP_pos : 0 < fldP := by decide
/-! ### what follows -/
theorem left_mul (x y : Int) : (x % fldP * y) % fldP = (x * y) % fldP := ((likeP_mod x).mulR y).mod
theorem right_mul (x y : Int) : (x * (y % fldP)) % fldP = (x * y) % fldP := ((likeP_mod y).mulL x).mod
theorem like_pow {a b : Int} (h : likeP a b) : ∀ n, likeP (a ^ n) (b ^ n)
  | 0 => by rw [Int.pow_zero, Int.pow_zero]; exact likeP.refl _
  | n + 1 => by rw [Int.pow_succ, Int.pow_succ]; exact (like_pow h n).mul h
theorem left_pow (x : Int) (n : Nat) : ((x % fldP) ^ n) % fldP = (x ^ n) % fldP := (like_pow (likeP_mod x) n).mod
def smZ (f : Nat → Int) : Prop := ∀ i, -65600 ≤ f i ∧ f i ≤ 65600
theorem mulZ_sm {a b : Nat → Int} (ha : okZ a) (hb : okZ b) : smZ (mulZ a b) := fun i => by
  have h := cry_twice (f := fldZ (rwsZ a b 16)) (fun i => (fldZ_le ha hb i).1) (fun i => (fldZ_le ha hb i).2)
  by_cases hi : i = 0
  · subst hi
    have h1 : mulZ a b 0 = cryZ (cryZ (fldZ (rwsZ a b 16))) 0 := rfl
    omega
  · have h1 := h.1 i hi
    have h2 : mulZ a b i = cryZ (cryZ (fldZ (rwsZ a b 16))) i := rfl
    omega
theorem smZ.ok {f : Nat → Int} (h : smZ f) : okZ f := fun i => by have := h i; omega
def addZ (f g : Nat → Int) (i : Nat) : Int := f i + g i
def subZ (f g : Nat → Int) (i : Nat) : Int := f i - g i
theorem add_ok {f g : Nat → Int} (h : smZ f) (k : smZ g) : okZ (addZ f g) := fun i => by have := h i; have := k i; unfold addZ; omega
theorem sub_ok {f g : Nat → Int} (h : smZ f) (k : smZ g) : okZ (subZ f g) := fun i => by have := h i; have := k i; unfold subZ; omega
theorem val_addZ (f g : Nat → Int) : valZ (addZ f g) 16 = valZ f 16 + valZ g 16 := valZ_add f g 16
theorem val_subZ (f g : Nat → Int) : valZ (subZ f g) 16 = valZ f 16 - valZ g 16 := valZ_sub f g 16
structure Lad where
  a : Int
  b : Int
  c : Int
  d : Int
def ladEE (s : Lad) : Int := (s.a + s.c) * (s.a + s.c)
def ladFF (s : Lad) : Int := (s.a - s.c) * (s.a - s.c)
def ladHE (s : Lad) : Int := (s.b - s.d) * (s.a + s.c)
def ladGF (s : Lad) : Int := (s.b + s.d) * (s.a - s.c)
def ladStep (x : Int) (s : Lad) : Lad := ⟨ladEE s * ladFF s, (ladHE s + ladGF s) * (ladHE s + ladGF s), (ladEE s - ladFF s) * (ladEE s + (ladEE s - ladFF s) * 121665), x * ((ladHE s - ladGF s) * (ladHE s - ladGF s))⟩
def ladSw (s : Lad) : Lad := ⟨s.b, s.a, s.d, s.c⟩
def ladIf (t : Bool) (s : Lad) : Lad := if t then ladSw s else s
def likeL (s t : Lad) : Prop := likeP s.a t.a ∧ likeP s.b t.b ∧ likeP s.c t.c ∧ likeP s.d t.d
theorem likeL.ladIf {s t : Lad} (h : likeL s t) (b : Bool) : likeL (ladIf b s) (ladIf b t) := by
  unfold Go.Proofs.YtnpffnhiefgglaaGreatDoor.ladIf
  cases b
  · exact h
  · exact ⟨h.2.1, h.1, h.2.2.2, h.2.2.1⟩
theorem like_EE {s t : Lad} (h : likeL s t) : likeP (ladEE s) (ladEE t) := (h.1.add h.2.2.1).mul (h.1.add h.2.2.1)
theorem like_FF {s t : Lad} (h : likeL s t) : likeP (ladFF s) (ladFF t) := (h.1.sub h.2.2.1).mul (h.1.sub h.2.2.1)
theorem like_HE {s t : Lad} (h : likeL s t) : likeP (ladHE s) (ladHE t) := (h.2.1.sub h.2.2.2).mul (h.1.add h.2.2.1)
theorem like_GF {s t : Lad} (h : likeL s t) : likeP (ladGF s) (ladGF t) := (h.2.1.add h.2.2.2).mul (h.1.sub h.2.2.1)
theorem like_step {x y : Int} {s t : Lad} (hx : likeP x y) (h : likeL s t) : likeL (ladStep x s) (ladStep y t) :=
  ⟨(like_EE h).mul (like_FF h), ((like_HE h).add (like_GF h)).mul ((like_HE h).add (like_GF h)), ((like_EE h).sub (like_FF h)).mul ((like_EE h).add (((like_EE h).sub (like_FF h)).mulR _)), hx.mul (((like_HE h).sub (like_GF h)).mul ((like_HE h).sub (like_GF h)))⟩
def ladN (bit : Nat → Bool) (x : Int) : Nat → Lad
  | 0 => ⟨1, x, 0, 1⟩
  | n + 1 => ladStep x (ladIf (bit (254 - n) != (if n = 0 then false else bit (255 - n))) (ladN bit x n))
def lastB (bit : Nat → Bool) (n : Nat) : Bool := if n = 0 then false else bit (255 - n)
def ladE (bit : Nat → Bool) (x : Int) : Lad := ladIf (bit 0) (ladN bit x 255)
def ladZ (bit : Nat → Bool) (x : Int) : Int := (ladE bit x).a * (ladE bit x).c ^ (fldP - 2).toNat % fldP
theorem ladN_like {x y : Int} (hx : likeP x y) (bit : Nat → Bool) : ∀ n, likeL (ladN bit x n) (ladN bit y n)
  | 0 => ⟨likeP.refl _, hx, likeP.refl _, likeP.refl _⟩
  | n + 1 => like_step hx ((ladN_like hx bit n).ladIf _)
theorem ladZ_of {s : Lad} {bit : Nat → Bool} {x : Int} (h : likeL s (ladE bit x)) : s.a * s.c ^ (fldP - 2).toNat % fldP = ladZ bit x := (h.1.mul (like_pow h.2.2.1 _)).mod
theorem ladZ_like {x y : Int} (hx : likeP x y) (bit : Nat → Bool) : ladZ bit x = ladZ bit y := ladZ_of ((ladN_like hx bit 255).ladIf _)
/-! ### the ladder by numbers of 16 parts -/
structure Az where
  a : Nat → Int
  b : Nat → Int
  c : Nat → Int
  d : Nat → Int
def azVal (s : Az) : Lad := ⟨valZ s.a 16, valZ s.b 16, valZ s.c 16, valZ s.d 16⟩
def azOk (s : Az) : Prop := smZ s.a ∧ smZ s.b ∧ smZ s.c ∧ smZ s.d
def azSw (s : Az) : Az := ⟨s.b, s.a, s.d, s.c⟩
def azIf (t : Bool) (s : Az) : Az := if t then azSw s else s
theorem azIf_val (t : Bool) (s : Az) : azVal (azIf t s) = ladIf t (azVal s) := by cases t <;> rfl
theorem azIf_ok {t : Bool} {s : Az} (h : azOk s) : azOk (azIf t s) := by
  cases t
  · exact h
  · exact ⟨h.2.1, h.1, h.2.2.2, h.2.2.1⟩
def oneAt (v : Int) (i : Nat) : Int := if i = 0 then v else 0
def mZ (i : Nat) : Int := if i = 0 then 56129 else if i = 1 then 1 else 0
theorem mZ_val : valZ mZ 16 = 121665 := by decide
theorem mZ_sm : smZ mZ := fun i => by
  unfold mZ
  split
  · omega
  · split <;> omega
theorem oneAt_val (v : Int) : valZ (oneAt v) 16 = v := by
  have h := valZ_split (oneAt v) 1 15
  have e : valZ (fun i => oneAt v (1 + i)) 15 = 0 := by
    have e0 : valZ (fun i => oneAt v (1 + i)) 15 = valZ (fun _ => 0) 15 := valZ_congr fun i _ => by rw [oneAt, if_neg (by omega)]
    rw [e0, valZ_zero]
  rw [e] at h
  have h2 : valZ (oneAt v) 1 = v := by simp [valZ, oneAt]
  show valZ (oneAt v) (1 + 15) = v
  rw [h, h2]
  omega
theorem oneAt_sm {v : Int} (h0 : 0 ≤ v) (h1 : v ≤ 65535) : smZ (oneAt v) := fun i => by unfold oneAt; split <;> omega
def azEE (s : Az) : Nat → Int := mulZ (addZ s.a s.c) (addZ s.a s.c)
def azFF (s : Az) : Nat → Int := mulZ (subZ s.a s.c) (subZ s.a s.c)
def azHE (s : Az) : Nat → Int := mulZ (subZ s.b s.d) (addZ s.a s.c)
def azGF (s : Az) : Nat → Int := mulZ (addZ s.b s.d) (subZ s.a s.c)
def azW (s : Az) : Nat → Int := subZ (azEE s) (azFF s)
def azStep (x : Nat → Int) (s : Az) : Az := ⟨mulZ (azEE s) (azFF s), mulZ (addZ (azHE s) (azGF s)) (addZ (azHE s) (azGF s)), mulZ (azW s) (addZ (azEE s) (mulZ (azW s) mZ)), mulZ x (mulZ (subZ (azHE s) (azGF s)) (subZ (azHE s) (azGF s)))⟩
theorem azEE_sm {s : Az} (h : azOk s) : smZ (azEE s) := mulZ_sm (add_ok h.1 h.2.2.1) (add_ok h.1 h.2.2.1)
theorem azFF_sm {s : Az} (h : azOk s) : smZ (azFF s) := mulZ_sm (sub_ok h.1 h.2.2.1) (sub_ok h.1 h.2.2.1)
theorem azHE_sm {s : Az} (h : azOk s) : smZ (azHE s) := mulZ_sm (sub_ok h.2.1 h.2.2.2) (add_ok h.1 h.2.2.1)
theorem azGF_sm {s : Az} (h : azOk s) : smZ (azGF s) := mulZ_sm (add_ok h.2.1 h.2.2.2) (sub_ok h.1 h.2.2.1)
theorem azW_ok {s : Az} (h : azOk s) : okZ (azW s) := sub_ok (azEE_sm h) (azFF_sm h)
theorem azWM_sm {s : Az} (h : azOk s) : smZ (mulZ (azW s) mZ) := mulZ_sm (azW_ok h) mZ_sm.ok
theorem azStep_ok {x : Nat → Int} {s : Az} (hx : smZ x) (h : azOk s) : azOk (azStep x s) :=
  ⟨mulZ_sm (azEE_sm h).ok (azFF_sm h).ok, mulZ_sm (add_ok (azHE_sm h) (azGF_sm h)) (add_ok (azHE_sm h) (azGF_sm h)), mulZ_sm (azW_ok h) (add_ok (azEE_sm h) (azWM_sm h)), mulZ_sm hx.ok (mulZ_sm (sub_ok (azHE_sm h) (azGF_sm h)) (sub_ok (azHE_sm h) (azGF_sm h))).ok⟩
theorem like_mul2 {f g : Nat → Int} {u v : Int} (hf : likeP (valZ f 16) u) (hg : likeP (valZ g 16) v) : likeP (valZ (mulZ f g) 16) (u * v) := (like_mul f g).trans (hf.mul hg)
theorem like_add2 {f g : Nat → Int} {u v : Int} (hf : likeP (valZ f 16) u) (hg : likeP (valZ g 16) v) : likeP (valZ (addZ f g) 16) (u + v) := by rw [val_addZ]; exact hf.add hg
theorem like_sub2 {f g : Nat → Int} {u v : Int} (hf : likeP (valZ f 16) u) (hg : likeP (valZ g 16) v) : likeP (valZ (subZ f g) 16) (u - v) := by rw [val_subZ]; exact hf.sub hg
theorem azStep_like {x : Nat → Int} {y : Int} {s : Az} {t : Lad} (hx : likeP (valZ x 16) y) (h : likeL (azVal s) t) : likeL (azVal (azStep x s)) (ladStep y t) := by
  have hac := like_add2 h.1 h.2.2.1
  have sac := like_sub2 h.1 h.2.2.1
  have hbd := like_add2 h.2.1 h.2.2.2
  have sbd := like_sub2 h.2.1 h.2.2.2
  have ee := like_mul2 hac hac
  have ff := like_mul2 sac sac
  have he := like_mul2 sbd hac
  have gf := like_mul2 hbd sac
  have ww := like_sub2 ee ff
  have mm : likeP (valZ mZ 16) 121665 := by rw [mZ_val]; exact likeP.refl _
  exact ⟨like_mul2 ee ff, like_mul2 (like_add2 he gf) (like_add2 he gf), like_mul2 ww (like_add2 ee (like_mul2 ww mm)), like_mul2 hx (like_mul2 (like_sub2 he gf) (like_sub2 he gf))⟩
def azN (bit : Nat → Bool) (x : Nat → Int) : Nat → Az
  | 0 => ⟨oneAt 1, x, fun _ => 0, oneAt 1⟩
  | n + 1 => azStep x (azIf (bit (254 - n) != lastB bit n) (azN bit x n))
theorem azN_ok {x : Nat → Int} (hx : smZ x) (bit : Nat → Bool) : ∀ n, azOk (azN bit x n)
  | 0 => ⟨oneAt_sm (by decide) (by decide), hx, fun _ => ⟨by show (-65600 : Int) ≤ 0; omega, by show (0 : Int) ≤ 65600; omega⟩, oneAt_sm (by decide) (by decide)⟩
  | n + 1 => azStep_ok hx (azIf_ok (azN_ok hx bit n))
theorem azN_like (x : Nat → Int) (bit : Nat → Bool) : ∀ n, likeL (azVal (azN bit x n)) (ladN bit (valZ x 16) n)
  | 0 => by
    refine ⟨?_, likeP.refl _, ?_, ?_⟩
    · show likeP (valZ (oneAt 1) 16) 1
      rw [oneAt_val]; exact likeP.refl _
    · show likeP (valZ (fun _ => 0) 16) 0
      rw [valZ_zero]; exact likeP.refl _
    · show likeP (valZ (oneAt 1) 16) 1
      rw [oneAt_val]; exact likeP.refl _
  | n + 1 => by
    refine azStep_like (likeP.refl _) ?_
    rw [azIf_val]
    exact (azN_like x bit n).ladIf _
theorem az_point {x : Nat → Int} (bit : Nat → Bool) : (valZ (mulZ (azIf (bit 0) (azN bit x 255)).a (invZ (azIf (bit 0) (azN bit x 255)).c 254)) 16) % fldP = ladZ bit (valZ x 16) := by
  have h : likeL (azVal (azIf (bit 0) (azN bit x 255))) (ladE bit (valZ x 16)) := by
    rw [azIf_val]
    exact (azN_like x bit 255).ladIf _
  have hi := like_inv (azIf (bit 0) (azN bit x 255)).c 254
  rw [← invE_val] at hi
  have hm := (like_mul (azIf (bit 0) (azN bit x 255)).a (invZ (azIf (bit 0) (azN bit x 255)).c 254)).trans (hi.mulL _)
  rw [hm.mod]
  exact ladZ_of h
/-! ### clamped -/
def clampL (ks : List Int) : List Int := (ks.set 0 (ks.getD 0 0 / 8 * 8)).set 31 (ks.getD 31 0 % 64 + 64)
theorem clampL_byte {ks : List Int} (hb : ∀ x ∈ ks, 0 ≤ x ∧ x < 256) : ∀ x ∈ clampL ks, 0 ≤ x ∧ x < 256 := by
  intro x hx
  have h0 := byteZ hb 0
  have h1 := byteZ hb 31
  rcases List.mem_or_eq_of_mem_set hx with h | h
  · rcases List.mem_or_eq_of_mem_set h with h | h
    · exact hb x h
    · omega
  · omega
def bitB (ks : List Int) (i : Nat) : Bool := decide ((ks.getD (i / 8) 0).toNat / 2 ^ (i % 8) % 2 = 1)
end Go.Proofs.YtnpffnhiefgglaaGreatDoor
