/-
  What the specification's l8Inv answers: a number to the power p less 2, as parts. Condition: parts that are not too great.
-/
import Derived.Test.YtghoibggmddkmanSpecMul
namespace Go.Proofs.Ytghoibggmddkman
open Go.RowKit

set_option maxRecDepth 100000 in
set_option maxHeartbeats 8000000 in
theorem l8Inv_any (f : Nat → Int) (w : World) (h1 : okZ f) :
    Calls Try.prog 30 #[.agg (zV f 16).toArray] w fun e w' => e = .returned (.agg (zV (invZ f 254) 16).toArray) ∧ Below w.heap.size w w' := by
  have hz := (zero_of_info infoZ16).1
  have hsz0 := (zero_of_info infoZ16).2
  have HSZ : Hid (∀ g : Nat → Int, (Try.prog.info? 31).map (·.size) = some (zV g 16).length ∧ (Try.prog.info? 31).map (·.size) = some (zV g 16).toArray.size ∧ (zV g 16).toArray.size = 16) := fun g => by
    have e : (zV g 16).toArray.size = 16 := by simp [zV_length]
    exact ⟨by rw [zV_length]; exact hsz0, by rw [e]; exact hsz0, e⟩
  have m0 := RowZ.made w 31 16 w.heap.size f (by decide) (Nat.le_refl _)
  obtain ⟨As, hAs⟩ : ∃ As, As = zV f 16 := ⟨_, rfl⟩
  have hoA := zV_one f 16
  have hsA := (HSZ.out f).1
  have hsA2 := (HSZ.out f).2.1
  have hsA3 := (HSZ.out f).2.2
  rw [← hAs] at m0 hoA hsA hsA2 hsA3 ⊢
  have ba : Below w.heap.size w (w.alloc (.cells As.toArray 31)) := (Below.refl _ _).alloc (Nat.le_refl _) _
  have sa : (w.alloc (.cells As.toArray 31)).heap.size = w.heap.size + 1 := by simp
  have HM : Hid (∀ (X : World) (n : Nat), n ≤ X.heap.size → RowZ 31 16 (X.alloc (.cells (zV (fun _ => 0) 16).toArray 31)) n X.heap.size (fun _ => 0)) := fun X n hX => RowZ.made X 31 16 n (fun _ => 0) (by decide) hX
  obtain ⟨Z, hZ⟩ : ∃ Z, Z = (zV (fun _ => 0) 16).toArray := ⟨_, rfl⟩
  rw [← hZ] at hz
  simp only [← hZ] at HM
  clear hZ
  have m1 := HM.out (w.alloc (.cells As.toArray 31)) w.heap.size (by omega)
  have bb : Below (w.alloc (.cells As.toArray 31)).heap.size (w.alloc (.cells As.toArray 31)) ((w.alloc (.cells As.toArray 31)).alloc (.cells Z 31)) := (Below.refl _ _).alloc (Nat.le_refl _) _
  have sb : ((w.alloc (.cells As.toArray 31)).alloc (.cells Z 31)).heap.size = w.heap.size + 1 + 1 := by simp
  have m2 := HM.out ((w.alloc (.cells As.toArray 31)).alloc (.cells Z 31)) w.heap.size (by omega)
  have bc : Below ((w.alloc (.cells As.toArray 31)).alloc (.cells Z 31)).heap.size ((w.alloc (.cells As.toArray 31)).alloc (.cells Z 31)) (((w.alloc (.cells As.toArray 31)).alloc (.cells Z 31)).alloc (.cells Z 31)) := (Below.refl _ _).alloc (Nat.le_refl _) _
  have q0' := m0.below bb
  have hra0 := q0'.range
  rw [← hAs] at hra0
  have q0 := q0'.below bc
  have q1 := m1.below bc
  rw [sa] at q1
  rw [sb] at m2
  have bel := below_on (below_on ba bb) bc
  have hth0 : (((w.alloc (.cells As.toArray 31)).alloc (.cells Z 31)).alloc (.cells Z 31)).there (w.heap.size + 1 + 1) 0 As.toArray.size := by rw [hsA3]; exact m2.there
  have p2 := m2.put (f' := f)
  rw [← hAs] at p2
  replace hAs : Hid (As = zV f 16) := hAs
  go_enter Try.func30, Try.ntmps30
  go_wp2_with (first | (refine wpList_load_mid rfl 31 _ rfl w.heap.size 0 rfl As _ hra0 Try.underlying31 rfl hsA ?_) | (refine wpList_store_mid rfl 31 _ _ rfl (w.heap.size + 1 + 1) 0 As.toArray rfl rfl hth0 hsA2 (all_oneCell_toArray hoA) ?_))
  obtain ⟨GR, hGR⟩ : ∃ GR, GR = w.heap.size + 1 := ⟨_, rfl⟩
  rw [← hGR] at q1 p2 ⊢
  obtain ⟨GC, hGC⟩ : ∃ GC, GC = GR + 1 := ⟨_, rfl⟩
  rw [← hGC] at p2 ⊢
  have hneA : w.heap.size ≠ GC := by omega
  have hneR : GR ≠ GC := by omega
  have hloC : w.heap.size ≤ GC := by omega
  have hloR : w.heap.size ≤ GR := by omega
  have k0 := q0.kept p2.2 hneA
  have k1 := q1.kept p2.2 hneR
  have kb := bel.grown p2.2 bel.size (fun k hk => by cases hk; exact hloC)
  have pc := p2.1
  generalize ((((w.alloc (.cells As.toArray 31)).alloc (.cells Z 31)).alloc (.cells Z 31)).setCells GC 0 As) = wb at pc k0 k1 kb ⊢
  clear m0 m1 m2 ba bb bc sa sb q0 q0' q1 bel hra0 hth0 p2 HM hz hGR hGC
  go_loopw [4] (fun i wr => ∃ k : Nat, k ≤ 254 ∧ i = .int .i64 (253 - (k : Int)) ∧ RowZ 31 16 wr w.heap.size GC (invZ f k) ∧ RowZ 31 16 wr w.heap.size w.heap.size f ∧ RowZ 31 16 wr w.heap.size GR (fun _ => 0) ∧ Below w.heap.size w wr)
    (fun i _ => (intOf i + 1).toNat)
  case atStart => exact ⟨0, by omega, rfl, pc, k0, k1, kb⟩
  case round =>
    clear pc k0 k1 kb
    obtain ⟨k, hk, rfl, rc, rA, rR, bel⟩ := hrel
    obtain ⟨i, hi⟩ : ∃ i : Int, i = 253 - (k : Int) := ⟨_, rfl⟩
    rw [← hi]
    by_cases hlt : k < 254
    · have hge : (0 : Int) ≤ i := by omega
      have hok := invZ_ok h1 k
      have C1 := fun X => l8Mul_any (invZ f k) (invZ f k) X hok hok
      have hok2 := mulZ_ok hok hok
      have C2 := fun X => l8Mul_any (mulZ (invZ f k) (invZ f k)) f X hok2 h1
      have HI : Hid (invZ f (k + 1) = if k = 251 ∨ k = 249 then mulZ (invZ f k) (invZ f k) else mulZ (mulZ (invZ f k) (invZ f k)) f) := rfl
      clear hok hok2
      generalize invZ f k = c at rc C1 C2 HI
      have hrc := rc.range
      have hsc := (HSZ.out c).1
      obtain ⟨Cs, hCs⟩ : ∃ Cs, Cs = zV c 16 := ⟨_, rfl⟩
      rw [← hCs] at hrc hsc
      simp only [← hCs] at C1
      rw [← hAs.out] at C2
      clear hCs
      have hii : i - 1 = 253 - ((k + 1 : Nat) : Int) := by omega
      have li : i ≤ 253 := by omega
      replace hi : Hid (i = 253 - (k : Int)) := hi
      replace hii : Hid (i - 1 = 253 - ((k + 1 : Nat) : Int)) := hii
      go_wp2_with (refine wpList_load_mid rfl 31 _ rfl GC 0 rfl Cs _ hrc Try.underlying31 rfl hsc ?_)
      refine (C1 _).mono ?_
      rintro e w5 ⟨rfl, b5⟩
      have rc5 := rc.below b5
      have rA5 := rA.below b5
      have rR5 := rR.below b5
      have bel5 := below_on bel b5
      clear rc rA rR bel b5 C1 hrc hsc
      obtain ⟨M, hM⟩ : ∃ M, M = mulZ c c := ⟨_, rfl⟩
      simp only [← hM] at C2 HI
      rw [← hM]
      have hm1 := (HSZ.out M).1
      have hm2 := (HSZ.out M).2.1
      have hm3 := (HSZ.out M).2.2
      have hoM := zV_one M 16
      have pM := rc5.put (f' := M)
      have hthM : w5.there GC 0 (zV M 16).toArray.size := by rw [hm3]; exact rc5.there
      have rA6 := rA5.kept pM.2 hneA
      have rR6 := rR5.kept pM.2 hneR
      have bel6 := bel5.grown pM.2 bel5.size (fun k hk => by cases hk; exact hloC)
      have rc6 := pM.1
      have hrM := rc6.range
      have hrA := rA6.range
      obtain ⟨Ms, hMs⟩ : ∃ Ms, Ms = zV M 16 := ⟨_, rfl⟩
      rw [← hMs] at hm1 hm2 hthM hoM hrM rc6 rA6 rR6 bel6 hrA ⊢
      rw [← hAs.out] at hrA
      simp only [← hMs] at C2
      clear hMs hM pM rc5 rA5 rR5 bel5 hm3
      by_cases hs : k = 251 ∨ k = 249
      · have HI' : invZ f (k + 1) = M := by rw [HI.out, if_pos hs]
        clear HI C2
        rcases hs with h | h
        · have z2 : i = 2 := by have := hi.out; omega
          subst z2
          go_wp2_with (refine wpList_store_mid rfl 31 _ _ rfl GC 0 Ms.toArray rfl rfl hthM hm2 (all_oneCell_toArray hoM) ?_)
          go_roundw
          case rel => exact ⟨k + 1, by omega, by rw [← hii.out]; rfl, by rw [HI']; exact rc6, rA6, rR6, bel6⟩
          case measure => simp [intOf]
        · have z2 : i = 4 := by have := hi.out; omega
          subst z2
          go_wp2_with (refine wpList_store_mid rfl 31 _ _ rfl GC 0 Ms.toArray rfl rfl hthM hm2 (all_oneCell_toArray hoM) ?_)
          go_roundw
          case rel => exact ⟨k + 1, by omega, by rw [← hii.out]; rfl, by rw [HI']; exact rc6, rA6, rR6, bel6⟩
          case measure => simp [intOf]
      · have HI' : invZ f (k + 1) = mulZ M f := by rw [HI.out, if_neg hs]
        have z2 : (i != 2) = true := by have := hi.out; simp; omega
        have z4 : (i != 4) = true := by have := hi.out; simp; omega
        clear HI
        go_wp2_with (first | (refine wpList_store_mid rfl 31 _ _ rfl GC 0 Ms.toArray rfl rfl hthM hm2 (all_oneCell_toArray hoM) ?_) | (refine wpList_load_mid rfl 31 _ rfl GC 0 rfl Ms _ hrM Try.underlying31 rfl hm1 ?_) | (refine wpList_load_mid rfl 31 _ rfl w.heap.size 0 rfl As _ hrA Try.underlying31 rfl hsA ?_))
        refine (C2 _).mono ?_
        rintro e w7 ⟨rfl, b7⟩
        have rc7 := rc6.below b7
        have rA7 := rA6.below b7
        have rR7 := rR6.below b7
        have bel7 := below_on bel6 b7
        clear C2 rc6 rA6 rR6 bel6 b7 hrM hrA hthM
        obtain ⟨N, hN⟩ : ∃ N, N = mulZ M f := ⟨_, rfl⟩
        rw [← hN] at HI' ⊢
        have hn2 := (HSZ.out N).2.1
        have hn3 := (HSZ.out N).2.2
        have hoN := zV_one N 16
        have pN := rc7.put (f' := N)
        have hthN : w7.there GC 0 (zV N 16).toArray.size := by rw [hn3]; exact rc7.there
        have rA8 := rA7.kept pN.2 hneA
        have rR8 := rR7.kept pN.2 hneR
        have bel8 := bel7.grown pN.2 bel7.size (fun k hk => by cases hk; exact hloC)
        have rc8 := pN.1
        obtain ⟨Ns, hNs⟩ : ∃ Ns, Ns = zV N 16 := ⟨_, rfl⟩
        rw [← hNs] at hn2 hthN hoN rc8 rA8 rR8 bel8 ⊢
        clear hNs hN pN rc7 rA7 rR7 bel7 hn3
        go_wp2_with (refine wpList_store_mid rfl 31 _ _ rfl GC 0 Ns.toArray rfl rfl hthN hn2 (all_oneCell_toArray hoN) ?_)
        go_roundw
        case rel => exact ⟨k + 1, by omega, by rw [← hii.out], by rw [HI']; exact rc8, rA8, rR8, bel8⟩
        case measure => simp [intOf]; omega
    · obtain rfl : k = 254 := by omega
      have hi' : i = -1 := by omega
      subst hi'
      have hrc := rc.range
      have hsz := (HSZ.out (invZ f 254)).1
      have hsz2 := (HSZ.out (invZ f 254)).2.1
      have hsC := (HSZ.out (invZ f 254)).2.2
      have hone := zV_one (invZ f 254) 16
      have hth2 : wr.there GR 0 (zV (invZ f 254) 16).toArray.size := by rw [hsC]; exact rR.there
      have hp := rR.put (f' := invZ f 254)
      have hbel : Below w.heap.size w (wr.setCells GR 0 (zV (invZ f 254) 16)) := bel.grown hp.2 bel.size (fun k hk => by cases hk; exact hloR)
      have hld := run_loadVar_mid (P := Try.prog) _ GR 0 31 _ _ hp.1.range Try.underlying31 rfl hsz
      obtain ⟨Cs, hCs⟩ : ∃ Cs, Cs = zV (invZ f 254) 16 := ⟨_, rfl⟩
      rw [← hCs] at hrc hsz hsz2 hth2 hbel hld hone
      replace hCs : Hid (Cs = zV (invZ f 254) 16) := hCs
      clear hp rc rA rR bel hsC
      go_wp2_with (first | (refine wpList_load_mid rfl 31 _ rfl GC 0 rfl Cs _ hrc Try.underlying31 rfl hsz ?_) | (refine wpList_store_mid rfl 31 _ _ rfl GR 0 Cs.toArray rfl rfl hth2 hsz2 (all_oneCell_toArray hone) ?_))
      (try simp only [Exit.inBlock, Exit.then])
      refine bodyPost_ret (v := .agg Cs.toArray) ?_ rfl ⟨by rw [hCs.out], hbel⟩
      simp [results, asAddr, Act.put, hld]

end Go.Proofs.Ytghoibggmddkman
