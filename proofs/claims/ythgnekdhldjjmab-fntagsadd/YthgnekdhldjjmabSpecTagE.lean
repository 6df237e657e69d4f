/-
  What the specification's Tag answers: 16 bytes, or nothing. Condition: bytes all.
-/
import Derived.Test.YthgnekdhldjjmabSpecTagD
namespace Go.Proofs.Ythgnekdhldjjmab
open Go.RowKit

/-- How many bytes of m the block k has; its digits; what is reckoned behind k blocks. -/
def chunkN (m k : Nat) : Nat := min 16 (m - 16 * k)
def chunkD (bs : List Int) (m k : Nat) : Nat → Nat := numD (bs.drop (16 * k)) (chunkN m k) 1
def hD (bs : List Int) (m : Nat) (r : Nat → Nat) : Nat → Nat → Nat
  | 0 => fun _ => 0
  | k + 1 => stepD (hD bs m r k) (chunkD bs m k) r
def tagK (m : Nat) : Nat := (m + 15) / 16
def tagD (ks bs : List Int) (m : Nat) : Nat → Nat := sumD (lastD (hD bs m (keyD ks) (tagK m))) (numD (ks.drop 16) 16 0)
theorem tagD_eq (ks bs : List Int) (m : Nat) : tagD ks bs m = sumD (lastD (hD bs m (keyD ks) (tagK m))) (numD (ks.drop 16) 16 0) := rfl
theorem valN_zero : ∀ n, valN (fun _ => 0) n = 0
  | 0 => rfl
  | n + 1 => by rw [valN, valN_zero n]; simp
theorem hD_ok (bs : List Int) (m : Nat) {r : Nat → Nat} (hr : ∀ i, r i < 256) : ∀ k, okD (hD bs m r k)
  | 0 => ⟨fun _ _ => by show (0 : Nat) < 256; decide, by show (0 : Nat) ≤ 4; decide, by
      have : valN (hD bs m r 0) 17 = 0 := valN_zero 17
      rw [this]; decide⟩
  | k + 1 => stepD_ok _ _ hr
theorem okD_lt {h : Nat → Nat} (ho : okD h) : ∀ i, i < 17 → h i < 256 := fun i hi => by
  by_cases h6 : i < 16
  · exact ho.1 i h6
  · obtain rfl : i = 16 := by omega
    have := ho.2.1
    omega
theorem lastD_lt {h : Nat → Nat} (ho : okD h) : ∀ i, i < 17 → lastD h i < 256 := fun i hi => by
  unfold lastD
  split
  · exact digN_lt _ _ _
  · exact okD_lt ho i hi
theorem bytes_drop {xs : List Int} (hb : ∀ x ∈ xs, 0 ≤ x ∧ x < 256) (n : Nat) : ∀ x ∈ xs.drop n, 0 ≤ x ∧ x < 256 := fun x hx => hb x (List.mem_of_mem_drop hx)
theorem negD_lt (i : Nat) : negD i < 256 := by
  unfold negD
  split
  · decide
  · split <;> decide
theorem neg_row : (((madeCells #[Value.int .i64 0] 17).toList.set 0 (.int .i64 5)).set 16 (.int .i64 252)) = (dL negD 17).map (Value.int .i64) := by
  rw [fill_startI ([] : List Int) 17]
  rfl

set_option maxRecDepth 100000 in
set_option maxHeartbeats 4000000 in
theorem specTag_yes (p q : Option Addr) (m c d : Nat) (ks bs : List Int) (w : World) (hc : 32 ≤ c) (hd : m ≤ d) (hm : m ≤ 4000) (h : BytesIn w p 32 ks) (h' : BytesIn w q m bs) (hb1 : ∀ x ∈ ks, 0 ≤ x ∧ x < 256) (hb2 : ∀ x ∈ bs, 0 ≤ x ∧ x < 256) :
    Calls Try.prog 9 #[.slice p 32 c, .slice q m d] w fun e w' => ∃ p' c', e = .returned (.slice p' 16 c') ∧ Own 5 w' w.heap.size w'.heap.size (.slice p' 16 c') 16 (dL (tagD ks bs m) 16) ∧ Below w.heap.size w w' := by
  obtain ⟨i0, hi, hz0, hz1, hz2⟩ := info_parts infoInt
  have nm : ¬ (4000 : Int) < (m : Int) := by omega
  obtain ⟨b, o, rfl, hcell⟩ := h (by decide)
  have CK := l6Key_any b o c ks w hc hb1 (fun _ => ⟨b, o, rfl, fun i hi => hcell i (by omega)⟩)
  have lb : b < w.heap.size := World.block_lt_of_cell? w ⟨b, o + 0, none⟩ (hcell 0 (by omega))
  have CN2 : ∀ X, Below w.heap.size w X → Calls Try.prog 26 #[.slice (some ⟨b, o + 16, none⟩) 16 (c - 16), .int .i64 0] X fun e w' => ∃ p' c', e = .returned (.slice p' 17 c') ∧ OwnI 3 w' X.heap.size w'.heap.size (.slice p' 17 c') 17 (dL (numD (ks.drop 16) 16 0) 17) ∧ Below X.heap.size X w' := fun X hX =>
    l6Num_any (some ⟨b, o + 16, none⟩) 16 (c - 16) 0 (ks.drop 16) X (by omega) (bytes_drop hb1 16) (fun _ => ⟨b, o + 16, rfl, fun i hi => by
      rw [Nat.add_assoc, hX.cell (p := ⟨b, o + (16 + i), none⟩) lb, hcell (16 + i) (by omega)]
      simp [List.getD]⟩)
  have HCN : Hid (∀ X k, 16 * k < m → Below w.heap.size w X → ∃ b2 o2, q = some ⟨b2, o2, none⟩ ∧ Calls Try.prog 26 #[.slice (some ⟨b2, o2 + 16 * k, none⟩) (chunkN m k) (d - 16 * k), .int .i64 1] X fun e w' => ∃ p' c', e = .returned (.slice p' 17 c') ∧ OwnI 3 w' X.heap.size w'.heap.size (.slice p' 17 c') 17 (dL (chunkD bs m k) 17) ∧ Below X.heap.size X w') := fun X k hk hX => by
    obtain ⟨b2, o2, e1, e2⟩ := h' (by omega)
    have l2 : b2 < w.heap.size := World.block_lt_of_cell? w ⟨b2, o2 + 0, none⟩ (e2 0 (by omega))
    have hn : chunkN m k ≤ 16 := Nat.min_le_left _ _
    have hn2 : 16 * k + chunkN m k ≤ m := by unfold chunkN; omega
    refine ⟨b2, o2, e1, l6Num_any (some ⟨b2, o2 + 16 * k, none⟩) (chunkN m k) (d - 16 * k) 1 (bs.drop (16 * k)) X hn (bytes_drop hb2 _) (fun _ => ⟨b2, o2 + 16 * k, rfl, fun i hi => ?_⟩)⟩
    rw [Nat.add_assoc, hX.cell (p := ⟨b2, o2 + (16 * k + i), none⟩) l2, e2 (16 * k + i) (by omega)]
    simp [List.getD]
  have HR : Hid (∀ i, keyD ks i < 256) := keyD_lt hb1
  have HO : Hid (∀ k, okD (hD bs m (keyD ks) k)) := hD_ok bs m HR.out
  have HCL : Hid (∀ k i, chunkD bs m k i < 256) := fun k i => numD_lt (bytes_drop hb2 _) (by decide) i
  have HNS : Hid (∀ i, i < 17 → numD (ks.drop 16) 16 0 i < 256) := fun i _ => numD_lt (bytes_drop hb1 16) (by decide) i
  clear h h' hb1 hb2 hcell
  go_enter Try.func9, Try.ntmps9
  go_wp2_with (fail)
  refine CK.mono ?_
  rintro e w1 ⟨p1, c1, rfl, r1, b1⟩
  have ir := r1.ints
  clear CK r1
  have hs1 := b1.size
  go_wp2_with (at_make; refine wpList_make_full _ rfl _ _ 44 rfl w.heap.size 3 i0 (.int .i64 0) 1 Try.underlying44 hi hz0 hz1 _ _ _ _ 17 rfl rfl rfl rfl (by rw [hz2]; omega) (by unfold maxLen; omega) hs1 ?_)
  intro w2 hown hgrow
  have b2 : Below w1.heap.size w1 w2 := (Below.refl _ _).grown hgrow (Nat.le_refl _) (fun _ h => by cases h)
  rw [fill_startI ([] : List Int) 17] at hown
  have ih : IntsIn w2 (some ⟨w1.heap.size, 0, none⟩) 17 (dL (hD bs m (keyD ks) 0) 17) := owns_inI hown
  replace ir := in_belowI ir b2
  have bel := below_on b1 b2
  clear hown hgrow b1 b2 hs1
  go_wp2_with (fail)
  go_loopw [6, 7] (fun v i wr => ∃ (k : Nat) (qh : Option Addr) (ch : Nat), k ≤ tagK m ∧ i = .int .i64 ((16 * k : Nat) : Int) ∧ v = .slice qh 17 ch ∧ IntsIn wr qh 17 (dL (hD bs m (keyD ks) k) 17) ∧ IntsIn wr p1 17 (dL (keyD ks) 17) ∧ Below w.heap.size w wr)
    (fun _ i _ => 8000 - (intOf i).toNat)
  case atStart => exact ⟨0, _, 17, by omega, rfl, rfl, ih, ir, bel⟩
  case round =>
    clear ih ir bel
    obtain ⟨k, qh, ch, hk, rfl, rfl, ih, ir, bel⟩ := hrel
    by_cases hlt : 16 * k < m
    · obtain ⟨b2, o2, hq, CN⟩ := HCN.out wr k hlt bel
      subst hq
      obtain ⟨n', hn'⟩ : ∃ n', n' = chunkN m k := ⟨_, rfl⟩
      have hmin : min (((16 * k : Nat) : Int) + 16) (m : Int) = ((16 * k + n' : Nat) : Int) := by rw [hn']; unfold chunkN; omega
      have CM : ∀ X, Calls Try.prog 27 #[.int .i64 (((16 * k : Nat) : Int) + 16), .int .i64 (m : Int)] X fun e w' => e = .returned (.int .i64 ((16 * k + n' : Nat) : Int)) ∧ w' = X := fun X => by
        have := l1Min_is (((16 * k : Nat) : Int) + 16) (m : Int) X
        rwa [hmin] at this
      rw [← hn'] at CN
      have hn2 : 16 * k + n' ≤ m := by rw [hn']; unfold chunkN; omega
      have hk1 : k + 1 ≤ tagK m := by unfold tagK; omega
      have HS : Hid (stepD (hD bs m (keyD ks) k) (chunkD bs m k) (keyD ks) = hD bs m (keyD ks) (k + 1)) := rfl
      have ho := okD_lt (HO.out k)
      have hcl := HCL.out k
      have h16 : ((16 * (k + 1) : Nat) : Int) = ((16 * k : Nat) : Int) + 16 := by omega
      obtain ⟨a, ha⟩ : ∃ a : Nat, a = 16 * k := ⟨_, rfl⟩
      rw [← ha] at CN CM hn2 h16 ⊢
      have hlt' : (a : Int) < (m : Int) := by omega
      have la : a ≤ 4000 := by omega
      obtain ⟨e', he'⟩ : ∃ e' : Nat, e' = a + n' := ⟨_, rfl⟩
      rw [← he'] at CM hn2
      have hsub : e' - a = n' := by omega
      have hle : a ≤ e' := by omega
      have hle2 : (a : Int) ≤ (e' : Int) := by omega
      have hed : e' ≤ d := by omega
      have hed2 : (e' : Int) ≤ (d : Int) := by omega
      generalize hD bs m (keyD ks) k = hk' at ih ho HS
      generalize chunkD bs m k = ck at CN hcl HS
      clear hmin hn' ha hlt he'
      go_wp2_with (fail)
      refine (CM _).mono ?_
      rintro e w3 ⟨rfl, hw3⟩
      obtain rfl := hw3
      go_wp2_with (fail)
      refine CN.mono ?_
      rintro e w4 ⟨p4, c4, rfl, r4, b4⟩
      have i4 := r4.ints
      replace ih := in_belowI ih b4
      replace ir := in_belowI ir b4
      replace bel := below_on bel b4
      clear r4 b4 CN CM
      have CA := l6Add_any qh p4 ch c4 hk' ck w4 ih i4 ho (fun i _ => hcl i)
      clear ih i4
      go_wp2_with (fail)
      refine CA.mono ?_
      rintro e w5 ⟨p5, c5, rfl, r5, b5⟩
      have i5 := r5.ints
      replace ir := in_belowI ir b5
      replace bel := below_on bel b5
      clear r5 b5 CA
      have CT := l6Times_any p5 p1 c5 c1 (sumD hk' ck) (keyD ks) w5 i5 ir (fun i => digN_lt _ _ _) HR.out
      clear i5
      go_wp2_with (fail)
      refine CT.mono ?_
      rintro e w6 ⟨p6, c6, rfl, r6, b6⟩
      have i6 : IntsIn w6 p6 17 (dL (hD bs m (keyD ks) (k + 1)) 17) := by rw [← HS.out]; exact r6.ints
      replace ir := in_belowI ir b6
      replace bel := below_on bel b6
      clear r6 b6 CT
      go_wp2_with (fail)
      go_roundw
      case rel => exact ⟨k + 1, _, _, hk1, by rw [h16], rfl, i6, ir, bel⟩
      case measure => simp [intOf]; omega
    · have hK : Hid (k = tagK m) := by unfold Hid tagK; unfold tagK at hk; omega
      have hnl : ¬ ((16 * k : Nat) : Int) < (m : Int) := by omega
      have HLS : Hid (∀ i, i < 17 → lastD (hD bs m (keyD ks) k) i < 256) := lastD_lt (HO.out k)
      have ho := okD_lt (HO.out k)
      obtain ⟨K, hKk⟩ : ∃ K, K = k := ⟨_, rfl⟩
      subst hKk
      obtain ⟨a, ha⟩ : ∃ a : Nat, a = 16 * K := ⟨_, rfl⟩
      rw [← ha] at hnl ⊢
      clear HCN HO HCL HR ir hk ha hlt
      have hsw := bel.size
      obtain ⟨bq, oq, hqe, hcq⟩ := ih (by decide)
      subst hqe
      have lbq : bq < wr.heap.size := World.block_lt_of_cell? wr ⟨bq, oq + 0, none⟩ (hcq 0 (by omega))
      clear hcq
      go_wp2_with (at_make; refine wpList_make_full _ rfl _ _ 44 rfl w.heap.size 3 i0 (.int .i64 0) 1 Try.underlying44 hi hz0 hz1 _ _ _ _ 17 rfl rfl rfl rfl (by rw [hz2]; omega) (by unfold maxLen; omega) hsw ?_)
      intro w2 hown hgrow
      have b2 : Below wr.heap.size wr w2 := (Below.refl _ _).grown hgrow (Nat.le_refl _) (fun _ h => by cases h)
      replace ih := in_belowI ih b2
      replace bel := below_on bel b2
      obtain ⟨gl, hgl⟩ : ∃ gl, gl = wr.heap.size := ⟨_, rfl⟩
      rw [← hgl] at hown ⊢
      have hgll : w.heap.size ≤ gl := by omega
      rw [← hgl] at lbq
      have st1 := hown.stored 0 (.int .i64 5)
      have st2 := st1.1.stored 16 (.int .i64 252)
      rw [neg_row] at st2
      have d1 : w2.cell? ⟨gl, 0, none⟩ = some (.int .i64 0) := by
        rw [hown.cellAt 0 (by omega), fill_startI ([] : List Int) 17]
        rfl
      have d2 : (w2.setCell ⟨gl, 0, none⟩ (.int .i64 5)).cell? ⟨gl, 16, none⟩ = some (.int .i64 0) := by
        rw [st1.1.cellAt 16 (by omega), fill_startI ([] : List Int) 17]
        rfl
      have f1 := hown.frozenAt 0
      have f2 := st1.1.frozenAt 16
      have G2 := grown_trans st1.2 st2.2
      have ih2 : IntsIn ((w2.setCell ⟨gl, 0, none⟩ (.int .i64 5)).setCell ⟨gl, 16, none⟩ (.int .i64 252)) (some ⟨bq, oq, none⟩) 17 (dL (hD bs m (keyD ks) K) 17) := by
        intro hpos
        obtain ⟨bb, oo, e1, e2⟩ := ih hpos
        refine ⟨bb, oo, e1, fun i hi => ?_⟩
        simp only [Option.some.injEq, Addr.mk.injEq, and_true] at e1
        obtain ⟨rfl, rfl⟩ := e1
        rw [← e2 i hi]
        simp only [World.cell?, G2.block bq (World.block_lt_of_cell? w2 ⟨bq, oq + i, none⟩ (e2 i hi)) (by simp; omega)]
      have bel2 := bel.grown G2 bel.size (fun k hk => by cases hk; exact hgll)
      have in2 := owns_inI st2.1
      clear st1 st2 hown hgrow G2 ih bel hgl b2
      go_wp2_with (fail)
      clear d1 d2 f1 f2
      have CA := l6Add_any (some ⟨bq, oq, none⟩) (some ⟨gl, 0, none⟩) ch 17 (hD bs m (keyD ks) K) negD _ ih2 in2 ho (fun i _ => negD_lt i)
      generalize (w2.setCell ⟨gl, 0, none⟩ (.int .i64 5)).setCell ⟨gl, 16, none⟩ (.int .i64 252) = wz at CA ih2 bel2 ⊢
      refine CA.mono ?_
      rintro e w3 ⟨p3, c3, rfl, r3, b3⟩
      obtain ⟨g3, hg3⟩ := owns_at r3.1 (by decide)
      subst hg3
      have in3 := r3.ints
      have e16 : w3.cell? ⟨g3, 16, none⟩ = some (.int .i64 ((sumD (hD bs m (keyD ks) K) negD 16 : Nat) : Int)) := by
        rw [r3.1.cellAt 16 (by omega), List.getElem?_map]
        rfl
      replace ih2 := in_belowI ih2 b3
      replace bel2 := below_on bel2 b3
      clear r3 b3 CA in2
      by_cases hsm : sumD (hD bs m (keyD ks) K) negD 16 < 128
      · have hsm' : ((sumD (hD bs m (keyD ks) K) negD 16 : Nat) : Int) < 128 := by omega
        have il : IntsIn w3 (some ⟨g3, 0, none⟩) 17 (dL (lastD (hD bs m (keyD ks) K)) 17) := by
          rw [show lastD (hD bs m (keyD ks) K) = sumD (hD bs m (keyD ks) K) negD from by funext i; rw [lastD, if_pos hsm]]
          exact in3
        generalize sumD (hD bs m (keyD ks) K) negD 16 = s16 at e16 hsm'
        clear in3 ih2 hsm
        go_wp2_with (fail)
        refine (CN2 _ bel2).mono ?_
        rintro e w4 ⟨p4, c4, rfl, r4, b4⟩
        have i4 := r4.ints
        have i3 := in_belowI il b4
        have bel4 := below_on bel2 b4
        clear r4 b4 CN2
        have CA := l6Add_any (some ⟨g3, 0, none⟩) p4 c3 c4 (lastD (hD bs m (keyD ks) K)) (numD (ks.drop 16) 16 0) w4 i3 i4 HLS.out HNS.out
        clear i3 i4 HLS HNS
        go_wp2_with (fail)
        refine CA.mono ?_
        rintro e w5 ⟨p5, c5, rfl, r5, b5⟩
        obtain ⟨g5, hg5⟩ := owns_at r5.1 (by decide)
        subst hg5
        have HC : Hid (∀ X k, k < 17 → Below w5.heap.size w5 X → X.cell? ⟨g5, k, none⟩ = some (.int .i64 ((tagD ks bs m k : Nat) : Int))) := fun X k hk hX => by
          rw [hX.cell (p := ⟨g5, k, none⟩) (r5.1.lt g5 rfl).2, r5.1.cellAt k (by omega), List.getElem?_map, tagD_eq, ← hK.out]
          simp [dL, hk]
        have bel5 := below_on bel4 b5
        clear r5 b5 CA bel4
        obtain ⟨j0, hj, hy0, hy1, hy2⟩ := info_parts infoByte
        have hown0 : (w5.alloc (.cells #[] 5)).ownsRow w5.heap.size 5 1 (.slice (some ⟨w5.heap.size, 0, none⟩) 0 0) 0 ((dL (tagD ks bs m) 0).map (Value.int .u8)) := World.ownsRow_made w5 #[] 0 (Nat.le_refl _) (by unfold maxLen; omega) rfl
        have hb0 : Below w5.heap.size w5 (w5.alloc (.cells #[] 5)) := (Below.refl _ _).alloc (Nat.le_refl _) _
        go_wp2_with (fail)
        go_loopw [10, 11] (fun v i wr => ∃ (k : Nat) (q : Option Addr) (cc : Nat), k ≤ 16 ∧ i = .int .i64 k ∧ v = .slice q k cc ∧ wr.ownsRow w5.heap.size 5 1 (.slice q k cc) k ((dL (tagD ks bs m) k).map (Value.int .u8)) ∧ Below w5.heap.size w5 wr)
          (fun _ i _ => 16 - (intOf i).toNat)
        case atStart => exact ⟨0, _, 0, by omega, rfl, rfl, hown0, hb0⟩
        case round =>
          clear hown0 hb0
          obtain ⟨k, q, cc, hk, rfl, rfl, hown, hbel⟩ := hrel
          by_cases hlt : k < 16
          · have hlt' : (k : Int) < 16 := by omega
            have hlt7 : (k : Int) < 17 := by omega
            have e1 := HC.out wr k (by omega) hbel
            have hs : tagD ks bs m k < 256 := digN_lt _ _ _
            have HL : Hid (dL (tagD ks bs m) k ++ [((tagD ks bs m k : Nat) : Int)] = dL (tagD ks bs m) (k + 1)) := dL_step _ k
            generalize tagD ks bs m k = x at e1 hs HL
            have hsz := hbel.size
            have ew : IntKind.u8.wrap (x : Int) = (x : Int) := by rw [IntKind.wrap_u8]; omega
            have em : (x : Int) % 256 = (x : Int) := by omega
            go_wp2_with (at_builtin; refine list_push hj hy0 hy1 hy2 (.tmp 66) (.tmp 72) 22 Try.underlying22 _ hown (by omega) hsz (by rfl) (by rfl) (by rfl) (by rfl) ?_; intro g cap w3 ho3 hb3)
            rw [HL.out] at ho3
            go_roundw
            case rel => exact ⟨k + 1, _, cap, by omega, by go_num, rfl, ho3, hbel.trans hb3⟩
            case measure => simp [intOf]; omega
          · obtain rfl : k = 16 := by omega
            go_wp2_with (fail)
            go_ret
            exact ⟨_, _, rfl, .of (owns_mono hown bel5.size), below_on bel5 hbel⟩
      · have hsm' : ¬ ((sumD (hD bs m (keyD ks) K) negD 16 : Nat) : Int) < 128 := by omega
        have il : IntsIn w3 (some ⟨bq, oq, none⟩) 17 (dL (lastD (hD bs m (keyD ks) K)) 17) := by
          rw [show lastD (hD bs m (keyD ks) K) = hD bs m (keyD ks) K from by funext i; rw [lastD, if_neg hsm]]
          exact ih2
        generalize sumD (hD bs m (keyD ks) K) negD 16 = s16 at e16 hsm'
        clear in3 ih2 hsm
        go_wp2_with (fail)
        refine (CN2 _ bel2).mono ?_
        rintro e w4 ⟨p4, c4, rfl, r4, b4⟩
        have i4 := r4.ints
        have i3 := in_belowI il b4
        have bel4 := below_on bel2 b4
        clear r4 b4 CN2
        have CA := l6Add_any (some ⟨bq, oq, none⟩) p4 ch c4 (lastD (hD bs m (keyD ks) K)) (numD (ks.drop 16) 16 0) w4 i3 i4 HLS.out HNS.out
        clear i3 i4 HLS HNS
        go_wp2_with (fail)
        refine CA.mono ?_
        rintro e w5 ⟨p5, c5, rfl, r5, b5⟩
        obtain ⟨g5, hg5⟩ := owns_at r5.1 (by decide)
        subst hg5
        have HC : Hid (∀ X k, k < 17 → Below w5.heap.size w5 X → X.cell? ⟨g5, k, none⟩ = some (.int .i64 ((tagD ks bs m k : Nat) : Int))) := fun X k hk hX => by
          rw [hX.cell (p := ⟨g5, k, none⟩) (r5.1.lt g5 rfl).2, r5.1.cellAt k (by omega), List.getElem?_map, tagD_eq, ← hK.out]
          simp [dL, hk]
        have bel5 := below_on bel4 b5
        clear r5 b5 CA bel4
        obtain ⟨j0, hj, hy0, hy1, hy2⟩ := info_parts infoByte
        have hown0 : (w5.alloc (.cells #[] 5)).ownsRow w5.heap.size 5 1 (.slice (some ⟨w5.heap.size, 0, none⟩) 0 0) 0 ((dL (tagD ks bs m) 0).map (Value.int .u8)) := World.ownsRow_made w5 #[] 0 (Nat.le_refl _) (by unfold maxLen; omega) rfl
        have hb0 : Below w5.heap.size w5 (w5.alloc (.cells #[] 5)) := (Below.refl _ _).alloc (Nat.le_refl _) _
        go_wp2_with (fail)
        go_loopw [10, 11] (fun v i wr => ∃ (k : Nat) (q : Option Addr) (cc : Nat), k ≤ 16 ∧ i = .int .i64 k ∧ v = .slice q k cc ∧ wr.ownsRow w5.heap.size 5 1 (.slice q k cc) k ((dL (tagD ks bs m) k).map (Value.int .u8)) ∧ Below w5.heap.size w5 wr)
          (fun _ i _ => 16 - (intOf i).toNat)
        case atStart => exact ⟨0, _, 0, by omega, rfl, rfl, hown0, hb0⟩
        case round =>
          clear hown0 hb0
          obtain ⟨k, q, cc, hk, rfl, rfl, hown, hbel⟩ := hrel
          by_cases hlt : k < 16
          · have hlt' : (k : Int) < 16 := by omega
            have hlt7 : (k : Int) < 17 := by omega
            have e1 := HC.out wr k (by omega) hbel
            have hs : tagD ks bs m k < 256 := digN_lt _ _ _
            have HL : Hid (dL (tagD ks bs m) k ++ [((tagD ks bs m k : Nat) : Int)] = dL (tagD ks bs m) (k + 1)) := dL_step _ k
            generalize tagD ks bs m k = x at e1 hs HL
            have hsz := hbel.size
            have ew : IntKind.u8.wrap (x : Int) = (x : Int) := by rw [IntKind.wrap_u8]; omega
            have em : (x : Int) % 256 = (x : Int) := by omega
            go_wp2_with (at_builtin; refine list_push hj hy0 hy1 hy2 (.tmp 66) (.tmp 72) 22 Try.underlying22 _ hown (by omega) hsz (by rfl) (by rfl) (by rfl) (by rfl) ?_; intro g cap w3 ho3 hb3)
            rw [HL.out] at ho3
            go_roundw
            case rel => exact ⟨k + 1, _, cap, by omega, by go_num, rfl, ho3, hbel.trans hb3⟩
            case measure => simp [intOf]; omega
          · obtain rfl : k = 16 := by omega
            go_wp2_with (fail)
            go_ret
            exact ⟨_, _, rfl, .of (owns_mono hown bel5.size), below_on bel5 hbel⟩

end Go.Proofs.Ythgnekdhldjjmab
