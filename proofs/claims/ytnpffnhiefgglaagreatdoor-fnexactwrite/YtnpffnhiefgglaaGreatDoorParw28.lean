/-
  A part of the proof.
-/
import Derived.Test.YtnpffnhiefgglaaGreatDoorParw27
namespace Go.Proofs.YtnpffnhiefgglaaGreatDoor
open Go.RowKit
set_option maxRecDepth 100000
def mkT (k : List Int) (m : Int) (i : Nat) : List Int := xorL ((keyL k).take i) ((List.replicate 64 m).take i)
theorem mkT_step {k : List Int} (hk : k.length ≤ 64) (m : Int) {i : Nat} (hi : i < 64) (u : Int) (hu : u = (keyL k).getD i 0) : mkT k m i ++ [bits BinOp.xor IntKind.u8 u m] = mkT k m (i + 1) :=
  xorL_step (keyL_length hk) List.length_replicate hi hi hu ((rep_getD m).out i hi).symm
theorem mkT_end {k : List Int} (hk : k.length ≤ 64) (m : Int) : mkT k m 64 = markL k m := xorL_all (keyL_length hk) List.length_replicate rfl
def padT (k : List Int) (j : Nat) : List Int := k ++ List.replicate j 0
theorem padT_step (k : List Int) (j : Nat) : padT k j ++ [0] = padT k (j + 1) := by
  unfold padT
  rw [List.append_assoc, ← List.replicate_succ']
theorem padT_end {k : List Int} {j : Nat} (h : k.length + j = 64) : padT k j = keyL k := by
  unfold padT keyL
  rw [show 64 - k.length = j by omega]
set_option maxHeartbeats 1000000 in
theorem specMac_small (p q : Option Addr) (n m c d : Nat) (ks xs : List Int) (w : World) (hn : n ≤ 64) (hm : m ≤ 3936) (hx : ks.length = n) (hy : xs.length = m) (h : BytesIn w p n ks) (h' : BytesIn w q m xs) (_hb : ∀ x ∈ ks, 0 ≤ x ∧ x < 256) (hb' : ∀ x ∈ xs, 0 ≤ x ∧ x < 256) :
    Calls Tryz.prog 154 #[.slice p n c, .slice q m d] w fun e w' => ∃ p' c', e = .returned (.slice p' 32 c') ∧ Own 5 w' w.heap.size w'.heap.size (.slice p' 32 c') 32 (ofL (kL ks) xs) ∧ Below w.heap.size w w' := by
  obtain ⟨i0, hi, hz0, hz1, hz2⟩ := info_parts infoByte
  have hkk : kL ks = ks := if_neg (by omega)
  rw [hkk]
  clear hkk
  have d3 : ¬ (64 : Int) < (n : Int) := by omega
  have d1 : ¬ (3936 : Int) < (n : Int) := by omega
  have d2 : ¬ (3936 : Int) < (m : Int) := by omega
  go_enter Tryz.func154, Tryz.ntmps154
  have hown0 : (w.alloc (.cells #[] 5)).ownsRow w.heap.size 5 1 (.slice (some ⟨w.heap.size, 0, none⟩) 0 0) 0 (([] : List Int).map (Value.int .u8)) := World.ownsRow_made w #[] 0 (Nat.le_refl _) (by unfold maxLen; omega) rfl
  have hb0 : Below w.heap.size w (w.alloc (.cells #[] 5)) := (Below.refl _ _).alloc (Nat.le_refl _) _
  have h1 := in_below h hb0
  have hlen : ks.length = n := hx
  go_wp2_with (at_builtin; refine list_spreadA hi hz0 hz1 hz2 (.tmp 18) (.tmp 19) 22 Tryz.underlying22 hown0 h1 hlen (by omega) (by omega) (by simp) (by rfl) (by rfl) (by rfl) (by rfl) ?_; intro p1 cap1 w1 ho1 hb1; simp only [Nat.zero_add, List.nil_append] at ho1 ⊢; have bk : Below w.heap.size w w1 := hb0.trans hb1; clear hown0 h1 hb1)
  have ok := ho1
  have hnk := hn
  clear hb0 ho1 h
  go_loopw [5] (fun v wr => ∃ j mm : Nat, Hid (n + j = mm) ∧ mm ≤ 64 ∧ wr.ownsRow w.heap.size 5 1 v mm ((padT ks j).map (Value.int .u8)) ∧ Below w.heap.size w wr)
    (fun v _ => 64 - sliceLen v)
  case atStart => exact ⟨0, n, rfl, hnk, by simpa [padT] using ok, bk⟩
  case round =>
    clear ok bk
    obtain ⟨j, mm, hmm, hle, hown, hbel⟩ := hrel
    have hsz := hbel.size
    obtain ⟨pq, cq, hv⟩ := owns_form hown
    subst hv
    by_cases hlt : mm < 64
    · have HX : Hid (padT ks j ++ [0] = padT ks (j + 1)) := padT_step ks j
      go_wp2_with (at_builtin; refine list_push hi hz0 hz1 hz2 (.tmp 29) (.tmp 30) 22 Tryz.underlying22 _ hown (by omega) hsz (by rfl) (by rfl) (by rfl) (by rfl) ?_; intro g3 cap3 w3 ho3 hb3; rw [HX.out] at ho3)
      go_roundw
      case rel => exact ⟨j + 1, mm + 1, by have := hmm.out; rw [Hid]; omega, by omega, ho3, hbel.trans hb3⟩
      case measure => simp only [sliceLen]; omega
    · have e64 : mm = 64 := by omega
      subst e64
      have hkl := keyL_length (xs := ks) (by omega)
      have hpe : padT ks j = keyL ks := padT_end (by have := hmm.out; omega)
      rw [hpe] at hown
      clear hpe hmm
      obtain ⟨gk, hgk⟩ := owns_at hown (by decide)
      subst hgk
      have hgk := hown.lt gk rfl
      have m54 : Hid (∀ i, i < 64 → ∀ u, u = (keyL ks).getD i 0 → mkT ks 54 i ++ [bits BinOp.xor IntKind.u8 u 54] = mkT ks 54 (i + 1)) := fun i hi u hu => mkT_step (by omega) 54 hi u hu
      have m92 : Hid (∀ i, i < 64 → ∀ u, u = (keyL ks).getD i 0 → mkT ks 92 i ++ [bits BinOp.xor IntKind.u8 u 92] = mkT ks 92 (i + 1)) := fun i hi u hu => mkT_step (by omega) 92 hi u hu
      have n54 : Hid (mkT ks 54 64 = markL ks 54) := mkT_end (by omega) 54
      have n92 : Hid (mkT ks 92 64 = markL ks 92) := mkT_end (by omega) 92
      have l54 : (markL ks 54).length = 64 := markL_length (by omega) 54
      have l92 : (markL ks 92).length = 64 := markL_length (by omega) 92
      have y54 := markL_byte ks 54
      have y92 := markL_byte ks 92
      have HO : Hid (hashL (markL ks 92 ++ hashL (markL ks 54 ++ xs)) = ofL ks xs) := rfl
      have z54 : mkT ks 54 0 = [] := rfl
      have z92 : mkT ks 92 0 = [] := rfl
      generalize markL ks 54 = M1 at n54 l54 y54 HO
      generalize markL ks 92 = M2 at n92 l92 y92 HO
      generalize mkT ks 54 = T1 at m54 n54 z54
      generalize mkT ks 92 = T2 at m92 n92 z92
      generalize keyL ks = KL at hown hkl m54 m92
      have hcell : Hid (∀ X, Below wr.heap.size wr X → ∀ i, i < 64 → X.cell? ⟨gk, i, none⟩ = some (.int .u8 (KL.getD i 0))) := fun X hX i hi => by
        rw [hX.cell (p := ⟨gk, i, none⟩) hgk.2, hown.cellAt i hi]
        simp [List.getElem?_map, List.getElem?_eq_getElem (show i < KL.length by omega)]
      have hin2 := in_below h' hbel
      have oa : ((wr.alloc (.cells #[] 5)).alloc (.cells #[] 5)).ownsRow wr.heap.size 5 1 (.slice (some ⟨wr.heap.size, 0, none⟩) 0 0) 0 ((T1 0).map (Value.int .u8)) := by
        rw [z54]
        exact (World.ownsRow_made wr #[] 0 (Nat.le_refl _) (by unfold maxLen; omega) rfl).alloc _
      have ob : ((wr.alloc (.cells #[] 5)).alloc (.cells #[] 5)).ownsRow wr.heap.size 5 1 (.slice (some ⟨wr.heap.size + 1, 0, none⟩) 0 0) 0 ((T2 0).map (Value.int .u8)) := by
        rw [z92]
        have := World.ownsRow_made (base := wr.heap.size) (size := 1) (wr.alloc (.cells #[] 5)) (e := 5) #[] 0 (by simp) (by unfold maxLen; omega) rfl
        simpa using this
      have bab : Below wr.heap.size wr ((wr.alloc (.cells #[] 5)).alloc (.cells #[] 5)) := ((Below.refl _ _).alloc (Nat.le_refl _) _).alloc (by simp) _
      clear z54 z92 hown
      go_wp2_with (fail)
      obtain ⟨wo, hwo⟩ : ∃ wo, wo = wr := ⟨_, rfl⟩
      subst hwo
      go_loopw [6, 7, 8] (fun v u i wx => ∃ (t : Nat), t ≤ 64 ∧ i = .int .i64 t ∧ wx.ownsRow wo.heap.size 5 1 v t ((T1 t).map (Value.int .u8)) ∧ wx.ownsRow wo.heap.size 5 1 u t ((T2 t).map (Value.int .u8)) ∧ Hid (u.ownBlock ≠ v.ownBlock) ∧ Below wo.heap.size wo wx)
        (fun _ _ i _ => 64 - (intOf i).toNat)
      case atStart => exact ⟨0, by omega, rfl, oa, ob, by rw [Hid]; simp [Value.ownBlock], bab⟩
      case round =>
        clear oa ob bab
        obtain ⟨t, ht, rfl, hA, hB, hne, hbl⟩ := hrel
        have hszx := hbl.size
        by_cases hlt2 : t < 64
        · have hc0 := hcell.out wr hbl t hlt2
          obtain ⟨uu, huu⟩ : ∃ uu, uu = KL.getD t 0 := ⟨_, rfl⟩
          rw [← huu] at hc0
          have H1 : Hid (T1 t ++ [bits BinOp.xor IntKind.u8 uu 54] = T1 (t + 1)) := m54.out t hlt2 uu huu
          have H2 : Hid (T2 t ++ [bits BinOp.xor IntKind.u8 uu 92] = T2 (t + 1)) := m92.out t hlt2 uu huu
          have hcX : Hid (∀ X, Below wo.heap.size wr X → X.cell? ⟨gk, t, none⟩ = some (.int .u8 uu)) := fun X hX => (hX.cell (p := ⟨gk, t, none⟩) hgk.2).trans hc0
          clear huu
          go_wp2_with (first | (at_builtin; refine list_push2 hi hz0 hz1 hz2 (.tmp 38) (.tmp 44) 22 Tryz.underlying22 _ hA hB hne.out (by omega) hszx (by rfl) (by rfl) (by rfl) (by rfl) ?_; intro g3 cap3 w3 ho3 hu3 hn3 hb3; rw [H1.out] at ho3; have hc3 := hcX.out w3 hb3; have hs3 := Nat.le_trans hszx hb3.size; replace hn3 : Hid ((Value.slice (some ⟨g3, 0, none⟩) (t + 1) cap3).ownBlock ≠ _) := fun e => hn3 e.symm) | (at_builtin; refine list_push2 hi hz0 hz1 hz2 (.tmp 46) (.tmp 52) 22 Tryz.underlying22 _ hu3 ho3 hn3.out (by omega) hs3 (by rfl) (by rfl) (by rfl) (by rfl) ?_; intro g4 cap4 w4 ho4 hu4 hn4 hb4; rw [H2.out] at ho4))
          go_roundw
          case rel => exact ⟨t + 1, by omega, by go_num, hu4, ho4, fun e => hn4 e.symm, hbl.trans (hb3.trans hb4)⟩
          case measure => simp [intOf]; omega
        · have e64 : t = 64 := by omega
          subst e64
          rw [n54.out] at hA
          rw [n92.out] at hB
          obtain ⟨pa, ca, hva⟩ := owns_form hA
          subst hva
          obtain ⟨pb, cb, hvb⟩ := owns_form hB
          subst hvb
          have hin3 := in_below hin2 hbl
          have l1x : (M1 ++ xs).length = 64 + m := by rw [List.length_append, l54, hy]
          have y1x : ∀ x ∈ M1 ++ xs, 0 ≤ x ∧ x < 256 := fun x hx => by rcases List.mem_append.1 hx with e | e; exact y54 x e; exact hb' x e
          have CH := fun p5 c5 X h5 => specHash_any p5 (64 + m) c5 (M1 ++ xs) X l1x h5 y1x
          rw [show hashN (64 + m) = 32 from if_pos (by omega)] at CH
          have l32 : (hashL (M1 ++ xs)).length = 32 := hashL_length (by omega)
          have y32 := hashL_byte (M1 ++ xs)
          generalize hashL (M1 ++ xs) = HH at CH l32 y32 HO
          have l2x : (M2 ++ HH).length = 96 := by rw [List.length_append, l92, l32]
          have y2x : ∀ x ∈ M2 ++ HH, 0 ≤ x ∧ x < 256 := fun x hx => by rcases List.mem_append.1 hx with e | e; exact y92 x e; exact y32 x e
          have CH2 := fun p5 c5 X h5 => specHash_any p5 96 c5 (M2 ++ HH) X l2x h5 y2x
          rw [show hashN 96 = 32 from rfl, HO.out] at CH2
          clear m54 m92 n54 n92 hcell hin2
          go_wp2_with (at_builtin; refine list_spread2 hi hz0 hz1 hz2 (.tmp 55) (.tmp 56) 22 Tryz.underlying22 hA hB hne.out hin3 hy (by omega) (by omega) hszx (by rfl) (by rfl) (by rfl) (by rfl) ?_; intro p5 cap5 w5 ho5 hu5 hb5)
          refine (CH _ _ _ (owns_in ho5)).mono ?_
          rintro e w6 ⟨p6, c6, rfl, r6, b6⟩
          have hu6 := owns_below hu5 b6
          have in6 := r6.bytes
          have bel6 : Below w.heap.size w w6 := below_on (below_on hbel (hbl.trans hb5)) b6
          have hs6 : wo.heap.size ≤ w6.heap.size := Nat.le_trans (hbl.trans hb5).size b6.size
          have hsw := hbel.size
          clear CH ho5 hu5 r6 hA hB hb5 b6 hbl hin3
          go_wp2_with (at_builtin; refine list_spreadA hi hz0 hz1 hz2 (.tmp 54) (.tmp 58) 22 Tryz.underlying22 hu6 in6 l32 (by omega) (by omega) hs6 (by rfl) (by rfl) (by rfl) (by rfl) ?_; intro p7 cap7 w7 ho7 hb7)
          refine (CH2 _ _ _ (owns_in ho7)).mono ?_
          rintro e w8 ⟨p8, c8, rfl, r8, b8⟩
          have bel7 : Below w.heap.size w w7 := bel6.trans (hb7.mono hsw)
          have hs7 := bel7.size
          clear CH2 ho7 hu6
          go_wp2
          go_ret
          exact ⟨_, _, rfl, ⟨owns_mono r8.1 (by omega), r8.2⟩, below_on bel7 b8⟩
set_option maxHeartbeats 1000000 in
theorem specMac_big (p q : Option Addr) (n m c d : Nat) (ks xs : List Int) (w : World) (hn : 64 < n) (hn2 : n ≤ 3936) (hm : m ≤ 3936) (hx : ks.length = n) (hy : xs.length = m) (h : BytesIn w p n ks) (h' : BytesIn w q m xs) (hb : ∀ x ∈ ks, 0 ≤ x ∧ x < 256) (hb' : ∀ x ∈ xs, 0 ≤ x ∧ x < 256) :
    Calls Tryz.prog 154 #[.slice p n c, .slice q m d] w fun e w' => ∃ p' c', e = .returned (.slice p' 32 c') ∧ Own 5 w' w.heap.size w'.heap.size (.slice p' 32 c') 32 (ofL (kL ks) xs) ∧ Below w.heap.size w w' := by
  obtain ⟨i0, hi, hz0, hz1, hz2⟩ := info_parts infoByte
  have hkk : kL ks = hashL ks := if_pos (by omega)
  rw [hkk]
  clear hkk
  have d3 : (64 : Int) < (n : Int) := by omega
  have CH := fun p5 c5 X h5 => specHash_any p5 n c5 ks X hx h5 hb
  rw [show hashN n = 32 from if_pos (by omega)] at CH
  have hxk : (hashL ks).length = 32 := hashL_length (by omega)
  have hnk : 32 ≤ 64 := by decide
  generalize hashL ks = kk at CH hxk ⊢
  have d1 : ¬ (3936 : Int) < (n : Int) := by omega
  have d2 : ¬ (3936 : Int) < (m : Int) := by omega
  go_enter Tryz.func154, Tryz.ntmps154
  have hown0 : (w.alloc (.cells #[] 5)).ownsRow w.heap.size 5 1 (.slice (some ⟨w.heap.size, 0, none⟩) 0 0) 0 (([] : List Int).map (Value.int .u8)) := World.ownsRow_made w #[] 0 (Nat.le_refl _) (by unfold maxLen; omega) rfl
  have hb0 : Below w.heap.size w (w.alloc (.cells #[] 5)) := (Below.refl _ _).alloc (Nat.le_refl _) _
  have h1 := in_below h hb0
  have hlen : ks.length = n := hx
  go_wp2_with (at_builtin; refine list_spreadA hi hz0 hz1 hz2 (.tmp 18) (.tmp 19) 22 Tryz.underlying22 hown0 h1 hlen (by omega) (by omega) (by simp) (by rfl) (by rfl) (by rfl) (by rfl) ?_; intro p1 cap1 w1 ho1 hb1; simp only [Nat.zero_add, List.nil_append] at ho1 ⊢; have bk : Below w.heap.size w w1 := hb0.trans hb1; clear hown0 h1 hb1)
  refine (CH _ _ _ (owns_in ho1)).mono ?_
  rintro e wk ⟨pk, ck, rfl, rk, b2⟩
  have ok := owns_mono rk.1 bk.size
  replace bk := below_on bk b2
  clear hb0 ho1 h CH rk b2 hlen
  go_wp2_with (fail)
  go_loopw [5] (fun v wr => ∃ j mm : Nat, Hid (32 + j = mm) ∧ mm ≤ 64 ∧ wr.ownsRow w.heap.size 5 1 v mm ((padT kk j).map (Value.int .u8)) ∧ Below w.heap.size w wr)
    (fun v _ => 64 - sliceLen v)
  case atStart => exact ⟨0, 32, rfl, hnk, by simpa [padT] using ok, bk⟩
  case round =>
    clear ok bk
    obtain ⟨j, mm, hmm, hle, hown, hbel⟩ := hrel
    have hsz := hbel.size
    obtain ⟨pq, cq, hv⟩ := owns_form hown
    subst hv
    by_cases hlt : mm < 64
    · have HX : Hid (padT kk j ++ [0] = padT kk (j + 1)) := padT_step kk j
      go_wp2_with (at_builtin; refine list_push hi hz0 hz1 hz2 (.tmp 29) (.tmp 30) 22 Tryz.underlying22 _ hown (by omega) hsz (by rfl) (by rfl) (by rfl) (by rfl) ?_; intro g3 cap3 w3 ho3 hb3; rw [HX.out] at ho3)
      go_roundw
      case rel => exact ⟨j + 1, mm + 1, by have := hmm.out; rw [Hid]; omega, by omega, ho3, hbel.trans hb3⟩
      case measure => simp only [sliceLen]; omega
    · have e64 : mm = 64 := by omega
      subst e64
      have hkl := keyL_length (xs := kk) (by omega)
      have hpe : padT kk j = keyL kk := padT_end (by have := hmm.out; omega)
      rw [hpe] at hown
      clear hpe hmm
      obtain ⟨gk, hgk⟩ := owns_at hown (by decide)
      subst hgk
      have hgk := hown.lt gk rfl
      have m54 : Hid (∀ i, i < 64 → ∀ u, u = (keyL kk).getD i 0 → mkT kk 54 i ++ [bits BinOp.xor IntKind.u8 u 54] = mkT kk 54 (i + 1)) := fun i hi u hu => mkT_step (by omega) 54 hi u hu
      have m92 : Hid (∀ i, i < 64 → ∀ u, u = (keyL kk).getD i 0 → mkT kk 92 i ++ [bits BinOp.xor IntKind.u8 u 92] = mkT kk 92 (i + 1)) := fun i hi u hu => mkT_step (by omega) 92 hi u hu
      have n54 : Hid (mkT kk 54 64 = markL kk 54) := mkT_end (by omega) 54
      have n92 : Hid (mkT kk 92 64 = markL kk 92) := mkT_end (by omega) 92
      have l54 : (markL kk 54).length = 64 := markL_length (by omega) 54
      have l92 : (markL kk 92).length = 64 := markL_length (by omega) 92
      have y54 := markL_byte kk 54
      have y92 := markL_byte kk 92
      have HO : Hid (hashL (markL kk 92 ++ hashL (markL kk 54 ++ xs)) = ofL kk xs) := rfl
      have z54 : mkT kk 54 0 = [] := rfl
      have z92 : mkT kk 92 0 = [] := rfl
      generalize markL kk 54 = M1 at n54 l54 y54 HO
      generalize markL kk 92 = M2 at n92 l92 y92 HO
      generalize mkT kk 54 = T1 at m54 n54 z54
      generalize mkT kk 92 = T2 at m92 n92 z92
      generalize keyL kk = KL at hown hkl m54 m92
      have hcell : Hid (∀ X, Below wr.heap.size wr X → ∀ i, i < 64 → X.cell? ⟨gk, i, none⟩ = some (.int .u8 (KL.getD i 0))) := fun X hX i hi => by
        rw [hX.cell (p := ⟨gk, i, none⟩) hgk.2, hown.cellAt i hi]
        simp [List.getElem?_map, List.getElem?_eq_getElem (show i < KL.length by omega)]
      have hin2 := in_below h' hbel
      have oa : ((wr.alloc (.cells #[] 5)).alloc (.cells #[] 5)).ownsRow wr.heap.size 5 1 (.slice (some ⟨wr.heap.size, 0, none⟩) 0 0) 0 ((T1 0).map (Value.int .u8)) := by
        rw [z54]
        exact (World.ownsRow_made wr #[] 0 (Nat.le_refl _) (by unfold maxLen; omega) rfl).alloc _
      have ob : ((wr.alloc (.cells #[] 5)).alloc (.cells #[] 5)).ownsRow wr.heap.size 5 1 (.slice (some ⟨wr.heap.size + 1, 0, none⟩) 0 0) 0 ((T2 0).map (Value.int .u8)) := by
        rw [z92]
        have := World.ownsRow_made (base := wr.heap.size) (size := 1) (wr.alloc (.cells #[] 5)) (e := 5) #[] 0 (by simp) (by unfold maxLen; omega) rfl
        simpa using this
      have bab : Below wr.heap.size wr ((wr.alloc (.cells #[] 5)).alloc (.cells #[] 5)) := ((Below.refl _ _).alloc (Nat.le_refl _) _).alloc (by simp) _
      clear z54 z92 hown
      go_wp2_with (fail)
      obtain ⟨wo, hwo⟩ : ∃ wo, wo = wr := ⟨_, rfl⟩
      subst hwo
      go_loopw [6, 7, 8] (fun v u i wx => ∃ (t : Nat), t ≤ 64 ∧ i = .int .i64 t ∧ wx.ownsRow wo.heap.size 5 1 v t ((T1 t).map (Value.int .u8)) ∧ wx.ownsRow wo.heap.size 5 1 u t ((T2 t).map (Value.int .u8)) ∧ Hid (u.ownBlock ≠ v.ownBlock) ∧ Below wo.heap.size wo wx)
        (fun _ _ i _ => 64 - (intOf i).toNat)
      case atStart => exact ⟨0, by omega, rfl, oa, ob, by rw [Hid]; simp [Value.ownBlock], bab⟩
      case round =>
        clear oa ob bab
        obtain ⟨t, ht, rfl, hA, hB, hne, hbl⟩ := hrel
        have hszx := hbl.size
        by_cases hlt2 : t < 64
        · have hc0 := hcell.out wr hbl t hlt2
          obtain ⟨uu, huu⟩ : ∃ uu, uu = KL.getD t 0 := ⟨_, rfl⟩
          rw [← huu] at hc0
          have H1 : Hid (T1 t ++ [bits BinOp.xor IntKind.u8 uu 54] = T1 (t + 1)) := m54.out t hlt2 uu huu
          have H2 : Hid (T2 t ++ [bits BinOp.xor IntKind.u8 uu 92] = T2 (t + 1)) := m92.out t hlt2 uu huu
          have hcX : Hid (∀ X, Below wo.heap.size wr X → X.cell? ⟨gk, t, none⟩ = some (.int .u8 uu)) := fun X hX => (hX.cell (p := ⟨gk, t, none⟩) hgk.2).trans hc0
          clear huu
          go_wp2_with (first | (at_builtin; refine list_push2 hi hz0 hz1 hz2 (.tmp 38) (.tmp 44) 22 Tryz.underlying22 _ hA hB hne.out (by omega) hszx (by rfl) (by rfl) (by rfl) (by rfl) ?_; intro g3 cap3 w3 ho3 hu3 hn3 hb3; rw [H1.out] at ho3; have hc3 := hcX.out w3 hb3; have hs3 := Nat.le_trans hszx hb3.size; replace hn3 : Hid ((Value.slice (some ⟨g3, 0, none⟩) (t + 1) cap3).ownBlock ≠ _) := fun e => hn3 e.symm) | (at_builtin; refine list_push2 hi hz0 hz1 hz2 (.tmp 46) (.tmp 52) 22 Tryz.underlying22 _ hu3 ho3 hn3.out (by omega) hs3 (by rfl) (by rfl) (by rfl) (by rfl) ?_; intro g4 cap4 w4 ho4 hu4 hn4 hb4; rw [H2.out] at ho4))
          go_roundw
          case rel => exact ⟨t + 1, by omega, by go_num, hu4, ho4, fun e => hn4 e.symm, hbl.trans (hb3.trans hb4)⟩
          case measure => simp [intOf]; omega
        · have e64 : t = 64 := by omega
          subst e64
          rw [n54.out] at hA
          rw [n92.out] at hB
          obtain ⟨pa, ca, hva⟩ := owns_form hA
          subst hva
          obtain ⟨pb, cb, hvb⟩ := owns_form hB
          subst hvb
          have hin3 := in_below hin2 hbl
          have l1x : (M1 ++ xs).length = 64 + m := by rw [List.length_append, l54, hy]
          have y1x : ∀ x ∈ M1 ++ xs, 0 ≤ x ∧ x < 256 := fun x hx => by rcases List.mem_append.1 hx with e | e; exact y54 x e; exact hb' x e
          have CH := fun p5 c5 X h5 => specHash_any p5 (64 + m) c5 (M1 ++ xs) X l1x h5 y1x
          rw [show hashN (64 + m) = 32 from if_pos (by omega)] at CH
          have l32 : (hashL (M1 ++ xs)).length = 32 := hashL_length (by omega)
          have y32 := hashL_byte (M1 ++ xs)
          generalize hashL (M1 ++ xs) = HH at CH l32 y32 HO
          have l2x : (M2 ++ HH).length = 96 := by rw [List.length_append, l92, l32]
          have y2x : ∀ x ∈ M2 ++ HH, 0 ≤ x ∧ x < 256 := fun x hx => by rcases List.mem_append.1 hx with e | e; exact y92 x e; exact y32 x e
          have CH2 := fun p5 c5 X h5 => specHash_any p5 96 c5 (M2 ++ HH) X l2x h5 y2x
          rw [show hashN 96 = 32 from rfl, HO.out] at CH2
          clear m54 m92 n54 n92 hcell hin2
          go_wp2_with (at_builtin; refine list_spread2 hi hz0 hz1 hz2 (.tmp 55) (.tmp 56) 22 Tryz.underlying22 hA hB hne.out hin3 hy (by omega) (by omega) hszx (by rfl) (by rfl) (by rfl) (by rfl) ?_; intro p5 cap5 w5 ho5 hu5 hb5)
          refine (CH _ _ _ (owns_in ho5)).mono ?_
          rintro e w6 ⟨p6, c6, rfl, r6, b6⟩
          have hu6 := owns_below hu5 b6
          have in6 := r6.bytes
          have bel6 : Below w.heap.size w w6 := below_on (below_on hbel (hbl.trans hb5)) b6
          have hs6 : wo.heap.size ≤ w6.heap.size := Nat.le_trans (hbl.trans hb5).size b6.size
          have hsw := hbel.size
          clear CH ho5 hu5 r6 hA hB hb5 b6 hbl hin3
          go_wp2_with (at_builtin; refine list_spreadA hi hz0 hz1 hz2 (.tmp 54) (.tmp 58) 22 Tryz.underlying22 hu6 in6 l32 (by omega) (by omega) hs6 (by rfl) (by rfl) (by rfl) (by rfl) ?_; intro p7 cap7 w7 ho7 hb7)
          refine (CH2 _ _ _ (owns_in ho7)).mono ?_
          rintro e w8 ⟨p8, c8, rfl, r8, b8⟩
          have bel7 : Below w.heap.size w w7 := bel6.trans (hb7.mono hsw)
          have hs7 := bel7.size
          clear CH2 ho7 hu6
          go_wp2
          go_ret
          exact ⟨_, _, rfl, ⟨owns_mono r8.1 (by omega), r8.2⟩, below_on bel7 b8⟩
theorem specMac_yes (p q : Option Addr) (n m c d : Nat) (ks xs : List Int) (w : World) (hn : n ≤ 3936) (hm : m ≤ 3936) (hx : ks.length = n) (hy : xs.length = m) (h : BytesIn w p n ks) (h' : BytesIn w q m xs) (hb : ∀ x ∈ ks, 0 ≤ x ∧ x < 256) (hb' : ∀ x ∈ xs, 0 ≤ x ∧ x < 256) :
    Calls Tryz.prog 154 #[.slice p n c, .slice q m d] w fun e w' => ∃ p' c', e = .returned (.slice p' 32 c') ∧ Own 5 w' w.heap.size w'.heap.size (.slice p' 32 c') 32 (ofL (kL ks) xs) ∧ Below w.heap.size w w' := by
  by_cases h64 : n ≤ 64
  · exact specMac_small p q n m c d ks xs w h64 hm hx hy h h' hb hb'
  · exact specMac_big p q n m c d ks xs w (by omega) hn hm hx hy h h' hb hb'
theorem specMac_no (p q : Option Addr) (n m c d : Nat) (w : World) (hn : ¬ (n ≤ 3936 ∧ m ≤ 3936)) :
    Calls Tryz.prog 154 #[.slice p n c, .slice q m d] w fun e w' => ∃ p' c', e = .returned (.slice p' 0 c') ∧ Own 5 w' w.heap.size w'.heap.size (.slice p' 0 c') 0 [] ∧ Below w.heap.size w w' := by
  by_cases h1 : n ≤ 3936
  · have d1 : ¬ (3936 : Int) < (n : Int) := by omega
    have d2 : (3936 : Int) < (m : Int) := by omega
    go_enter Tryz.func154, Tryz.ntmps154
    go_wp2
    go_ret
    exact ⟨_, _, rfl, .of (World.ownsRow_made w #[] 0 (Nat.le_refl _) (by unfold maxLen; omega) rfl), (Below.refl _ _).alloc (Nat.le_refl _) _⟩
  · have d1 : (3936 : Int) < (n : Int) := by omega
    go_enter Tryz.func154, Tryz.ntmps154
    go_wp2
    go_ret
    exact ⟨_, _, rfl, .of (World.ownsRow_made w #[] 0 (Nat.le_refl _) (by unfold maxLen; omega) rfl), (Below.refl _ _).alloc (Nat.le_refl _) _⟩
theorem specMac_any (p q : Option Addr) (n m c d : Nat) (ks xs : List Int) (w : World) (hx : ks.length = n) (hy : xs.length = m) (h : BytesIn w p n ks) (h' : BytesIn w q m xs) (hb : ∀ x ∈ ks, 0 ≤ x ∧ x < 256) (hb' : ∀ x ∈ xs, 0 ≤ x ∧ x < 256) :
    Calls Tryz.prog 154 #[.slice p n c, .slice q m d] w fun e w' => ∃ p' c', e = .returned (.slice p' (macN n m) c') ∧ Own 5 w' w.heap.size w'.heap.size (.slice p' (macN n m) c') (macN n m) (macL ks xs) ∧ Below w.heap.size w w' := by
  unfold macN macL
  rw [hx, hy]
  by_cases hn : n ≤ 3936 ∧ m ≤ 3936
  · rw [if_pos hn, if_pos hn]
    exact specMac_yes p q n m c d ks xs w hn.1 hn.2 hx hy h h' hb hb'
  · rw [if_neg hn, if_neg hn]
    exact specMac_no p q n m c d w hn
def saltN (n : Nat) : Nat := if n = 0 then 32 else n
def saltL (xs : List Int) : List Int := if xs.length = 0 then List.replicate 32 0 else xs
def extN (n m : Nat) : Nat := macN (saltN n) m
def extL (xs ys : List Int) : List Int := macL (saltL xs) ys
theorem extN_le (n m : Nat) : extN n m ≤ 32 := macN_le _ _
theorem saltL_length (xs : List Int) : (saltL xs).length = saltN xs.length := by
  unfold saltL saltN
  split
  · exact List.length_replicate
  · rfl
theorem extL_length (xs ys : List Int) : (extL xs ys).length = extN xs.length ys.length := by rw [extL, macL_length, saltL_length]; rfl
theorem extL_byte (xs ys : List Int) : ∀ x ∈ extL xs ys, 0 ≤ x ∧ x < 256 := macL_byte _ _
theorem rep_byte : ∀ x ∈ List.replicate 32 (0 : Int), 0 ≤ x ∧ x < 256 := fun x hx => by
  have := List.eq_of_mem_replicate hx
  omega
theorem make32 (W : World) : (Instr.makeSlice 22 (.int .i64 32) (.int .i64 32)).run Tryz.prog W = .ok (.slice (some ⟨W.heap.size, 0, none⟩) 32 32) (W.alloc (.cells (madeCells #[.int .u8 0] 32) 5)) := by
  obtain ⟨i0, hi, hz0, hz1, hz2⟩ := info_parts infoByte
  have := run_makeSlice (P := Tryz.prog) W 22 5 i0 (.int .u8 0) Tryz.underlying22 hi hz0 .i64 .i64 32 32 (by omega) (by omega) (by rw [hz1]; simp) (by rw [hz2]; omega) (by omega)
  rw [hz1] at this
  exact this
set_option maxHeartbeats 1000000 in
theorem implExtract_any (p q : Option Addr) (n m c d : Nat) (xs ys : List Int) (w : World) (hx : xs.length = n) (hy : ys.length = m) (h : BytesIn w p n xs) (h' : BytesIn w q m ys) (hb : ∀ x ∈ xs, 0 ≤ x ∧ x < 256) (hb' : ∀ x ∈ ys, 0 ≤ x ∧ x < 256) (hK : KeysIs w) :
    Calls Tryz.prog 104 #[.slice p n c, .slice q m d] w fun e w' => ∃ p' c', e = .returned (.slice p' (extN n m) c') ∧ Own 5 w' w.heap.size w'.heap.size (.slice p' (extN n m) c') (extN n m) (extL xs ys) ∧ Below w.heap.size w w' := by
  unfold extN extL saltN saltL
  rw [hx]
  by_cases h0 : n = 0
  · subst h0
    rw [if_pos rfl, if_pos rfl]
    have hmk := make32
    have hin0 := in_zeros w 5 32
    have C := fun X h1 h2 hKX => implMac_any (some ⟨w.heap.size, 0, none⟩) q 32 m 32 d (List.replicate 32 0) ys X List.length_replicate hy h1 h2 rep_byte hb' hKX
    generalize madeCells #[Value.int .u8 0] 32 = Zc at hmk hin0
    generalize List.replicate 32 (0 : Int) = R at hin0 C ⊢
    have ba : Below w.heap.size w (w.alloc (.cells Zc 5)) := (Below.refl _ _).alloc (Nat.le_refl _) _
    have hin1 := in_below h' ba
    have hK1 := keys_below hK ba
    clear hx
    go_enter Tryz.func104, Tryz.ntmps104
    go_wp2_with (fail)
    refine (C _ hin0 hin1 hK1).mono ?_
    rintro e w1 ⟨p1, c1, rfl, r1, b1⟩
    have hs := ba.size
    go_wp2
    go_ret
    exact ⟨_, _, rfl, ⟨owns_mono r1.1 hs, r1.2⟩, below_on ba b1⟩
  · rw [if_neg h0, if_neg h0]
    have d1 : ((n : Int) == 0) = false := beq_eq_false_iff_ne.2 (by omega)
    have C := implMac_any p q n m c d xs ys w hx hy h h' hb hb' hK
    go_enter Tryz.func104, Tryz.ntmps104
    go_wp2_with (fail)
    refine C.mono ?_
    rintro e w1 ⟨p1, c1, rfl, r1, b1⟩
    go_wp2
    go_ret
    exact ⟨_, _, rfl, r1, b1⟩
set_option maxHeartbeats 1000000 in
theorem specExtract_any (p q : Option Addr) (n m c d : Nat) (xs ys : List Int) (w : World) (hx : xs.length = n) (hy : ys.length = m) (h : BytesIn w p n xs) (h' : BytesIn w q m ys) (hb : ∀ x ∈ xs, 0 ≤ x ∧ x < 256) (hb' : ∀ x ∈ ys, 0 ≤ x ∧ x < 256) :
    Calls Tryz.prog 114 #[.slice p n c, .slice q m d] w fun e w' => ∃ p' c', e = .returned (.slice p' (extN n m) c') ∧ Own 5 w' w.heap.size w'.heap.size (.slice p' (extN n m) c') (extN n m) (extL xs ys) ∧ Below w.heap.size w w' := by
  unfold extN extL saltN saltL
  rw [hx]
  by_cases h0 : n = 0
  · subst h0
    rw [if_pos rfl, if_pos rfl]
    have hmk := make32
    have hin0 := in_zeros w 5 32
    have C := fun X h1 h2 => specMac_any (some ⟨w.heap.size, 0, none⟩) q 32 m 32 d (List.replicate 32 0) ys X List.length_replicate hy h1 h2 rep_byte hb'
    generalize madeCells #[Value.int .u8 0] 32 = Zc at hmk hin0
    generalize List.replicate 32 (0 : Int) = R at hin0 C ⊢
    have ba : Below w.heap.size w (w.alloc (.cells Zc 5)) := (Below.refl _ _).alloc (Nat.le_refl _) _
    have hin1 := in_below h' ba
    clear hx
    go_enter Tryz.func114, Tryz.ntmps114
    go_wp2_with (fail)
    refine (C _ hin0 hin1).mono ?_
    rintro e w1 ⟨p1, c1, rfl, r1, b1⟩
    have hs := ba.size
    go_wp2
    go_ret
    exact ⟨_, _, rfl, ⟨owns_mono r1.1 hs, r1.2⟩, below_on ba b1⟩
  · rw [if_neg h0, if_neg h0]
    have d1 : ((n : Int) == 0) = false := beq_eq_false_iff_ne.2 (by omega)
    have C := specMac_any p q n m c d xs ys w hx hy h h' hb hb'
    go_enter Tryz.func114, Tryz.ntmps114
    go_wp2_with (fail)
    refine C.mono ?_
    rintro e w1 ⟨p1, c1, rfl, r1, b1⟩
    go_wp2
    go_ret
    exact ⟨_, _, rfl, r1, b1⟩
end Go.Proofs.YtnpffnhiefgglaaGreatDoor
namespace Go.Proofs.YtnpffnhiefgglaaGreatDoor
set_option maxRecDepth 100000
def tL (k info : List Int) : Nat → List Int
  | 0 => []
  | i + 1 => ofL k (tL k info i ++ info ++ [((i + 1 : Nat) : Int)])
def allL (k info : List Int) : Nat → List Int
  | 0 => []
  | i + 1 => allL k info i ++ tL k info (i + 1)
section
variable {k info : List Int}
theorem tL_text (hk : k.length ≤ 64) (hi : info.length ≤ 400) : ∀ i, (tL k info i).length ≤ 32 ∧ (tL k info i ++ info ++ [((i + 1 : Nat) : Int)]).length ≤ 3936
  | 0 => by simp [tL]; omega
  | i + 1 => by
    have h := (tL_text hk hi i).2
    have e : (tL k info (i + 1)).length = 32 := ofL_length hk h
    refine ⟨by omega, ?_⟩
    simp only [List.length_append, e, List.length_singleton]
    omega
theorem tL_length (hk : k.length ≤ 64) (hi : info.length ≤ 400) (i : Nat) : (tL k info (i + 1)).length = 32 := ofL_length hk (tL_text hk hi i).2
theorem tL_byte : ∀ i, ∀ x ∈ tL k info i, 0 ≤ x ∧ x < 256
  | 0 => fun x hx => by simp [tL] at hx
  | i + 1 => ofL_byte _ _
theorem text_byte (hb : ∀ x ∈ info, 0 ≤ x ∧ x < 256) {i : Nat} (hi : i + 1 < 256) : ∀ x ∈ tL k info i ++ info ++ [((i + 1 : Nat) : Int)], 0 ≤ x ∧ x < 256 := by
  intro x hx
  simp only [List.mem_append, List.mem_singleton] at hx
  rcases hx with (h | h) | h
  · exact tL_byte i x h
  · exact hb x h
  · omega
theorem allL_length (hk : k.length ≤ 64) (hi : info.length ≤ 400) : ∀ i, (allL k info i).length = 32 * i
  | 0 => rfl
  | i + 1 => by rw [allL, List.length_append, allL_length hk hi i, tL_length hk hi]; omega
theorem allL_byte : ∀ i, ∀ x ∈ allL k info i, 0 ≤ x ∧ x < 256
  | 0 => fun x hx => by simp [allL] at hx
  | i + 1 => fun x hx => by
    rcases List.mem_append.1 hx with h | h
    · exact allL_byte i x h
    · exact tL_byte _ x h
theorem all_step (hk : k.length ≤ 64) (hi : info.length ≤ 400) {M i x : Nat} (h : 32 * i < M) (hx : x = min 32 (M - 32 * i)) : (allL k info i).take M ++ (tL k info (i + 1)).take x = (allL k info (i + 1)).take M := by
  have l1 := allL_length hk hi i
  have l2 := tL_length hk hi i
  rw [allL, List.take_append, List.take_of_length_le (show (allL k info i).length ≤ M by omega), l1]
  congr 1
  by_cases h32 : M - 32 * i ≤ 32
  · rw [show x = M - 32 * i by omega]
  · rw [List.take_of_length_le (show (tL k info (i + 1)).length ≤ x by omega), List.take_of_length_le (show (tL k info (i + 1)).length ≤ M - 32 * i by omega)]
theorem all_more (hk : k.length ≤ 64) (hi : info.length ≤ 400) {M i : Nat} (h : M ≤ 32 * i) : ∀ d, (allL k info (i + d)).take M = (allL k info i).take M
  | 0 => rfl
  | d + 1 => by
    have l1 := allL_length hk hi (i + d)
    rw [← Nat.add_assoc, allL, List.take_append_of_le_length (by omega), all_more hk hi h d]
theorem all_same (hk : k.length ≤ 64) (hi : info.length ≤ 400) {M i j : Nat} (h1 : M ≤ 32 * i) (h2 : M ≤ 32 * j) : (allL k info i).take M = (allL k info j).take M := by
  rcases Nat.le_total i j with h | h
  · obtain ⟨d, rfl⟩ := Nat.exists_eq_add_of_le h
    exact (all_more hk hi h1 d).symm
  · obtain ⟨d, rfl⟩ := Nat.exists_eq_add_of_le h
    exact all_more hk hi h2 d
end
def expOk (n m : Nat) (many : Int) : Prop := 1 ≤ many ∧ many ≤ 8160 ∧ m ≤ 400 ∧ n ≤ 400
instance (n m : Nat) (many : Int) : Decidable (expOk n m many) := inferInstanceAs (Decidable (_ ∧ _ ∧ _ ∧ _))
def expN (n m : Nat) (many : Int) : Nat := if expOk n m many then many.toNat else 0
def expL (key info : List Int) (many : Int) : List Int := if expOk key.length info.length many then (allL (kL key) info ((many.toNat + 31) / 32)).take many.toNat else []
theorem exp_yes {n m M : Nat} (h1 : 1 ≤ M) (h2 : M ≤ 8160) (hm : m ≤ 400) (hn : n ≤ 400) : expOk n m (M : Int) := ⟨by omega, by omega, hm, hn⟩
theorem exp_is {key info : List Int} {M i : Nat} (h1 : 1 ≤ M) (h2 : M ≤ 8160) (hm : info.length ≤ 400) (hn : key.length ≤ 400) (hi : M ≤ 32 * i) : expL key info (M : Int) = (allL (kL key) info i).take M := by
  unfold expL
  rw [if_pos (exp_yes h1 h2 hm hn), Int.toNat_natCast]
  exact all_same (kL_length (by omega)) hm (by omega) hi
theorem expN_is {n m M : Nat} (h1 : 1 ≤ M) (h2 : M ≤ 8160) (hm : m ≤ 400) (hn : n ≤ 400) : expN n m (M : Int) = M := by
  unfold expN
  rw [if_pos (exp_yes h1 h2 hm hn), Int.toNat_natCast]
theorem expL_length (key info : List Int) (many : Int) : (expL key info many).length = expN key.length info.length many := by
  unfold expL expN
  split
  · rename_i h
    obtain ⟨h1, h2, h3, h4⟩ := h
    rw [List.length_take, allL_length (kL_length (by omega)) h3]
    omega
  · rfl
theorem expL_byte (key info : List Int) (many : Int) : ∀ x ∈ expL key info many, 0 ≤ x ∧ x < 256 := by
  unfold expL
  split
  · exact fun x hx => allL_byte _ x (List.mem_of_mem_take hx)
  · intro x hx; simp at hx
end Go.Proofs.YtnpffnhiefgglaaGreatDoor
namespace Go.Proofs.YtnpffnhiefgglaaGreatDoor
open Go.RowKit
set_option maxRecDepth 100000
theorem concatE3 (p0 p1 p2 : Option Addr) (n0 n1 n2 c0 c1 c2 : Nat) (xs0 xs1 xs2 : List Int) (w0 : World) (hx0 : xs0.length = n0) (hx1 : xs1.length = n1) (hx2 : xs2.length = n2) (h0 : 0 < n0 + n1 + n2) (hs1 : n0 + n1 + n2 ≤ 1048576)
    (i0 : BytesIn w0 p0 n0 xs0) (i1 : BytesIn w0 p1 n1 xs1) (i2 : BytesIn w0 p2 n2 xs2) (gr : Nat) (hgr : w0.heap.size = gr) :
    Calls Tryz.prog 68 #[.slice (some ⟨gr, 0, none⟩) 3 3] (w0.alloc (.cells #[.slice p0 n0 c0, .slice p1 n1 c1, .slice p2 n2 c2] 22)) fun e w' =>
      ∃ p' c', e = .returned (.slice p' (n0 + n1 + n2) c') ∧ Own 5 w' w0.heap.size w'.heap.size (.slice p' (n0 + n1 + n2) c') (n0 + n1 + n2) (xs0 ++ xs1 ++ xs2) ∧ Below w0.heap.size w0 w' := by
  subst hgr
  have ba : Below w0.heap.size w0 (w0.alloc (.cells #[.slice p0 n0 c0, .slice p1 n1 c1, .slice p2 n2 c2] 22)) := (Below.refl _ _).alloc (Nat.le_refl _) _
  have hs : sumN (fun k => match k with | 0 => n0 | 1 => n1 | _ => n2) 3 = n0 + n1 + n2 := by simp [sumN]
  have hc : catL (fun k => match k with | 0 => xs0 | 1 => xs1 | _ => xs2) 3 = xs0 ++ xs1 ++ xs2 := by simp [catL]
  have h := concat_any w0.heap.size 3 (fun k => match k with | 0 => p0 | 1 => p1 | _ => p2) (fun k => match k with | 0 => n0 | 1 => n1 | _ => n2) (fun k => match k with | 0 => c0 | 1 => c1 | _ => c2) (fun k => match k with | 0 => xs0 | 1 => xs1 | _ => xs2)
    (w0.alloc (.cells #[.slice p0 n0 c0, .slice p1 n1 c1, .slice p2 n2 c2] 22)) (by decide)
    (fun k hk => by
      rw [cell_of_row _ _ k _ _ _ (heap_alloc_new w0 _)]
      match k, hk with
      | 0, _ => rfl
      | 1, _ => rfl
      | 2, _ => rfl)
    (fun k hk => by
      match k, hk with
      | 0, _ => exact hx0
      | 1, _ => exact hx1
      | 2, _ => exact hx2)
    (fun k hk => by
      match k, hk with
      | 0, _ => exact in_below i0 ba
      | 1, _ => exact in_below i1 ba
      | 2, _ => exact in_below i2 ba)
    (by rw [hs]; omega) (by rw [hs]; omega)
  rw [hs, hc] at h
  refine h.mono ?_
  rintro e w' ⟨p', c', rfl, r, b⟩
  exact ⟨p', c', rfl, ⟨owns_mono r.1 (by simp), r.2⟩, below_on ba b⟩
theorem in_byte (w : World) (ty : Nat) (x : Int) : BytesIn (w.alloc (.cells #[.int .u8 x] ty)) (some ⟨w.heap.size, 0, none⟩) 1 [x] := by
  intro _
  refine ⟨w.heap.size, 0, rfl, fun i hi => ?_⟩
  obtain rfl : i = 0 := by omega
  exact in_one w ty x
theorem make_room (M : Nat) (hM : M ≤ 8160) (W : World) : (Instr.makeSlice 22 (.int .i64 0) (.int .i64 (M : Int))).run Tryz.prog W = .ok (.slice (some ⟨W.heap.size, 0, none⟩) 0 M) (W.alloc (.cells (madeCells #[.int .u8 0] M) 5)) := by
  obtain ⟨i0, hi, hz0, hz1, hz2⟩ := info_parts infoByte
  have := run_makeSlice (P := Tryz.prog) W 22 5 i0 (.int .u8 0) Tryz.underlying22 hi hz0 .i64 .i64 0 M (by omega) (by omega) (by rw [hz1]; simp; omega) (by rw [hz2]; omega) (by omega)
  rw [hz1] at this
  simpa [Value.cells] using this
set_option maxHeartbeats 1000000 in
theorem implExpand_yes (p q : Option Addr) (n m c d M : Nat) (ks xs : List Int) (w : World) (hM1 : 1 ≤ M) (hM2 : M ≤ 8160) (hn : n ≤ 400) (hm : m ≤ 400) (hx : ks.length = n) (hy : xs.length = m) (h : BytesIn w p n ks) (h' : BytesIn w q m xs) (hb : ∀ x ∈ ks, 0 ≤ x ∧ x < 256) (hb' : ∀ x ∈ xs, 0 ≤ x ∧ x < 256) (hK : KeysIs w) :
    Calls Tryz.prog 103 #[.slice p n c, .slice q m d, .int .i64 (M : Int)] w fun e w' => ∃ p' c', e = .returned (.slice p' M c') ∧ Own 5 w' w.heap.size w'.heap.size (.slice p' M c') M (expL ks xs (M : Int)) ∧ Below w.heap.size w w' := by
  obtain ⟨i0, hi, hz0, hz1, hz2⟩ := info_parts infoByte
  have d1 : ¬ (400 : Int) < (n : Int) := by omega
  have d2 : ¬ (400 : Int) < (m : Int) := by omega
  have d3 : ¬ (M : Int) < 1 := by omega
  have d4 : ¬ (8160 : Int) < (M : Int) := by omega
  have CN := newCode_any p n c ks w (by omega) hx h hb hK
  have hkl := kL_length (key := ks) (by omega)
  have HE : Hid (∀ i, M ≤ 32 * i → expL ks xs (M : Int) = (allL (kL ks) xs i).take M) := fun i hi => exp_is hM1 hM2 (by omega) (by omega) hi
  generalize kL ks = kk at CN hkl HE
  have CO := fun (q : Option Addr) (n c : Nat) (xs : List Int) (X : World) => codeOf_any kk q n c xs X hkl
  have hCl := codeC_length hkl
  have hC1 := codeC_one kk
  generalize codeC kk = Cs at CN CO hCl hC1
  have hsz0 := (zero_of_info infoCode).2
  have hzv := (zero_of_info infoCode).1
  have hszC : (Tryz.prog.info? 170).map (·.size) = some Cs.length := by rw [hCl]; exact hsz0
  have hszC2 : (Tryz.prog.info? 170).map (·.size) = some Cs.toArray.size := by simpa using hszC
  have m1 := zCode_made
  have hmk := make_room M hM2
  have hzz : Hid (zCode = hashC (List.replicate 8 0) zeroL zero64 ++ hashC (List.replicate 8 0) zeroL zero64) := rfl
  rw [← hzz.out] at hzv
  generalize zCode = ZC at hzv m1 hzz
  clear hzz
  go_enter Tryz.func103, Tryz.ntmps103
  go_wp2_with (fail)
  refine CN.mono ?_
  rintro e w1 ⟨rfl, b1⟩
  clear CN h
  have oa := m1 w1 w.heap.size b1.size
  have ba : Below w.heap.size w (w1.alloc (.cells ZC.toArray 170)) := b1.alloc b1.size _
  have hth : (w1.alloc (.cells ZC.toArray 170)).there w1.heap.size 0 Cs.toArray.size := by rw [show Cs.toArray.size = 272 by simpa using hCl]; exact owns_there oa
  have hp := code_put oa hCl
  have b2 : Below w.heap.size w ((w1.alloc (.cells ZC.toArray 170)).setCells w1.heap.size 0 Cs) := ba.grown hp.2 ba.size (fun k hk => by cases hk; exact b1.size)
  have hr2 := owns_range hp.1
  have hlt2 := (hp.1.lt w1.heap.size rfl).2
  clear oa ba hp m1
  obtain ⟨ZA, hZA⟩ : ∃ ZA, ZA = ZC.toArray := ⟨_, rfl⟩
  rw [← hZA] at hzv hth b2 hr2 hlt2
  clear hZA
  go_wp2_with (refine wpList_store_mid rfl 170 _ _ rfl w1.heap.size 0 Cs.toArray rfl rfl hth hszC2 (all_oneCell_toArray hC1) ?_)
  have hown4 : (((w1.alloc (.cells ZA 170)).setCells w1.heap.size 0 Cs).alloc (.cells (madeCells #[.int .u8 0] M) 5)).ownsRow ((w1.alloc (.cells ZA 170)).setCells w1.heap.size 0 Cs).heap.size 5 1 (.slice (some ⟨((w1.alloc (.cells ZA 170)).setCells w1.heap.size 0 Cs).heap.size, 0, none⟩) 0 M) 0 (([] : List Int).map (Value.int .u8)) :=
    World.ownsRow_made _ _ M (Nat.le_refl _) (by unfold maxLen; omega) (by rw [← Array.length_toList, toList_madeCells_one]; simp)
  generalize (w1.alloc (.cells ZA 170)).setCells w1.heap.size 0 Cs = w2 at hown4 hlt2 hr2 b2 ⊢
  generalize w1.heap.size = gc at hlt2 hr2 ⊢
  have ba : Below w2.heap.size w2 (w2.alloc (.cells (madeCells #[.int .u8 0] M) 5)) := (Below.refl _ _).alloc (Nat.le_refl _) _
  generalize w2.alloc (.cells (madeCells #[.int .u8 0] M) 5) = w4 at hown4 ba ⊢
  clear hth hzv hmk hsz0 hszC2 hC1 hb hx b1
  have hin2 := in_below h' b2
  have hK2 := keys_below hK b2
  have HA : Hid (∀ i x, 32 * i < M → x = min 32 (M - 32 * i) → (allL kk xs i).take M ++ (tL kk xs (i + 1)).take x = (allL kk xs (i + 1)).take M) := fun i x h1 h2 => all_step hkl (by omega) h1 h2
  have HT : Hid (∀ i, (tL kk xs (i + 1)).length = 32) := fun i => tL_length hkl (by omega) i
  have HTt : Hid (∀ i, (tL kk xs i).length ≤ 32) := fun i => (tL_text hkl (by omega) i).1
  have HTb : Hid (∀ i, i + 1 < 256 → ∀ x ∈ tL kk xs i ++ xs ++ [((i + 1 : Nat) : Int)], 0 ≤ x ∧ x < 256) := fun i hi => text_byte hb' hi
  have HTe : Hid (∀ i, ofL kk (tL kk xs i ++ xs ++ [((i + 1 : Nat) : Int)]) = tL kk xs (i + 1)) := fun _ => rfl
  have z0 : (allL kk xs 0).take M = [] := by simp [allL]
  have zt : tL kk xs 0 = [] := rfl
  go_loopw [8, 9, 10] (fun v u i wr => ∃ (k j mm nl cl : Nat) (pl : Option Addr), Hid (j = k + 1) ∧ Hid (mm = min (32 * k) M) ∧ mm ≤ M ∧ i = .int .i64 j ∧ 1 ≤ j ∧ wr.ownsRow w2.heap.size 5 1 v mm (((allL kk xs k).take M).map (Value.int .u8)) ∧ u = .slice pl nl cl ∧ Hid ((tL kk xs k).length = nl) ∧ BytesIn wr pl nl (tL kk xs k) ∧ Below w2.heap.size w2 wr)
    (fun v _ _ _ => M - sliceLen v)
  case atStart => exact ⟨0, 1, 0, 0, 0, none, rfl, by rw [Hid]; omega, by omega, rfl, by omega, by rw [z0]; exact hown4, rfl, rfl, fun h0 => absurd h0 (by omega), ba⟩
  case round =>
    clear hown4 ba z0 zt
    obtain ⟨k, j, mm, nl, cl, pl, hj, hmm, hle, rfl, hj1, hown, rfl, hnl, hinl, hbl⟩ := hrel
    have hszr := hbl.size
    obtain ⟨pv, cv, hv⟩ := owns_form hown
    subst hv
    by_cases hlt : mm < M
    · have hkM : 32 * k < M := by have := hmm.out; omega
      have hj255 : j ≤ 255 := by have := hj.out; omega
      have hnl32 : nl ≤ 32 := by have := hnl.out; have := HTt.out k; omega
      have hw8 : IntKind.u8.wrap (j : Int) = (j : Int) := by rw [IntKind.wrap_u8]; omega
      have hgcv : ∀ g, (Value.slice pv mm cv).ownBlock = some g → w2.heap.size ≤ g ∧ g < wr.heap.size := fun g hg => hown.lt g hg
      have hrr : wr.rangeAt gc 0 Cs := range_below hr2 hbl hlt2
      go_wp2_with (fail)
      refine wp_region_noPanic ?_
      refine wp_region_held_drew (S := fun X => X.rangeAt gc 0 Cs ∧ True) (by kernel_rfl) ⟨by rw [World.rangeAt_drew]; exact hrr, trivial⟩ (fun hHeld => ?_)
      refine wpAnyH_take (i := 0) rfl (by kernel_rfl) (by kernel_rfl) (by kernel_rfl) (fun _ _ _ h => h) (yieldsIf_load_mid (by rfl) _ _ rfl _ _ rfl Cs _ (fun _ hw => hw.1) Tryz.underlying170 rfl hszC) hHeld ?_
      simp only [Act.put, List.getElem_toArray, List.getElem_cons_zero, List.setIfInBounds_toArray, List.set_cons_zero, List.set_cons_succ]
      refine wpAnyH_take (i := 1) (v := .slice pl nl cl) rfl (by kernel_rfl) (by kernel_rfl) (by kernel_rfl) (fun _ _ _ h => h) (Or.inl ⟨by rfl, fun w hSw => by (try dsimp only at hSw); go_simp⟩) hHeld ?_
      simp only [Act.put, List.getElem_toArray, List.getElem_cons_zero, List.getElem_cons_succ, List.setIfInBounds_toArray, List.set_cons_zero, List.set_cons_succ]
      refine wpAnyH_take (i := 2) (v := .slice q m d) rfl (by kernel_rfl) (by kernel_rfl) (by kernel_rfl) (fun _ _ _ h => h) (Or.inl ⟨by rfl, fun w hSw => by (try dsimp only at hSw); go_simp⟩) hHeld ?_
      simp only [Act.put, List.getElem_toArray, List.getElem_cons_zero, List.getElem_cons_succ, List.setIfInBounds_toArray, List.set_cons_zero, List.set_cons_succ]
      refine wpAnyH_take (i := 3) (v := .int .i64 (j : Int)) rfl (by kernel_rfl) (by kernel_rfl) (by kernel_rfl) (fun _ _ _ h => h) (Or.inl ⟨by rfl, fun w hSw => by (try dsimp only at hSw); go_simp⟩) hHeld ?_
      simp only [Act.put, List.getElem_toArray, List.getElem_cons_zero, List.getElem_cons_succ, List.setIfInBounds_toArray, List.set_cons_zero, List.set_cons_succ]
      refine wpAnyH_take (i := 4) (v := .int .u8 (j : Int)) rfl (by kernel_rfl) (by kernel_rfl) (by kernel_rfl) (fun _ _ _ h => h) (Or.inl ⟨by rfl, fun w hSw => by (try dsimp only at hSw); go_simp⟩) hHeld ?_
      simp only [Act.put, List.getElem_toArray, List.getElem_cons_zero, List.getElem_cons_succ, List.setIfInBounds_toArray, List.set_cons_zero, List.set_cons_succ]
      have bd : Below wr.heap.size wr wr.drew := (Below.refl _ _).drew
      have hsd : wr.drew.heap.size = wr.heap.size := rfl
      generalize wr.drew = wd at bd hsd hHeld ⊢
      refine wpAnyH_ready (rs := [5]) (by kernel_rfl) (by simp) ?_
      refine AllReadyH.cons rfl (fun K hK => ?_) AllReadyH.nil
      go_simp
      have be : Below wd.heap.size wd (wd.alloc (.cells #[.int .u8 (j : Int)] 5)) := (Below.refl _ _).alloc (Nat.le_refl _) _
      have ie := in_byte wd 5 (j : Int)
      have hre : (wd.alloc (.cells #[.int .u8 (j : Int)] 5)).rangeAt gc 0 Cs := range_below hHeld.1 be (by omega)
      have bE := below_on bd be
      have hsE : (wd.alloc (.cells #[.int .u8 (j : Int)] 5)).heap.size = wd.heap.size + 1 := by simp
      rw [hsd] at ie hsE
      generalize wd.alloc (.cells #[.int .u8 (j : Int)] 5) = we at ie hre bE hsE ⊢
      refine hK.out _ _ ⟨hre, trivial⟩ (fun hHeld => ?_)
      clear hK K be bd
      refine wpAnyH_ready (rs := [6]) (by kernel_rfl) (by simp) ?_
      refine AllReadyH.cons rfl (fun K hK => ?_) AllReadyH.nil
      go_simp
      have bf : Below we.heap.size we (we.alloc (.cells #[.slice pl nl cl, .slice q m d, .slice (some ⟨wr.heap.size, 0, none⟩) 1 1] 22)) := (Below.refl _ _).alloc (Nat.le_refl _) _
      refine hK.out _ _ ⟨range_below hre bf (by omega), trivial⟩ (fun hHeld => ?_)
      clear hK K bf
      have hTX : ofL kk (tL kk xs k ++ xs ++ [(j : Int)]) = tL kk xs (k + 1) := by rw [hj.out]; exact HTe.out k
      have hTB : ∀ x ∈ tL kk xs k ++ xs ++ [(j : Int)], 0 ≤ x ∧ x < 256 := by rw [hj.out]; exact HTb.out k (by have := hj.out; omega)
      have hTl : (tL kk xs k ++ xs ++ [(j : Int)]).length = nl + m + 1 := by simp only [List.length_append, hnl.out, hy, List.length_singleton]
      refine wpAnyH_ready (rs := [7]) (by kernel_rfl) (by simp) ?_
      refine AllReadyH.cons rfl (fun K hK => ?_) AllReadyH.nil
      go_simp
      refine (concatE3 pl q (some ⟨wr.heap.size, 0, none⟩) nl m 1 _ _ _ (tL kk xs k) xs [(j : Int)] we hnl.out hy rfl (by omega) (by omega) (in_below hinl bE) (in_below (in_below hin2 hbl) bE) ie _ hsE).mono ?_
      rintro e wg ⟨pg, cg, rfl, rg, bg⟩
      go_wp2_with (fail)
      have hrg : wg.rangeAt gc 0 Cs := range_below hre bg (by omega)
      refine hK.out _ _ ⟨hrg, trivial⟩ (fun hHeld => ?_)
      clear hK K
      have bG := below_on bE bg
      refine wpAnyH_ready (rs := [8]) (by kernel_rfl) (by simp) ?_
      refine AllReadyH.cons rfl (fun K hK => ?_) AllReadyH.nil
      go_simp
      refine (CO pg (nl + m + 1) _ (tL kk xs k ++ xs ++ [(j : Int)]) wg (by omega) hTl rg.bytes hTB (keys_below (keys_below hK2 hbl) bG)).mono ?_
      rintro e wh ⟨ph, chh, rfl, rh, bh⟩
      rw [hTX] at rh
      go_wp2_with (fail)
      have bH := below_on bG bh
      have hrw : w2.heap.size ≤ wg.heap.size := Nat.le_trans hszr bG.size
      refine hK.out _ _ ⟨range_below hrg bh (by omega), trivial⟩ (fun hHeld => ?_)
      clear hK K
      refine wpAnyH_take (i := 9) (v := .slice ph 32 chh) rfl (by kernel_rfl) (by kernel_rfl) (by kernel_rfl) (fun _ _ _ h => h) (Or.inl ⟨by rfl, fun w hSw => by (try dsimp only at hSw); go_simp⟩) hHeld ?_
      simp only [Act.put, List.getElem_toArray, List.getElem_cons_zero, List.getElem_cons_succ, List.setIfInBounds_toArray, List.set_cons_zero, List.set_cons_succ]
      refine wpAnyH_done (by kernel_rfl) ?_ _
      refine NoPanic.normal ?_
      have hcap := rh.cap
      have hrh := rh.1
      obtain ⟨gl, rfl⟩ := owns_at hrh (by decide)
      have hgl := hrh.lt gl rfl
      obtain ⟨x, hx⟩ : ∃ x, x = min 32 (M - mm) := ⟨_, rfl⟩
      have hmin : min (32 : Int) ((M : Int) - (mm : Int)) = (x : Int) := by omega
      have hx1 : 0 < x := by omega
      have hx2 : x ≤ 32 := by omega
      have i1 : (x : Int) ≤ (chh : Int) := by omega
      have HX : Hid ((allL kk xs k).take M ++ (tL kk xs (k + 1)).take x = (allL kk xs (k + 1)).take M) := HA.out k x hkM (by have := hmm.out; omega)
      have inx : BytesIn wh (some ⟨gl, 0, none⟩) x ((tL kk xs (k + 1)).take x) := fun _ => by
        obtain ⟨b', o', e1, e2⟩ := rh.bytes (by decide)
        refine ⟨b', o', e1, fun i hi => ?_⟩
        rw [e2 i (by omega), List.getD_eq_getElem?_getD, List.getD_eq_getElem?_getD, List.getElem?_take_of_lt hi]
      have lx : ((tL kk xs (k + 1)).take x).length = x := by rw [List.length_take, HT.out k]; omega
      have hownH := owns_below hown bH
      have hsH : w2.heap.size ≤ wh.heap.size := Nat.le_trans hszr bH.size
      have hneL : Hid ((Value.slice (some ⟨gl, 0, none⟩) 32 chh).ownBlock ≠ (Value.slice pv mm cv).ownBlock) := fun e => by
        have h1 := (hgcv gl e.symm).2
        have h2 := bG.size
        omega
      have hx3 : Hid (x = min 32 (M - mm)) := hx
      have hj3 : Hid (j + 1 = k + 1 + 1) := by have := hj.out; rw [Hid]; omega
      have hm3 : Hid (mm + x = min (32 * (k + 1)) M) := by have := hmm.out; rw [Hid]; omega
      clear hx hTX hTB hTl hrg rg bg bE ie hsE hre hHeld hgcv hrr hw8 hinl hnl hown bG
      go_wp2_with (at_builtin; refine list_spread hi hz0 hz1 hz2 (.tmp 46) (.tmp 53) 22 Tryz.underlying22 hownH inx lx hx1 (by omega) (by omega) hsH (by rfl) (by rfl) (by rfl) (by rfl) ?_; intro g5 cap5 w5 ho5 hg5 hb5; rw [HX.out] at ho5)
      have hl5 := owns_in (hrh.kept hg5 (.inr hneL.out))
      go_roundw
      case rel => exact ⟨k + 1, j + 1, mm + x, 32, chh, some ⟨gl, 0, none⟩, hj3, hm3, by have := hx3.out; omega, by go_num, by omega, ho5, rfl, HT.out k, hl5, hbl.trans ((bH.mono hszr).trans hb5)⟩
      case measure => simp only [sliceLen]; omega
    · have hmM : mm = M := by omega
      have hnl2 : ¬ (mm : Int) < (M : Int) := by omega
      rw [← HE.out k (by have := hmm.out; omega)] at hown
      have bW := below_on b2 hbl
      have hsW := b2.size
      clear hnl hinl hmm HA HT HTt HTb HTe CO
      go_wp2
      go_ret
      rw [hmM] at hown
      exact ⟨_, _, rfl, .of (owns_mono hown hsW), bW⟩
theorem implExpand_no (p q : Option Addr) (n m c d : Nat) (many : Int) (w : World) (h : ¬ expOk n m many) :
    Calls Tryz.prog 103 #[.slice p n c, .slice q m d, .int .i64 many] w fun e w' => ∃ p' c', e = .returned (.slice p' 0 c') ∧ Own 5 w' w.heap.size w'.heap.size (.slice p' 0 c') 0 [] ∧ Below w.heap.size w w' := by
  unfold expOk at h
  by_cases d1 : many < 1
  · go_enter Tryz.func103, Tryz.ntmps103
    go_wp2
    go_ret
    exact ⟨_, _, rfl, .of (World.ownsRow_nil _ _ _ _), Below.refl _ _⟩
  · by_cases d2 : 8160 < many
    · go_enter Tryz.func103, Tryz.ntmps103
      go_wp2
      go_ret
      exact ⟨_, _, rfl, .of (World.ownsRow_nil _ _ _ _), Below.refl _ _⟩
    · by_cases d3 : m ≤ 400
      · have d4 : ¬ (400 : Int) < (m : Int) := by omega
        have d5 : (400 : Int) < (n : Int) := by omega
        go_enter Tryz.func103, Tryz.ntmps103
        go_wp2
        go_ret
        exact ⟨_, _, rfl, .of (World.ownsRow_nil _ _ _ _), Below.refl _ _⟩
      · have d4 : (400 : Int) < (m : Int) := by omega
        go_enter Tryz.func103, Tryz.ntmps103
        go_wp2
        go_ret
        exact ⟨_, _, rfl, .of (World.ownsRow_nil _ _ _ _), Below.refl _ _⟩
theorem implExpand_any (p q : Option Addr) (n m c d : Nat) (many : Int) (ks xs : List Int) (w : World) (hx : ks.length = n) (hy : xs.length = m) (h : BytesIn w p n ks) (h' : BytesIn w q m xs) (hb : ∀ x ∈ ks, 0 ≤ x ∧ x < 256) (hb' : ∀ x ∈ xs, 0 ≤ x ∧ x < 256) (hK : KeysIs w) :
    Calls Tryz.prog 103 #[.slice p n c, .slice q m d, .int .i64 many] w fun e w' => ∃ p' c', e = .returned (.slice p' (expN n m many) c') ∧ Own 5 w' w.heap.size w'.heap.size (.slice p' (expN n m many) c') (expN n m many) (expL ks xs many) ∧ Below w.heap.size w w' := by
  by_cases hok : expOk n m many
  · obtain ⟨h1, h2, h3, h4⟩ := hok
    obtain ⟨M, rfl⟩ : ∃ M : Nat, many = M := ⟨many.toNat, by omega⟩
    rw [expN_is (by omega) (by omega) h3 h4]
    exact implExpand_yes p q n m c d M ks xs w (by omega) (by omega) h4 h3 hx hy h h' hb hb' hK
  · rw [show expN n m many = 0 from if_neg hok, show expL ks xs many = [] by unfold expL; rw [hx, hy, if_neg hok]]
    exact implExpand_no p q n m c d many w hok
end Go.Proofs.YtnpffnhiefgglaaGreatDoor
