/-
  What the specification's Mac answers: the code by a key; nothing of more than 3936 bytes of either. Condition: bytes all.
-/
import Derived.Test.YtdjdanpicbaieaaDoorMacMath
import Derived.Test.YtdjdanpicbaieaaDoorPush2
namespace Go.Proofs.YtdjdanpicbaieaaDoor
open Go.RowKit
set_option maxRecDepth 100000

/-- The first i bytes of a marked key. -/
def mkT (k : List Int) (m : Int) (i : Nat) : List Int := xorL ((keyL k).take i) ((List.replicate 64 m).take i)
theorem mkT_zero (k : List Int) (m : Int) : mkT k m 0 = [] := rfl
theorem mkT_step {k : List Int} (hk : k.length ≤ 64) (m : Int) {i : Nat} (hi : i < 64) (u : Int) (hu : u = (keyL k).getD i 0) : mkT k m i ++ [bits BinOp.xor IntKind.u8 u m] = mkT k m (i + 1) :=
  xorL_step (keyL_length hk) List.length_replicate hi hi hu ((rep_getD m).out i hi).symm
theorem mkT_end {k : List Int} (hk : k.length ≤ 64) (m : Int) : mkT k m 64 = markL k m := xorL_all (keyL_length hk) List.length_replicate rfl
def padT (k : List Int) (j : Nat) : List Int := k ++ List.replicate j 0
theorem padT_step (k : List Int) (j : Nat) : padT k j ++ [0] = padT k (j + 1) := by
  unfold padT
  rw [List.append_assoc, ← List.replicate_succ']
theorem padT_end {k : List Int} {j : Nat} (h : k.length + j = 64) : padT k j = keyL k := by
  unfold padT keyL
  rw [show 64 - k.length = j by omega]

set_option maxHeartbeats 1000000 in
theorem specMac_small (p q : Option Addr) (n m c d : Nat) (ks xs : List Int) (w : World) (hn : n ≤ 64) (hm : m ≤ 3936) (hx : ks.length = n) (hy : xs.length = m) (h : BytesIn w p n ks) (h' : BytesIn w q m xs) (_hb : ∀ x ∈ ks, 0 ≤ x ∧ x < 256) (hb' : ∀ x ∈ xs, 0 ≤ x ∧ x < 256) :
    Calls Tryd.prog 35 #[.slice p n c, .slice q m d] w fun e w' => ∃ p' c', e = .returned (.slice p' 32 c') ∧ Own 5 w' w.heap.size w'.heap.size (.slice p' 32 c') 32 (ofL (kL ks) xs) ∧ Below w.heap.size w w' := by
  obtain ⟨i0, hi, hz0, hz1, hz2⟩ := info_parts infoByte
  have hkk : kL ks = ks := if_neg (by omega)
  rw [hkk]
  clear hkk
  have d3 : ¬ (64 : Int) < (n : Int) := by omega
  have d1 : ¬ (3936 : Int) < (n : Int) := by omega
  have d2 : ¬ (3936 : Int) < (m : Int) := by omega
  go_enter Tryd.func35, Tryd.ntmps35
  have hown0 : (w.alloc (.cells #[] 5)).ownsRow w.heap.size 5 1 (.slice (some ⟨w.heap.size, 0, none⟩) 0 0) 0 (([] : List Int).map (Value.int .u8)) := World.ownsRow_made w #[] 0 (Nat.le_refl _) (by unfold maxLen; omega) rfl
  have hb0 : Below w.heap.size w (w.alloc (.cells #[] 5)) := (Below.refl _ _).alloc (Nat.le_refl _) _
  have h1 := in_below h hb0
  have hlen : ks.length = n := hx
  go_wp2_with (at_builtin; refine list_spreadA hi hz0 hz1 hz2 (.tmp 18) (.tmp 19) 22 Tryd.underlying22 hown0 h1 hlen (by omega) (by omega) (by simp) (by rfl) (by rfl) (by rfl) (by rfl) ?_; intro p1 cap1 w1 ho1 hb1; simp only [Nat.zero_add, List.nil_append] at ho1 ⊢; have bk : Below w.heap.size w w1 := hb0.trans hb1; clear hown0 h1 hb1)
  have ok := ho1
  have hnk := hn
  clear hb0 ho1 h
  go_loopw [5] (fun v wr => ∃ j mm : Nat, Hid (n + j = mm) ∧ mm ≤ 64 ∧ wr.ownsRow w.heap.size 5 1 v mm ((padT ks j).map (Value.int .u8)) ∧ Below w.heap.size w wr)
    (fun v _ => 64 - sliceLen v)
  case atStart => exact ⟨0, n, rfl, hnk, by simpa [padT] using ok, bk⟩
  case round =>
    clear ok bk
    obtain ⟨j, mm, hmm, hle, hown, hbel⟩ := hrel
    have hsz := hbel.size
    obtain ⟨pq, cq, hv⟩ := owns_form hown
    subst hv
    by_cases hlt : mm < 64
    · have HX : Hid (padT ks j ++ [0] = padT ks (j + 1)) := padT_step ks j
      go_wp2_with (at_builtin; refine list_push hi hz0 hz1 hz2 (.tmp 29) (.tmp 30) 22 Tryd.underlying22 _ hown (by omega) hsz (by rfl) (by rfl) (by rfl) (by rfl) ?_; intro g3 cap3 w3 ho3 hb3; rw [HX.out] at ho3)
      go_roundw
      case rel => exact ⟨j + 1, mm + 1, by have := hmm.out; rw [Hid]; omega, by omega, ho3, hbel.trans hb3⟩
      case measure => simp only [sliceLen]; omega
    · have e64 : mm = 64 := by omega
      subst e64
      have hkl := keyL_length (xs := ks) (by omega)
      have hpe : padT ks j = keyL ks := padT_end (by have := hmm.out; omega)
      rw [hpe] at hown
      clear hpe hmm
      obtain ⟨gk, hgk⟩ := owns_at hown (by decide)
      subst hgk
      have hgk := hown.lt gk rfl
      have m54 : Hid (∀ i, i < 64 → ∀ u, u = (keyL ks).getD i 0 → mkT ks 54 i ++ [bits BinOp.xor IntKind.u8 u 54] = mkT ks 54 (i + 1)) := fun i hi u hu => mkT_step (by omega) 54 hi u hu
      have m92 : Hid (∀ i, i < 64 → ∀ u, u = (keyL ks).getD i 0 → mkT ks 92 i ++ [bits BinOp.xor IntKind.u8 u 92] = mkT ks 92 (i + 1)) := fun i hi u hu => mkT_step (by omega) 92 hi u hu
      have n54 : Hid (mkT ks 54 64 = markL ks 54) := mkT_end (by omega) 54
      have n92 : Hid (mkT ks 92 64 = markL ks 92) := mkT_end (by omega) 92
      have l54 : (markL ks 54).length = 64 := markL_length (by omega) 54
      have l92 : (markL ks 92).length = 64 := markL_length (by omega) 92
      have y54 := markL_byte ks 54
      have y92 := markL_byte ks 92
      have HO : Hid (hashL (markL ks 92 ++ hashL (markL ks 54 ++ xs)) = ofL ks xs) := rfl
      have z54 : mkT ks 54 0 = [] := rfl
      have z92 : mkT ks 92 0 = [] := rfl
      generalize markL ks 54 = M1 at n54 l54 y54 HO
      generalize markL ks 92 = M2 at n92 l92 y92 HO
      generalize mkT ks 54 = T1 at m54 n54 z54
      generalize mkT ks 92 = T2 at m92 n92 z92
      generalize keyL ks = KL at hown hkl m54 m92
      have hcell : Hid (∀ X, Below wr.heap.size wr X → ∀ i, i < 64 → X.cell? ⟨gk, i, none⟩ = some (.int .u8 (KL.getD i 0))) := fun X hX i hi => by
        rw [hX.cell (p := ⟨gk, i, none⟩) hgk.2, hown.cellAt i hi]
        simp [List.getElem?_map, List.getElem?_eq_getElem (show i < KL.length by omega)]
      have hin2 := in_below h' hbel
      have oa : ((wr.alloc (.cells #[] 5)).alloc (.cells #[] 5)).ownsRow wr.heap.size 5 1 (.slice (some ⟨wr.heap.size, 0, none⟩) 0 0) 0 ((T1 0).map (Value.int .u8)) := by
        rw [z54]
        exact (World.ownsRow_made wr #[] 0 (Nat.le_refl _) (by unfold maxLen; omega) rfl).alloc _
      have ob : ((wr.alloc (.cells #[] 5)).alloc (.cells #[] 5)).ownsRow wr.heap.size 5 1 (.slice (some ⟨wr.heap.size + 1, 0, none⟩) 0 0) 0 ((T2 0).map (Value.int .u8)) := by
        rw [z92]
        have := World.ownsRow_made (base := wr.heap.size) (size := 1) (wr.alloc (.cells #[] 5)) (e := 5) #[] 0 (by simp) (by unfold maxLen; omega) rfl
        simpa using this
      have bab : Below wr.heap.size wr ((wr.alloc (.cells #[] 5)).alloc (.cells #[] 5)) := ((Below.refl _ _).alloc (Nat.le_refl _) _).alloc (by simp) _
      clear z54 z92 hown
      go_wp2_with (fail)
      obtain ⟨wo, hwo⟩ : ∃ wo, wo = wr := ⟨_, rfl⟩
      subst hwo
      go_loopw [6, 7, 8] (fun v u i wx => ∃ (t : Nat), t ≤ 64 ∧ i = .int .i64 t ∧ wx.ownsRow wo.heap.size 5 1 v t ((T1 t).map (Value.int .u8)) ∧ wx.ownsRow wo.heap.size 5 1 u t ((T2 t).map (Value.int .u8)) ∧ Hid (u.ownBlock ≠ v.ownBlock) ∧ Below wo.heap.size wo wx)
        (fun _ _ i _ => 64 - (intOf i).toNat)
      case atStart => exact ⟨0, by omega, rfl, oa, ob, by rw [Hid]; simp [Value.ownBlock], bab⟩
      case round =>
        clear oa ob bab
        obtain ⟨t, ht, rfl, hA, hB, hne, hbl⟩ := hrel
        have hszx := hbl.size
        by_cases hlt2 : t < 64
        · have hc0 := hcell.out wr hbl t hlt2
          obtain ⟨uu, huu⟩ : ∃ uu, uu = KL.getD t 0 := ⟨_, rfl⟩
          rw [← huu] at hc0
          have H1 : Hid (T1 t ++ [bits BinOp.xor IntKind.u8 uu 54] = T1 (t + 1)) := m54.out t hlt2 uu huu
          have H2 : Hid (T2 t ++ [bits BinOp.xor IntKind.u8 uu 92] = T2 (t + 1)) := m92.out t hlt2 uu huu
          have hcX : Hid (∀ X, Below wo.heap.size wr X → X.cell? ⟨gk, t, none⟩ = some (.int .u8 uu)) := fun X hX => (hX.cell (p := ⟨gk, t, none⟩) hgk.2).trans hc0
          clear huu
          go_wp2_with (first | (at_builtin; refine list_push2 hi hz0 hz1 hz2 (.tmp 38) (.tmp 44) 22 Tryd.underlying22 _ hA hB hne.out (by omega) hszx (by rfl) (by rfl) (by rfl) (by rfl) ?_; intro g3 cap3 w3 ho3 hu3 hn3 hb3; rw [H1.out] at ho3; have hc3 := hcX.out w3 hb3; have hs3 := Nat.le_trans hszx hb3.size; replace hn3 : Hid ((Value.slice (some ⟨g3, 0, none⟩) (t + 1) cap3).ownBlock ≠ _) := fun e => hn3 e.symm) | (at_builtin; refine list_push2 hi hz0 hz1 hz2 (.tmp 46) (.tmp 52) 22 Tryd.underlying22 _ hu3 ho3 hn3.out (by omega) hs3 (by rfl) (by rfl) (by rfl) (by rfl) ?_; intro g4 cap4 w4 ho4 hu4 hn4 hb4; rw [H2.out] at ho4))
          go_roundw
          case rel => exact ⟨t + 1, by omega, by go_num, hu4, ho4, fun e => hn4 e.symm, hbl.trans (hb3.trans hb4)⟩
          case measure => simp [intOf]; omega
        · have e64 : t = 64 := by omega
          subst e64
          rw [n54.out] at hA
          rw [n92.out] at hB
          obtain ⟨pa, ca, hva⟩ := owns_form hA
          subst hva
          obtain ⟨pb, cb, hvb⟩ := owns_form hB
          subst hvb
          have hin3 := in_below hin2 hbl
          have l1x : (M1 ++ xs).length = 64 + m := by rw [List.length_append, l54, hy]
          have y1x : ∀ x ∈ M1 ++ xs, 0 ≤ x ∧ x < 256 := fun x hx => by rcases List.mem_append.1 hx with e | e; exact y54 x e; exact hb' x e
          have CH := fun p5 c5 X h5 => specHash_any p5 (64 + m) c5 (M1 ++ xs) X l1x h5 y1x
          rw [show hashN (64 + m) = 32 from if_pos (by omega)] at CH
          have l32 : (hashL (M1 ++ xs)).length = 32 := hashL_length (by omega)
          have y32 := hashL_byte (M1 ++ xs)
          generalize hashL (M1 ++ xs) = HH at CH l32 y32 HO
          have l2x : (M2 ++ HH).length = 96 := by rw [List.length_append, l92, l32]
          have y2x : ∀ x ∈ M2 ++ HH, 0 ≤ x ∧ x < 256 := fun x hx => by rcases List.mem_append.1 hx with e | e; exact y92 x e; exact y32 x e
          have CH2 := fun p5 c5 X h5 => specHash_any p5 96 c5 (M2 ++ HH) X l2x h5 y2x
          rw [show hashN 96 = 32 from rfl, HO.out] at CH2
          clear m54 m92 n54 n92 hcell hin2
          go_wp2_with (at_builtin; refine list_spread2 hi hz0 hz1 hz2 (.tmp 55) (.tmp 56) 22 Tryd.underlying22 hA hB hne.out hin3 hy (by omega) (by omega) hszx (by rfl) (by rfl) (by rfl) (by rfl) ?_; intro p5 cap5 w5 ho5 hu5 hb5)
          refine (CH _ _ _ (owns_in ho5)).mono ?_
          rintro e w6 ⟨p6, c6, rfl, r6, b6⟩
          have hu6 := owns_below hu5 b6
          have in6 := r6.bytes
          have bel6 : Below w.heap.size w w6 := below_on (below_on hbel (hbl.trans hb5)) b6
          have hs6 : wo.heap.size ≤ w6.heap.size := Nat.le_trans (hbl.trans hb5).size b6.size
          have hsw := hbel.size
          clear CH ho5 hu5 r6 hA hB hb5 b6 hbl hin3
          go_wp2_with (at_builtin; refine list_spreadA hi hz0 hz1 hz2 (.tmp 54) (.tmp 58) 22 Tryd.underlying22 hu6 in6 l32 (by omega) (by omega) hs6 (by rfl) (by rfl) (by rfl) (by rfl) ?_; intro p7 cap7 w7 ho7 hb7)
          refine (CH2 _ _ _ (owns_in ho7)).mono ?_
          rintro e w8 ⟨p8, c8, rfl, r8, b8⟩
          have bel7 : Below w.heap.size w w7 := bel6.trans (hb7.mono hsw)
          have hs7 := bel7.size
          clear CH2 ho7 hu6
          go_wp2
          go_ret
          exact ⟨_, _, rfl, ⟨owns_mono r8.1 (by omega), r8.2⟩, below_on bel7 b8⟩

set_option maxHeartbeats 1000000 in
theorem specMac_big (p q : Option Addr) (n m c d : Nat) (ks xs : List Int) (w : World) (hn : 64 < n) (hn2 : n ≤ 3936) (hm : m ≤ 3936) (hx : ks.length = n) (hy : xs.length = m) (h : BytesIn w p n ks) (h' : BytesIn w q m xs) (hb : ∀ x ∈ ks, 0 ≤ x ∧ x < 256) (hb' : ∀ x ∈ xs, 0 ≤ x ∧ x < 256) :
    Calls Tryd.prog 35 #[.slice p n c, .slice q m d] w fun e w' => ∃ p' c', e = .returned (.slice p' 32 c') ∧ Own 5 w' w.heap.size w'.heap.size (.slice p' 32 c') 32 (ofL (kL ks) xs) ∧ Below w.heap.size w w' := by
  obtain ⟨i0, hi, hz0, hz1, hz2⟩ := info_parts infoByte
  have hkk : kL ks = hashL ks := if_pos (by omega)
  rw [hkk]
  clear hkk
  have d3 : (64 : Int) < (n : Int) := by omega
  have CH := fun p5 c5 X h5 => specHash_any p5 n c5 ks X hx h5 hb
  rw [show hashN n = 32 from if_pos (by omega)] at CH
  have hxk : (hashL ks).length = 32 := hashL_length (by omega)
  have hnk : 32 ≤ 64 := by decide
  generalize hashL ks = kk at CH hxk ⊢
  have d1 : ¬ (3936 : Int) < (n : Int) := by omega
  have d2 : ¬ (3936 : Int) < (m : Int) := by omega
  go_enter Tryd.func35, Tryd.ntmps35
  have hown0 : (w.alloc (.cells #[] 5)).ownsRow w.heap.size 5 1 (.slice (some ⟨w.heap.size, 0, none⟩) 0 0) 0 (([] : List Int).map (Value.int .u8)) := World.ownsRow_made w #[] 0 (Nat.le_refl _) (by unfold maxLen; omega) rfl
  have hb0 : Below w.heap.size w (w.alloc (.cells #[] 5)) := (Below.refl _ _).alloc (Nat.le_refl _) _
  have h1 := in_below h hb0
  have hlen : ks.length = n := hx
  go_wp2_with (at_builtin; refine list_spreadA hi hz0 hz1 hz2 (.tmp 18) (.tmp 19) 22 Tryd.underlying22 hown0 h1 hlen (by omega) (by omega) (by simp) (by rfl) (by rfl) (by rfl) (by rfl) ?_; intro p1 cap1 w1 ho1 hb1; simp only [Nat.zero_add, List.nil_append] at ho1 ⊢; have bk : Below w.heap.size w w1 := hb0.trans hb1; clear hown0 h1 hb1)
  refine (CH _ _ _ (owns_in ho1)).mono ?_
  rintro e wk ⟨pk, ck, rfl, rk, b2⟩
  have ok := owns_mono rk.1 bk.size
  replace bk := below_on bk b2
  clear hb0 ho1 h CH rk b2 hlen
  go_wp2_with (fail)
  go_loopw [5] (fun v wr => ∃ j mm : Nat, Hid (32 + j = mm) ∧ mm ≤ 64 ∧ wr.ownsRow w.heap.size 5 1 v mm ((padT kk j).map (Value.int .u8)) ∧ Below w.heap.size w wr)
    (fun v _ => 64 - sliceLen v)
  case atStart => exact ⟨0, 32, rfl, hnk, by simpa [padT] using ok, bk⟩
  case round =>
    clear ok bk
    obtain ⟨j, mm, hmm, hle, hown, hbel⟩ := hrel
    have hsz := hbel.size
    obtain ⟨pq, cq, hv⟩ := owns_form hown
    subst hv
    by_cases hlt : mm < 64
    · have HX : Hid (padT kk j ++ [0] = padT kk (j + 1)) := padT_step kk j
      go_wp2_with (at_builtin; refine list_push hi hz0 hz1 hz2 (.tmp 29) (.tmp 30) 22 Tryd.underlying22 _ hown (by omega) hsz (by rfl) (by rfl) (by rfl) (by rfl) ?_; intro g3 cap3 w3 ho3 hb3; rw [HX.out] at ho3)
      go_roundw
      case rel => exact ⟨j + 1, mm + 1, by have := hmm.out; rw [Hid]; omega, by omega, ho3, hbel.trans hb3⟩
      case measure => simp only [sliceLen]; omega
    · have e64 : mm = 64 := by omega
      subst e64
      have hkl := keyL_length (xs := kk) (by omega)
      have hpe : padT kk j = keyL kk := padT_end (by have := hmm.out; omega)
      rw [hpe] at hown
      clear hpe hmm
      obtain ⟨gk, hgk⟩ := owns_at hown (by decide)
      subst hgk
      have hgk := hown.lt gk rfl
      have m54 : Hid (∀ i, i < 64 → ∀ u, u = (keyL kk).getD i 0 → mkT kk 54 i ++ [bits BinOp.xor IntKind.u8 u 54] = mkT kk 54 (i + 1)) := fun i hi u hu => mkT_step (by omega) 54 hi u hu
      have m92 : Hid (∀ i, i < 64 → ∀ u, u = (keyL kk).getD i 0 → mkT kk 92 i ++ [bits BinOp.xor IntKind.u8 u 92] = mkT kk 92 (i + 1)) := fun i hi u hu => mkT_step (by omega) 92 hi u hu
      have n54 : Hid (mkT kk 54 64 = markL kk 54) := mkT_end (by omega) 54
      have n92 : Hid (mkT kk 92 64 = markL kk 92) := mkT_end (by omega) 92
      have l54 : (markL kk 54).length = 64 := markL_length (by omega) 54
      have l92 : (markL kk 92).length = 64 := markL_length (by omega) 92
      have y54 := markL_byte kk 54
      have y92 := markL_byte kk 92
      have HO : Hid (hashL (markL kk 92 ++ hashL (markL kk 54 ++ xs)) = ofL kk xs) := rfl
      have z54 : mkT kk 54 0 = [] := rfl
      have z92 : mkT kk 92 0 = [] := rfl
      generalize markL kk 54 = M1 at n54 l54 y54 HO
      generalize markL kk 92 = M2 at n92 l92 y92 HO
      generalize mkT kk 54 = T1 at m54 n54 z54
      generalize mkT kk 92 = T2 at m92 n92 z92
      generalize keyL kk = KL at hown hkl m54 m92
      have hcell : Hid (∀ X, Below wr.heap.size wr X → ∀ i, i < 64 → X.cell? ⟨gk, i, none⟩ = some (.int .u8 (KL.getD i 0))) := fun X hX i hi => by
        rw [hX.cell (p := ⟨gk, i, none⟩) hgk.2, hown.cellAt i hi]
        simp [List.getElem?_map, List.getElem?_eq_getElem (show i < KL.length by omega)]
      have hin2 := in_below h' hbel
      have oa : ((wr.alloc (.cells #[] 5)).alloc (.cells #[] 5)).ownsRow wr.heap.size 5 1 (.slice (some ⟨wr.heap.size, 0, none⟩) 0 0) 0 ((T1 0).map (Value.int .u8)) := by
        rw [z54]
        exact (World.ownsRow_made wr #[] 0 (Nat.le_refl _) (by unfold maxLen; omega) rfl).alloc _
      have ob : ((wr.alloc (.cells #[] 5)).alloc (.cells #[] 5)).ownsRow wr.heap.size 5 1 (.slice (some ⟨wr.heap.size + 1, 0, none⟩) 0 0) 0 ((T2 0).map (Value.int .u8)) := by
        rw [z92]
        have := World.ownsRow_made (base := wr.heap.size) (size := 1) (wr.alloc (.cells #[] 5)) (e := 5) #[] 0 (by simp) (by unfold maxLen; omega) rfl
        simpa using this
      have bab : Below wr.heap.size wr ((wr.alloc (.cells #[] 5)).alloc (.cells #[] 5)) := ((Below.refl _ _).alloc (Nat.le_refl _) _).alloc (by simp) _
      clear z54 z92 hown
      go_wp2_with (fail)
      obtain ⟨wo, hwo⟩ : ∃ wo, wo = wr := ⟨_, rfl⟩
      subst hwo
      go_loopw [6, 7, 8] (fun v u i wx => ∃ (t : Nat), t ≤ 64 ∧ i = .int .i64 t ∧ wx.ownsRow wo.heap.size 5 1 v t ((T1 t).map (Value.int .u8)) ∧ wx.ownsRow wo.heap.size 5 1 u t ((T2 t).map (Value.int .u8)) ∧ Hid (u.ownBlock ≠ v.ownBlock) ∧ Below wo.heap.size wo wx)
        (fun _ _ i _ => 64 - (intOf i).toNat)
      case atStart => exact ⟨0, by omega, rfl, oa, ob, by rw [Hid]; simp [Value.ownBlock], bab⟩
      case round =>
        clear oa ob bab
        obtain ⟨t, ht, rfl, hA, hB, hne, hbl⟩ := hrel
        have hszx := hbl.size
        by_cases hlt2 : t < 64
        · have hc0 := hcell.out wr hbl t hlt2
          obtain ⟨uu, huu⟩ : ∃ uu, uu = KL.getD t 0 := ⟨_, rfl⟩
          rw [← huu] at hc0
          have H1 : Hid (T1 t ++ [bits BinOp.xor IntKind.u8 uu 54] = T1 (t + 1)) := m54.out t hlt2 uu huu
          have H2 : Hid (T2 t ++ [bits BinOp.xor IntKind.u8 uu 92] = T2 (t + 1)) := m92.out t hlt2 uu huu
          have hcX : Hid (∀ X, Below wo.heap.size wr X → X.cell? ⟨gk, t, none⟩ = some (.int .u8 uu)) := fun X hX => (hX.cell (p := ⟨gk, t, none⟩) hgk.2).trans hc0
          clear huu
          go_wp2_with (first | (at_builtin; refine list_push2 hi hz0 hz1 hz2 (.tmp 38) (.tmp 44) 22 Tryd.underlying22 _ hA hB hne.out (by omega) hszx (by rfl) (by rfl) (by rfl) (by rfl) ?_; intro g3 cap3 w3 ho3 hu3 hn3 hb3; rw [H1.out] at ho3; have hc3 := hcX.out w3 hb3; have hs3 := Nat.le_trans hszx hb3.size; replace hn3 : Hid ((Value.slice (some ⟨g3, 0, none⟩) (t + 1) cap3).ownBlock ≠ _) := fun e => hn3 e.symm) | (at_builtin; refine list_push2 hi hz0 hz1 hz2 (.tmp 46) (.tmp 52) 22 Tryd.underlying22 _ hu3 ho3 hn3.out (by omega) hs3 (by rfl) (by rfl) (by rfl) (by rfl) ?_; intro g4 cap4 w4 ho4 hu4 hn4 hb4; rw [H2.out] at ho4))
          go_roundw
          case rel => exact ⟨t + 1, by omega, by go_num, hu4, ho4, fun e => hn4 e.symm, hbl.trans (hb3.trans hb4)⟩
          case measure => simp [intOf]; omega
        · have e64 : t = 64 := by omega
          subst e64
          rw [n54.out] at hA
          rw [n92.out] at hB
          obtain ⟨pa, ca, hva⟩ := owns_form hA
          subst hva
          obtain ⟨pb, cb, hvb⟩ := owns_form hB
          subst hvb
          have hin3 := in_below hin2 hbl
          have l1x : (M1 ++ xs).length = 64 + m := by rw [List.length_append, l54, hy]
          have y1x : ∀ x ∈ M1 ++ xs, 0 ≤ x ∧ x < 256 := fun x hx => by rcases List.mem_append.1 hx with e | e; exact y54 x e; exact hb' x e
          have CH := fun p5 c5 X h5 => specHash_any p5 (64 + m) c5 (M1 ++ xs) X l1x h5 y1x
          rw [show hashN (64 + m) = 32 from if_pos (by omega)] at CH
          have l32 : (hashL (M1 ++ xs)).length = 32 := hashL_length (by omega)
          have y32 := hashL_byte (M1 ++ xs)
          generalize hashL (M1 ++ xs) = HH at CH l32 y32 HO
          have l2x : (M2 ++ HH).length = 96 := by rw [List.length_append, l92, l32]
          have y2x : ∀ x ∈ M2 ++ HH, 0 ≤ x ∧ x < 256 := fun x hx => by rcases List.mem_append.1 hx with e | e; exact y92 x e; exact y32 x e
          have CH2 := fun p5 c5 X h5 => specHash_any p5 96 c5 (M2 ++ HH) X l2x h5 y2x
          rw [show hashN 96 = 32 from rfl, HO.out] at CH2
          clear m54 m92 n54 n92 hcell hin2
          go_wp2_with (at_builtin; refine list_spread2 hi hz0 hz1 hz2 (.tmp 55) (.tmp 56) 22 Tryd.underlying22 hA hB hne.out hin3 hy (by omega) (by omega) hszx (by rfl) (by rfl) (by rfl) (by rfl) ?_; intro p5 cap5 w5 ho5 hu5 hb5)
          refine (CH _ _ _ (owns_in ho5)).mono ?_
          rintro e w6 ⟨p6, c6, rfl, r6, b6⟩
          have hu6 := owns_below hu5 b6
          have in6 := r6.bytes
          have bel6 : Below w.heap.size w w6 := below_on (below_on hbel (hbl.trans hb5)) b6
          have hs6 : wo.heap.size ≤ w6.heap.size := Nat.le_trans (hbl.trans hb5).size b6.size
          have hsw := hbel.size
          clear CH ho5 hu5 r6 hA hB hb5 b6 hbl hin3
          go_wp2_with (at_builtin; refine list_spreadA hi hz0 hz1 hz2 (.tmp 54) (.tmp 58) 22 Tryd.underlying22 hu6 in6 l32 (by omega) (by omega) hs6 (by rfl) (by rfl) (by rfl) (by rfl) ?_; intro p7 cap7 w7 ho7 hb7)
          refine (CH2 _ _ _ (owns_in ho7)).mono ?_
          rintro e w8 ⟨p8, c8, rfl, r8, b8⟩
          have bel7 : Below w.heap.size w w7 := bel6.trans (hb7.mono hsw)
          have hs7 := bel7.size
          clear CH2 ho7 hu6
          go_wp2
          go_ret
          exact ⟨_, _, rfl, ⟨owns_mono r8.1 (by omega), r8.2⟩, below_on bel7 b8⟩

theorem specMac_yes (p q : Option Addr) (n m c d : Nat) (ks xs : List Int) (w : World) (hn : n ≤ 3936) (hm : m ≤ 3936) (hx : ks.length = n) (hy : xs.length = m) (h : BytesIn w p n ks) (h' : BytesIn w q m xs) (hb : ∀ x ∈ ks, 0 ≤ x ∧ x < 256) (hb' : ∀ x ∈ xs, 0 ≤ x ∧ x < 256) :
    Calls Tryd.prog 35 #[.slice p n c, .slice q m d] w fun e w' => ∃ p' c', e = .returned (.slice p' 32 c') ∧ Own 5 w' w.heap.size w'.heap.size (.slice p' 32 c') 32 (ofL (kL ks) xs) ∧ Below w.heap.size w w' := by
  by_cases h64 : n ≤ 64
  · exact specMac_small p q n m c d ks xs w h64 hm hx hy h h' hb hb'
  · exact specMac_big p q n m c d ks xs w (by omega) hn hm hx hy h h' hb hb'
theorem specMac_no (p q : Option Addr) (n m c d : Nat) (w : World) (hn : ¬ (n ≤ 3936 ∧ m ≤ 3936)) :
    Calls Tryd.prog 35 #[.slice p n c, .slice q m d] w fun e w' => ∃ p' c', e = .returned (.slice p' 0 c') ∧ Own 5 w' w.heap.size w'.heap.size (.slice p' 0 c') 0 [] ∧ Below w.heap.size w w' := by
  by_cases h1 : n ≤ 3936
  · have d1 : ¬ (3936 : Int) < (n : Int) := by omega
    have d2 : (3936 : Int) < (m : Int) := by omega
    go_enter Tryd.func35, Tryd.ntmps35
    go_wp2
    go_ret
    exact ⟨_, _, rfl, .of (World.ownsRow_made w #[] 0 (Nat.le_refl _) (by unfold maxLen; omega) rfl), (Below.refl _ _).alloc (Nat.le_refl _) _⟩
  · have d1 : (3936 : Int) < (n : Int) := by omega
    go_enter Tryd.func35, Tryd.ntmps35
    go_wp2
    go_ret
    exact ⟨_, _, rfl, .of (World.ownsRow_made w #[] 0 (Nat.le_refl _) (by unfold maxLen; omega) rfl), (Below.refl _ _).alloc (Nat.le_refl _) _⟩
theorem specMac_any (p q : Option Addr) (n m c d : Nat) (ks xs : List Int) (w : World) (hx : ks.length = n) (hy : xs.length = m) (h : BytesIn w p n ks) (h' : BytesIn w q m xs) (hb : ∀ x ∈ ks, 0 ≤ x ∧ x < 256) (hb' : ∀ x ∈ xs, 0 ≤ x ∧ x < 256) :
    Calls Tryd.prog 35 #[.slice p n c, .slice q m d] w fun e w' => ∃ p' c', e = .returned (.slice p' (macN n m) c') ∧ Own 5 w' w.heap.size w'.heap.size (.slice p' (macN n m) c') (macN n m) (macL ks xs) ∧ Below w.heap.size w w' := by
  unfold macN macL
  rw [hx, hy]
  by_cases hn : n ≤ 3936 ∧ m ≤ 3936
  · rw [if_pos hn, if_pos hn]
    exact specMac_yes p q n m c d ks xs w hn.1 hn.2 hx hy h h' hb hb'
  · rw [if_neg hn, if_neg hn]
    exact specMac_no p q n m c d w hn

end Go.Proofs.YtdjdanpicbaieaaDoor
