/-
  A part of the proof.
-/
import Derived.Test.YtnpffnhiefgglaaGreatDoorParw28
import Derived.Test.YtnpffnhiefgglaaGreatDoorParw11
import Derived.Test.YtnpffnhiefgglaaGreatDoorParw09
import Derived.Laws.CopyOwn
import Derived.Test.YtnpffnhiefgglaaGreatDoorParw15
import Derived.Test.YtnpffnhiefgglaaGreatDoorParw14
import Derived.Deep.AppendLies
import Derived.Deep.RegionHeld3
import Derived.Lib.SlBytesConst
namespace Go.Proofs.YtnpffnhiefgglaaGreatDoor
open Go.RowKit
set_option maxRecDepth 100000
theorem l1In_same (a b c : Int) (w : World) : Calls Tryz.prog 42 #[.int .i64 a, .int .i64 b, .int .i64 c] w fun e w' => e = .returned (.bool (decide (b ≤ a) && decide (a ≤ c))) ∧ w' = w := by
  by_cases h1 : b ≤ a
  · by_cases h2 : a ≤ c
    · rw [decide_eq_true h1, decide_eq_true h2]
      go_enter Tryz.func42, Tryz.ntmps42
      go_wp2
      go_ret
      exact ⟨rfl, rfl⟩
    · rw [decide_eq_true h1, decide_eq_false h2]
      go_enter Tryz.func42, Tryz.ntmps42
      go_wp2
      go_ret
      exact ⟨rfl, rfl⟩
  · rw [decide_eq_false h1]
    go_enter Tryz.func42, Tryz.ntmps42
    go_wp2
    go_ret
    exact ⟨rfl, rfl⟩
set_option maxHeartbeats 1000000 in
theorem specExpand_yes (p q : Option Addr) (n m c d M : Nat) (ks xs : List Int) (w : World) (hM1 : 1 ≤ M) (hM2 : M ≤ 8160) (hn : n ≤ 400) (hm : m ≤ 400) (hx : ks.length = n) (hy : xs.length = m) (h : BytesIn w p n ks) (h' : BytesIn w q m xs) (hb : ∀ x ∈ ks, 0 ≤ x ∧ x < 256) (hb' : ∀ x ∈ xs, 0 ≤ x ∧ x < 256) :
    Calls Tryz.prog 113 #[.slice p n c, .slice q m d, .int .i64 (M : Int)] w fun e w' => ∃ p' c', e = .returned (.slice p' M c') ∧ Own 5 w' w.heap.size w'.heap.size (.slice p' M c') M (expL ks xs (M : Int)) ∧ Below w.heap.size w w' := by
  obtain ⟨i0, hi, hz0, hz1, hz2⟩ := info_parts infoByte
  have d1 : ¬ (400 : Int) < (n : Int) := by omega
  have d2 : ¬ (400 : Int) < (m : Int) := by omega
  have CI : ∀ X, Calls Tryz.prog 42 #[.int .i64 (M : Int), .int .i64 1, .int .i64 8160] X fun e w' => e = .returned (.bool true) ∧ w' = X := fun X => by
    have := l1In_same (M : Int) 1 8160 X
    rw [decide_eq_true (by omega), decide_eq_true (by omega)] at this
    exact this
  have hkl := kL_length (key := ks) (by omega)
  have HE : Hid (∀ i, M ≤ 32 * i → expL ks xs (M : Int) = (allL (kL ks) xs i).take M) := fun i hi => exp_is hM1 hM2 (by omega) (by omega) hi
  have CM := fun (q : Option Addr) (m d : Nat) (xs : List Int) (X : World) hm hy hin hin' hb' => specMac_yes p q n m c d ks xs X (by omega) hm hx hy hin hin' hb hb'
  generalize kL ks = kk at CM hkl HE
  have HT : Hid (∀ i, (tL kk xs (i + 1)).length = 32) := fun i => tL_length hkl (by omega) i
  have HTt : Hid (∀ i, (tL kk xs i).length ≤ 32) := fun i => (tL_text hkl (by omega) i).1
  have HAl : Hid (∀ i, (allL kk xs i).length = 32 * i) := fun i => allL_length hkl (by omega) i
  have HTb : Hid (∀ i, i + 1 < 256 → ∀ x ∈ tL kk xs i ++ xs ++ [((i + 1 : Nat) : Int)], 0 ≤ x ∧ x < 256) := fun i hi => text_byte hb' hi
  have HTe : Hid (∀ i, ofL kk (tL kk xs i ++ xs ++ [((i + 1 : Nat) : Int)]) = tL kk xs (i + 1)) := fun _ => rfl
  have HAe : Hid (∀ i, allL kk xs i ++ tL kk xs (i + 1) = allL kk xs (i + 1)) := fun _ => rfl
  have hown0 : (w.alloc (.cells #[] 5)).ownsRow w.heap.size 5 1 (.slice (some ⟨w.heap.size, 0, none⟩) 0 0) 0 ((allL kk xs 0).map (Value.int .u8)) := World.ownsRow_made w #[] 0 (Nat.le_refl _) (by unfold maxLen; omega) rfl
  have hb0 : Below w.heap.size w (w.alloc (.cells #[] 5)) := (Below.refl _ _).alloc (Nat.le_refl _) _
  have hsA : (w.alloc (.cells #[] 5)).heap.size = w.heap.size + 1 := by simp
  clear hx
  go_enter Tryz.func113, Tryz.ntmps113
  go_wp2_with (fail)
  refine (CI _).mono ?_
  rintro e w1 ⟨rfl, rfl⟩
  clear CI
  have hown1 := hown0.alloc (.cells #[] 5)
  have hb1 : Below w.heap.size w ((w.alloc (.cells #[] 5)).alloc (.cells #[] 5)) := hb0.alloc (by simp) _
  clear hown0 hb0 hsA
  go_wp2_with (fail)
  generalize (w.alloc (.cells #[] 5)).alloc (.cells #[] 5) = w2 at hown1 hb1 ⊢
  go_loopw [7, 8, 9, 10] (fun v u i _ wr => ∃ (k j mm nl cl : Nat) (pl : Option Addr), Hid (j = k + 1) ∧ Hid (mm = 32 * k) ∧ 32 * k < M + 32 ∧ i = .int .i64 j ∧ 1 ≤ j ∧ wr.ownsRow w.heap.size 5 1 v mm ((allL kk xs k).map (Value.int .u8)) ∧ u = .slice pl nl cl ∧ Hid ((tL kk xs k).length = nl) ∧ BytesIn wr pl nl (tL kk xs k) ∧ Below w.heap.size w wr)
    (fun v _ _ _ _ => M + 64 - sliceLen v)
  case atStart => exact ⟨0, 1, 0, 0, 0, _, rfl, rfl, by omega, rfl, by omega, hown1, rfl, rfl, fun h0 => absurd h0 (by omega), hb1⟩
  case round =>
    clear hown1 hb1
    obtain ⟨k, j, mm, nl, cl, pl, hj, hmm, hkM, rfl, hj1, hown, rfl, hnl, hinl, hbl⟩ := hrel
    have hszr := hbl.size
    obtain ⟨pv, cv, hv⟩ := owns_form hown
    subst hv
    have hcv := owns_cap hown
    by_cases hlt : mm < M
    · have hkM2 : 32 * k < M := by have := hmm.out; omega
      have hj255 : j ≤ 255 := by have := hj.out; omega
      have hnl32 : nl ≤ 32 := by have := hnl.out; have := HTt.out k; omega
      have hw8 : IntKind.u8.wrap (j : Int) = (j : Int) := by rw [IntKind.wrap_u8]; omega
      have hgcv : Hid (∀ g, (Value.slice pv mm cv).ownBlock = some g → g < wr.heap.size) := fun g hg => (hown.lt g hg).2
      have ht0 : (wr.alloc (.cells #[] 5)).ownsRow wr.heap.size 5 1 (.slice (some ⟨wr.heap.size, 0, none⟩) 0 0) 0 (([] : List Int).map (Value.int .u8)) := World.ownsRow_made wr #[] 0 (Nat.le_refl _) (by unfold maxLen; omega) rfl
      have bt0 : Below wr.heap.size wr (wr.alloc (.cells #[] 5)) := (Below.refl _ _).alloc (Nat.le_refl _) _
      have hin1 := in_below hinl bt0
      have hTX : ofL kk (tL kk xs k ++ xs ++ [(j : Int)]) = tL kk xs (k + 1) := by rw [hj.out]; exact HTe.out k
      have hTB : ∀ x ∈ tL kk xs k ++ xs ++ [(j : Int)], 0 ≤ x ∧ x < 256 := by rw [hj.out]; exact HTb.out k (by have := hj.out; omega)
      have hTl : (tL kk xs k ++ xs ++ [(j : Int)]).length = nl + m + 1 := by simp only [List.length_append, hnl.out, hy, List.length_singleton]
      have hin2 := in_below h' hbl
      have hin3 := in_below h hbl
      go_wp2_with (first
        | (at_builtin; refine list_spreadA hi hz0 hz1 hz2 (.tmp 33) (.tmp 34) 22 Tryz.underlying22 ht0 hin1 hnl.out (by omega) (by omega) (by simp) (by rfl) (by rfl) (by rfl) (by rfl) ?_; intro p3 cap3 w3 ho3 hb3; simp only [Nat.zero_add, List.nil_append] at ho3 ⊢; have b3 : Below wr.heap.size wr w3 := bt0.trans hb3; have hi3 := in_below hin2 b3; have hs3 := b3.size)
        | (at_builtin; refine list_spreadA hi hz0 hz1 hz2 (.tmp 35) (.tmp 36) 22 Tryz.underlying22 ho3 hi3 hy (by omega) (by omega) hs3 (by rfl) (by rfl) (by rfl) (by rfl) ?_; intro p4 cap4 w4 ho4 hb4; have b4 : Below wr.heap.size wr w4 := b3.trans hb4; have hs4 := b4.size)
        | (at_builtin; refine list_push hi hz0 hz1 hz2 (.tmp 39) (.tmp 42) 22 Tryz.underlying22 _ ho4 (by omega) hs4 (by rfl) (by rfl) (by rfl) (by rfl) ?_; intro g5 cap5 w5 ho5 hb5; have b5 : Below wr.heap.size wr w5 := b4.trans hb5))
      refine (CM _ (nl + m + 1) _ (tL kk xs k ++ xs ++ [(j : Int)]) w5 (by omega) hTl (in_below hin3 b5) (owns_in ho5) hTB).mono ?_
      rintro e w6 ⟨p6, c6, rfl, r6, b6⟩
      rw [hTX] at r6
      have B6 := below_on b5 b6
      have hown6 := owns_below hown B6
      have hr6 := r6.1
      obtain ⟨gl, rfl⟩ := owns_at hr6 (by decide)
      have hgl := hr6.lt gl rfl
      have hs5 := b5.size
      have hneL : Hid ((Value.slice (some ⟨gl, 0, none⟩) 32 c6).ownBlock ≠ (Value.slice pv mm cv).ownBlock) := fun e => by
        have h1 := hgcv.out gl e.symm
        omega
      have hin6 := r6.bytes
      have l6 := HT.out k
      have HX : Hid (allL kk xs k ++ tL kk xs (k + 1) = allL kk xs (k + 1)) := HAe.out k
      have bel6 : Below w.heap.size w w6 := below_on hbl B6
      have hs6 := bel6.size
      have hj3 : Hid (j + 1 = k + 1 + 1) := by have := hj.out; rw [Hid]; omega
      have hm3 : Hid (mm + 32 = 32 * (k + 1)) := by have := hmm.out; rw [Hid]; omega
      clear hTX hTB hTl hin1 hin2 hin3 ht0 bt0 ho5 hb5 b5 b6 B6 r6 hown hinl hnl hgcv hw8 ho3 ho4 hb3 hb4 hi3 b3 b4
      go_wp2_with (at_builtin; refine list_spread hi hz0 hz1 hz2 (.tmp 45) (.tmp 46) 22 Tryz.underlying22 hown6 hin6 l6 (by omega) (by omega) (by omega) hs6 (by rfl) (by rfl) (by rfl) (by rfl) ?_; intro g7 cap7 w7 ho7 hg7 hb7; rw [HX.out] at ho7)
      have hl7 := owns_in (hr6.kept hg7 (.inr hneL.out))
      go_roundw
      case rel => exact ⟨k + 1, j + 1, mm + 32, 32, c6, some ⟨gl, 0, none⟩, hj3, hm3, by omega, by go_num, by omega, ho7, rfl, HT.out k, hl7, bel6.trans hb7⟩
      case measure => simp only [sliceLen]; omega
    · have hnl2 : ¬ (mm : Int) < (M : Int) := by omega
      have HEk : Hid (expL ks xs (M : Int) = (allL kk xs k).take M) := HE.out k (by have := hmm.out; omega)
      have i1 : (M : Int) ≤ (cv : Int) := by omega
      have inx : BytesIn wr pv M ((allL kk xs k).take M) := fun _ => by
        obtain ⟨b', o', e1, e2⟩ := owns_in hown (by omega)
        refine ⟨b', o', e1, fun i hi => ?_⟩
        rw [e2 i (by omega), List.getD_eq_getElem?_getD, List.getD_eq_getElem?_getD, List.getElem?_take_of_lt hi]
      have lx : ((allL kk xs k).take M).length = M := by rw [List.length_take, HAl.out k]; have := hmm.out; omega
      have ht0 : (wr.alloc (.cells #[] 5)).ownsRow wr.heap.size 5 1 (.slice (some ⟨wr.heap.size, 0, none⟩) 0 0) 0 (([] : List Int).map (Value.int .u8)) := World.ownsRow_made wr #[] 0 (Nat.le_refl _) (by unfold maxLen; omega) rfl
      have bt0 : Below wr.heap.size wr (wr.alloc (.cells #[] 5)) := (Below.refl _ _).alloc (Nat.le_refl _) _
      have inx' := in_below inx bt0
      clear inx hnl hinl hmm HT HTt HTb HTe HAe HAl CM
      go_wp2_with (at_builtin; refine list_spreadA hi hz0 hz1 hz2 (.tmp 48) (.tmp 51) 22 Tryz.underlying22 ht0 inx' lx (by omega) (by omega) (by simp) (by rfl) (by rfl) (by rfl) (by rfl) ?_; intro p3 cap3 w3 ho3 hb3; simp only [Nat.zero_add, List.nil_append] at ho3 ⊢)
      go_ret
      rw [← HEk.out] at ho3
      exact ⟨_, _, rfl, .of (owns_mono ho3 hszr), below_on hbl (bt0.trans hb3)⟩
theorem specExpand_no (p q : Option Addr) (n m c d : Nat) (many : Int) (w : World) (h : ¬ expOk n m many) :
    Calls Tryz.prog 113 #[.slice p n c, .slice q m d, .int .i64 many] w fun e w' => ∃ p' c', e = .returned (.slice p' 0 c') ∧ Own 5 w' w.heap.size w'.heap.size (.slice p' 0 c') 0 [] ∧ Below w.heap.size w w' := by
  unfold expOk at h
  have CI := fun X => l1In_same many 1 8160 X
  by_cases d1 : 1 ≤ many ∧ many ≤ 8160
  · rw [decide_eq_true d1.1, decide_eq_true d1.2] at CI
    by_cases d3 : m ≤ 400
    · have d4 : ¬ (400 : Int) < (m : Int) := by omega
      have d5 : (400 : Int) < (n : Int) := by omega
      go_enter Tryz.func113, Tryz.ntmps113
      go_wp2_with (fail)
      refine (CI _).mono ?_
      rintro e w1 ⟨rfl, rfl⟩
      go_wp2
      go_ret
      exact ⟨_, _, rfl, .of (World.ownsRow_made w #[] 0 (Nat.le_refl _) (by unfold maxLen; omega) rfl), (Below.refl _ _).alloc (Nat.le_refl _) _⟩
    · have d4 : (400 : Int) < (m : Int) := by omega
      go_enter Tryz.func113, Tryz.ntmps113
      go_wp2_with (fail)
      refine (CI _).mono ?_
      rintro e w1 ⟨rfl, rfl⟩
      go_wp2
      go_ret
      exact ⟨_, _, rfl, .of (World.ownsRow_made w #[] 0 (Nat.le_refl _) (by unfold maxLen; omega) rfl), (Below.refl _ _).alloc (Nat.le_refl _) _⟩
  · have d2 : (decide (1 ≤ many) && decide (many ≤ 8160)) = false := by
      rcases Decidable.not_and_iff_not_or_not.1 d1 with e | e <;> simp [e]
    rw [d2] at CI
    go_enter Tryz.func113, Tryz.ntmps113
    go_wp2_with (fail)
    refine (CI _).mono ?_
    rintro e w1 ⟨rfl, rfl⟩
    go_wp2
    go_ret
    exact ⟨_, _, rfl, .of (World.ownsRow_made w #[] 0 (Nat.le_refl _) (by unfold maxLen; omega) rfl), (Below.refl _ _).alloc (Nat.le_refl _) _⟩
theorem specExpand_any (p q : Option Addr) (n m c d : Nat) (many : Int) (ks xs : List Int) (w : World) (hx : ks.length = n) (hy : xs.length = m) (h : BytesIn w p n ks) (h' : BytesIn w q m xs) (hb : ∀ x ∈ ks, 0 ≤ x ∧ x < 256) (hb' : ∀ x ∈ xs, 0 ≤ x ∧ x < 256) :
    Calls Tryz.prog 113 #[.slice p n c, .slice q m d, .int .i64 many] w fun e w' => ∃ p' c', e = .returned (.slice p' (expN n m many) c') ∧ Own 5 w' w.heap.size w'.heap.size (.slice p' (expN n m many) c') (expN n m many) (expL ks xs many) ∧ Below w.heap.size w w' := by
  by_cases hok : expOk n m many
  · obtain ⟨h1, h2, h3, h4⟩ := hok
    obtain ⟨M, rfl⟩ : ∃ M : Nat, many = M := ⟨many.toNat, by omega⟩
    rw [expN_is (by omega) (by omega) h3 h4]
    exact specExpand_yes p q n m c d M ks xs w (by omega) (by omega) h4 h3 hx hy h h' hb hb'
  · rw [show expN n m many = 0 from if_neg hok, show expL ks xs many = [] by unfold expL; rw [hx, hy, if_neg hok]]
    exact specExpand_no p q n m c d many w hok
def derN (n m l : Nat) (many : Int) : Nat := expN (extN n m) l many
def derL (xs ys zs : List Int) (many : Int) : List Int := expL (extL xs ys) zs many
theorem derL_length (xs ys zs : List Int) (many : Int) : (derL xs ys zs many).length = derN xs.length ys.length zs.length many := by rw [derL, expL_length, extL_length]; rfl
set_option maxHeartbeats 1000000 in
theorem implDerive_any (p q r : Option Addr) (n m l c d f : Nat) (many : Int) (xs ys zs : List Int) (w : World) (hx : xs.length = n) (hy : ys.length = m) (hz : zs.length = l) (h : BytesIn w p n xs) (h' : BytesIn w q m ys) (h'' : BytesIn w r l zs) (hb : ∀ x ∈ xs, 0 ≤ x ∧ x < 256) (hb' : ∀ x ∈ ys, 0 ≤ x ∧ x < 256) (hb'' : ∀ x ∈ zs, 0 ≤ x ∧ x < 256) (hK : KeysIs w) :
    Calls Tryz.prog 67 #[.slice p n c, .slice q m d, .slice r l f, .int .i64 many] w fun e w' => ∃ p' c', e = .returned (.slice p' (derN n m l many) c') ∧ Own 5 w' w.heap.size w'.heap.size (.slice p' (derN n m l many) c') (derN n m l many) (derL xs ys zs many) ∧ Below w.heap.size w w' := by
  unfold derN derL
  have C1 := implExtract_any p q n m c d xs ys w hx hy h h' hb hb' hK
  have hl : (extL xs ys).length = extN n m := by rw [extL_length, hx, hy]
  have hlb := extL_byte xs ys
  generalize extN n m = N at C1 hl ⊢
  generalize extL xs ys = E at C1 hl hlb ⊢
  go_enter Tryz.func67, Tryz.ntmps67
  go_wp2_with (fail)
  refine C1.mono ?_
  rintro e w1 ⟨p1, c1, rfl, r1, b1⟩
  clear C1
  go_wp2_with (fail)
  refine (implExpand_any p1 r N l _ _ many E zs _ hl hz r1.bytes (in_below h'' b1) hlb hb'' (keys_below hK b1)).mono ?_
  rintro e w2 ⟨p2, c2, rfl, r2, b2⟩
  go_wp2
  go_ret
  exact ⟨_, _, rfl, ⟨owns_mono r2.1 b1.size, r2.2⟩, below_on b1 b2⟩
set_option maxHeartbeats 1000000 in
theorem specDerive_any (p q r : Option Addr) (n m l c d f : Nat) (many : Int) (xs ys zs : List Int) (w : World) (hx : xs.length = n) (hy : ys.length = m) (hz : zs.length = l) (h : BytesIn w p n xs) (h' : BytesIn w q m ys) (h'' : BytesIn w r l zs) (hb : ∀ x ∈ xs, 0 ≤ x ∧ x < 256) (hb' : ∀ x ∈ ys, 0 ≤ x ∧ x < 256) (hb'' : ∀ x ∈ zs, 0 ≤ x ∧ x < 256) :
    Calls Tryz.prog 75 #[.slice p n c, .slice q m d, .slice r l f, .int .i64 many] w fun e w' => ∃ p' c', e = .returned (.slice p' (derN n m l many) c') ∧ Own 5 w' w.heap.size w'.heap.size (.slice p' (derN n m l many) c') (derN n m l many) (derL xs ys zs many) ∧ Below w.heap.size w w' := by
  unfold derN derL
  have C1 := specExtract_any p q n m c d xs ys w hx hy h h' hb hb'
  have hl : (extL xs ys).length = extN n m := by rw [extL_length, hx, hy]
  have hlb := extL_byte xs ys
  generalize extN n m = N at C1 hl ⊢
  generalize extL xs ys = E at C1 hl hlb ⊢
  go_enter Tryz.func75, Tryz.ntmps75
  go_wp2_with (fail)
  refine C1.mono ?_
  rintro e w1 ⟨p1, c1, rfl, r1, b1⟩
  clear C1
  go_wp2_with (fail)
  refine (specExpand_any p1 r N l _ _ many E zs _ hl hz r1.bytes (in_below h'' b1) hlb hb'').mono ?_
  rintro e w2 ⟨p2, c2, rfl, r2, b2⟩
  go_wp2
  go_ret
  exact ⟨_, _, rfl, ⟨owns_mono r2.1 b1.size, r2.2⟩, below_on b1 b2⟩
theorem heap_made (w : World) (o : Obj) : (w.alloc o).heap[w.heap.size]? = some o := by
  show (w.heap.push o)[w.heap.size]? = some o
  simp
theorem made_below (w : World) (o : Obj) {w' : World} (b : Below (w.alloc o).heap.size (w.alloc o) w') : Below w.heap.size w w' :=
  ((Below.refl _ _).alloc (Nat.le_refl _) o).trans (b.mono (by simp))
theorem makeM (Z : Nat) (hZ : Z ≤ 16777216) (W : World) : (Instr.makeSlice 22 (.int .i64 (Z : Int)) (.int .i64 (Z : Int))).run Tryz.prog W = .ok (.slice (some ⟨W.heap.size, 0, none⟩) Z Z) (W.alloc (.cells (madeCells #[.int .u8 0] Z) 5)) := by
  obtain ⟨i0, hi, hz0, hz1, hz2⟩ := info_parts infoByte
  have := run_makeSlice (P := Tryz.prog) W 22 5 i0 (.int .u8 0) Tryz.underlying22 hi hz0 .i64 .i64 Z Z (by omega) (by omega) (by rw [hz1]; simp; omega) (by rw [hz2]; omega) (by omega)
  simpa [hz1, Value.cells] using this
def noughtV (Z : Nat) : List Value := List.replicate Z (.int .u8 0)
theorem noughtV_length (Z : Nat) : (noughtV Z).length = Z := by simp [noughtV]
theorem madeM (Z : Nat) : madeCells #[Value.int .u8 0] Z = (noughtV Z).toArray := by
  have e : (madeCells #[Value.int .u8 0] Z).toList = noughtV Z := toList_madeCells_one _ _
  rw [← e]
theorem row_own {w : World} {lo g n : Nat} {xs : List Int} (hg : w.heap[g]? = some (.cells (xs.map (Value.int .u8)).toArray 5 (0, 0))) (hlo : lo ≤ g) (hx : xs.length = n) (hn : n ≤ 1099511627) : Own 5 w lo w.heap.size (.slice (some ⟨g, 0, none⟩) n n) n xs :=
  .of ⟨by simp [hx], .inr ⟨g, n, _, rfl, hlo, hg, Nat.le_refl _, by unfold maxLen; omega, by simp [hx], by simp [hx, List.take_of_length_le]⟩⟩
theorem in_cells {w : World} {p : Option Addr} {n : Nat} {xs : List Int} (h : BytesIn w p n xs) (hx : xs.length = n) (h0 : 0 < (xs.map (Value.int .u8)).length) : ∃ ad, p = some ad ∧ ∀ j v, (xs.map (Value.int .u8))[j]? = some v → w.cell? (ad.add j) = some v := by
  obtain ⟨b, o, rfl, hc⟩ := h (by simpa [hx] using h0)
  refine ⟨⟨b, o, none⟩, rfl, fun j v hv => ?_⟩
  rw [List.getElem?_map] at hv
  obtain ⟨u, hu, rfl⟩ := Option.map_eq_some_iff.1 hv
  have hj := (List.getElem?_eq_some_iff.1 hu).1
  rw [Addr.add_lit, hc j (by omega), List.getD_eq_getElem?_getD, hu]
  rfl
theorem u8_one (xs : List Int) : ∀ v ∈ xs.map (Value.int .u8), v.oneCell' = true := fun v hv => by
  obtain ⟨u, _, rfl⟩ := List.mem_map.1 hv
  rfl
set_option maxHeartbeats 2000000 in
theorem copied_any (p : Option Addr) (n c : Nat) (xs : List Int) (w : World) (hn : n ≤ 1048576) (hx : xs.length = n) (h : BytesIn w p n xs) :
    Calls Tryz.prog 69 #[.slice p n c] w fun e w' => ∃ p' c', e = .returned (.slice p' n c') ∧ Own 5 w' w.heap.size w'.heap.size (.slice p' n c') n xs ∧ Below w.heap.size w w' := by
  obtain ⟨i0, hi, hz0, hz1, hz2⟩ := info_parts infoByte
  have hs5 : (Tryz.prog.info? 5).map (·.size) = some 1 := by rw [hi]; simp [hz1]
  have hmk := fun W => makeM n (by omega) W
  rw [madeM] at hmk
  have ba : ∀ o, Below w.heap.size w (w.alloc o) := fun o => made_below _ _ (Below.refl _ _)
  have hrow : (w.alloc (.cells (noughtV n).toArray 5)).heap[w.heap.size]? = some (.cells (noughtV n).toArray 5 (0, 0)) := heap_made _ _
  obtain ⟨Z, hZ⟩ : ∃ Z, Z = noughtV n := ⟨_, rfl⟩
  have hZl : Z.length = n := by rw [hZ, noughtV_length]
  rw [← hZ] at hmk hrow
  obtain ⟨V, hV⟩ : ∃ V, V = xs.map (Value.int .u8) := ⟨_, rfl⟩
  have hVl : V.length = n := by rw [hV]; simpa using hx
  have hpos : ∀ X, Below w.heap.size w X → 0 < V.length → ∃ ad, p = some ad ∧ ∀ j v, V[j]? = some v → X.cell? (ad.add j) = some v := fun X hX h0 => by rw [hV] at h0 ⊢; exact in_cells (in_below h hX) hx h0
  have hone : ∀ v ∈ V, v.oneCell' = true := by rw [hV]; exact u8_one xs
  have hfin : Hid (splice Z 0 V = V) := by
    show splice Z 0 V = V
    rw [splice, List.take_zero, List.nil_append, Nat.zero_add, List.drop_of_length_le (by omega), List.append_nil]
  replace hV : Hid (V = xs.map (Value.int .u8)) := hV
  clear hZ hi hz0 hz1 hz2 h
  go_enter Tryz.func69, Tryz.ntmps69
  go_wp2_with (refine wpList_copy_splice (by rfl) (.tmp 7) (.tmp 8) 22 22 (by rfl) 5 Tryz.underlying22 hs5 (some ⟨w.heap.size, 0, none⟩) p n n n c (by rfl) (by rfl) w.heap.size 0 Z 5 hrow V (by rw [hVl]; exact (Nat.min_self n).symm) (fun h0 => ⟨rfl, hpos _ (ba _) h0⟩) (by omega) hone w.heap.size w (ba _) (Nat.le_refl _) ?_; intro w2 hg2 hb2)
  go_ret
  have hg3 := hg2.out
  rw [hfin.out, hV.out] at hg3
  exact ⟨_, _, rfl, row_own hg3 (Nat.le_refl _) hx (by omega), hb2⟩
set_option maxHeartbeats 2000000 in
theorem growNil_zero (w : World) :
    Calls Tryz.prog 105 #[.slice none 0 0, .int .i64 0] w fun e w' => e = .returned (.slice none 0 0) ∧ w = w' := by
  go_enter Tryz.func105, Tryz.ntmps105
  go_wp2_with (fail)
  go_ret
  exact ⟨rfl, rfl⟩
set_option maxHeartbeats 4000000 in
theorem concat_zero (gr m : Nat) (Pf : Nat → Option Addr) (nf cf : Nat → Nat) (xf : Nat → List Int) (w : World) (hm : m ≤ 1000) (hcell : ∀ k, k < m → w.cell? ⟨gr, k, none⟩ = some (.slice (Pf k) (nf k) (cf k)))
    (hlen : ∀ k, k < m → (xf k).length = nf k) (hin : ∀ k, k < m → BytesIn w (Pf k) (nf k) (xf k)) (h0 : sumN nf m = 0) :
    Calls Tryz.prog 68 #[.slice (some ⟨gr, 0, none⟩) m m] w fun e w' => ∃ p c, e = .returned (.slice p (sumN nf m) c) ∧ Own 5 w' w.heap.size w'.heap.size (.slice p (sumN nf m) c) (sumN nf m) (catL xf m) ∧ Below w.heap.size w w' := by
  obtain ⟨i0, hi, hz0, hz1, hz2⟩ := info_parts infoByte
  have hs : sumN nf m ≤ 1073741824 := by omega
  replace h0 : Hid (sumN nf m = 0) := h0
  have HC : Hid (∀ k, k < m → w.cell? ⟨gr, k, none⟩ = some (.slice (Pf k) (nf k) (cf k))) := hcell
  have HL : Hid (∀ k, k < m → (xf k).length = nf k) := hlen
  have HI : Hid (∀ k, k < m → BytesIn w (Pf k) (nf k) (xf k)) := hin
  clear hcell hlen hin
  go_enter Tryz.func68, Tryz.ntmps68
  go_wp2
  go_loop [3, 11] (fun v i => ∃ k s : Nat, k ≤ m ∧ i = .int .i64 k ∧ v = .int .i64 s ∧ Hid (s = sumN nf k)) (fun _ i => m - (intOf i).toNat)
  case atStart => exact ⟨0, 0, by omega, rfl, rfl, rfl⟩
  case round =>
    obtain ⟨k, s, hk, rfl, rfl, hsk⟩ := hrel
    by_cases hlt : k < m
    · have hc := HC.out k hlt
      have hle : s + nf k ≤ 1073741824 := by rw [hsk.out]; exact Nat.le_trans (sumN_le nf (k := k + 1) hlt) hs
      have HN : Hid (s + nf k = sumN nf (k + 1)) := by rw [hsk.out]; rfl
      generalize nf k = n1 at hc hle HN
      generalize Pf k = p1 at hc
      generalize cf k = c1 at hc
      have hneg : ¬ ((s : Int) + (n1 : Int) < 0) := by omega
      go_wp2
      go_round
      case rel => exact ⟨k + 1, s + n1, by omega, by go_num, by go_num, HN⟩
      case measure => simp [intOf]; omega
    · obtain rfl : k = m := by omega
      obtain rfl : s = sumN nf k := hsk.out
      clear hsk
      have HNn : Hid (sumN nf k = 0) := h0
      simp only [h0.out]
      go_wp2_with (fail)
      refine (growNil_zero _).mono ?_
      rintro e w1 ⟨rfl, rfl⟩
      have ho1 : w.ownsRow w.heap.size 5 1 (.slice none 0 0) 0 (([] : List Int).map (Value.int .u8)) := ⟨rfl, .inl ⟨rfl, rfl⟩⟩
      have b1 := Below.refl w.heap.size w
      go_wp2_with (fail)
      go_loopw [6, 27] (fun v i wr => ∃ j s : Nat, j ≤ k ∧ i = .int .i64 j ∧ Hid (s = sumN nf j) ∧ wr.ownsRow w.heap.size 5 1 v s ((catL xf j).map (Value.int .u8)) ∧ Below w.heap.size w wr)
        (fun _ i _ => k - (intOf i).toNat)
      case atStart => exact ⟨0, 0, by omega, rfl, rfl, ho1, b1⟩
      case round =>
        clear ho1 b1
        obtain ⟨j, s, hj, rfl, hsj, hown, hbel⟩ := hrel
        have hsz := hbel.size
        by_cases hlt2 : j < k
        · have hc := HC.out j hlt2
          have hgr : gr < w.heap.size := World.block_lt_of_cell? w ⟨gr, j, none⟩ hc
          have hc2 := (hbel.cell (p := ⟨gr, j, none⟩) hgr).trans hc
          have hle : s + nf j ≤ 0 := by rw [hsj.out, ← HNn.out]; exact sumN_le nf (k := j + 1) hlt2
          have HN : Hid (s + nf j = sumN nf (j + 1)) := by rw [hsj.out]; rfl
          have hl := HL.out j hlt2
          have hI := HI.out j hlt2
          replace hI : BytesIn wr (Pf j) (nf j) (xf j) := by
            intro hpos
            obtain ⟨bb, oo, e1, e2⟩ := hI hpos
            exact ⟨bb, oo, e1, fun i hi => (hbel.cell (p := ⟨bb, oo + i, none⟩) (World.block_lt_of_cell? w ⟨bb, oo + i, none⟩ (e2 i hi))).trans (e2 i hi)⟩
          have HX : Hid (catL xf j ++ xf j = catL xf (j + 1)) := rfl
          generalize nf j = n1 at hc hc2 hle HN hl hI
          generalize Pf j = p1 at hc hc2 hI
          generalize cf j = c1 at hc hc2
          generalize xf j = y1 at hl hI HX
          obtain ⟨q, cq, hv⟩ := owns_form hown
          subst hv
          clear hc
          go_wp2_with (at_builtin; refine list_spreadA hi hz0 hz1 hz2 (.tmp 31) (.tmp 32) 22 Tryz.underlying22 hown hI hl (by omega) (by omega) hsz (by rfl) (by rfl) (by rfl) (by rfl) ?_; intro p' cap w3 ho3 hb3; rw [HX.out] at ho3)
          go_roundw
          case rel => exact ⟨j + 1, s + n1, by omega, by go_num, HN, ho3, hbel.trans hb3⟩
          case measure => simp [intOf]; omega
        · obtain rfl : j = k := by omega
          obtain rfl : s = 0 := hsj.out.trans HNn.out
          obtain ⟨q, cq, hv⟩ := owns_form hown
          subst hv
          go_wp2
          go_ret
          rw [HNn.out]
          exact ⟨_, _, rfl, .of hown, hbel⟩
theorem concatTwo (p0 p1 : Option Addr) (n0 n1 c0 c1 : Nat) (xs0 xs1 : List Int) (w : World) (hx0 : xs0.length = n0) (hx1 : xs1.length = n1) (hs1 : n0 + n1 ≤ 1073741824) (i0 : BytesIn w p0 n0 xs0) (i1 : BytesIn w p1 n1 xs1) :
    Calls Tryz.prog 68 #[.slice (some ⟨w.heap.size, 0, none⟩) 2 2] (w.alloc (.cells #[.slice p0 n0 c0, .slice p1 n1 c1] 22)) fun e w' =>
      ∃ p' c', e = .returned (.slice p' (n0 + n1) c') ∧ Own 5 w' w.heap.size w'.heap.size (.slice p' (n0 + n1) c') (n0 + n1) (xs0 ++ xs1) ∧ Below w.heap.size w w' := by
  have ba : Below w.heap.size w (w.alloc (.cells #[.slice p0 n0 c0, .slice p1 n1 c1] 22)) := made_below _ _ (Below.refl _ _)
  have hs : sumN (fun k => match k with | 0 => n0 | _ => n1) 2 = n0 + n1 := by simp [sumN]
  have hc : catL (fun k => match k with | 0 => xs0 | _ => xs1) 2 = xs0 ++ xs1 := by simp [catL]
  have k1 : ∀ k, k < 2 → (w.alloc (.cells #[.slice p0 n0 c0, .slice p1 n1 c1] 22)).cell? ⟨w.heap.size, k, none⟩ = some (.slice ((fun k => match k with | 0 => p0 | _ => p1 : Nat → Option Addr) k) ((fun k => match k with | 0 => n0 | _ => n1 : Nat → Nat) k) ((fun k => match k with | 0 => c0 | _ => c1 : Nat → Nat) k)) := fun k hk => by
    rw [cell_of_row _ _ k _ _ _ (heap_made w _)]
    match k, hk with
    | 0, _ => rfl
    | 1, _ => rfl
  have k2 : ∀ k, k < 2 → ((fun k => match k with | 0 => xs0 | _ => xs1 : Nat → List Int) k).length = (fun k => match k with | 0 => n0 | _ => n1 : Nat → Nat) k := fun k hk => by
    match k, hk with
    | 0, _ => exact hx0
    | 1, _ => exact hx1
  have k3 : ∀ k, k < 2 → BytesIn (w.alloc (.cells #[.slice p0 n0 c0, .slice p1 n1 c1] 22)) ((fun k => match k with | 0 => p0 | _ => p1 : Nat → Option Addr) k) ((fun k => match k with | 0 => n0 | _ => n1 : Nat → Nat) k) ((fun k => match k with | 0 => xs0 | _ => xs1 : Nat → List Int) k) := fun k hk => by
    match k, hk with
    | 0, _ => exact in_below i0 ba
    | 1, _ => exact in_below i1 ba
  have h : Calls Tryz.prog 68 #[.slice (some ⟨w.heap.size, 0, none⟩) 2 2] (w.alloc (.cells #[.slice p0 n0 c0, .slice p1 n1 c1] 22)) fun e w' =>
      ∃ p' c', e = .returned (.slice p' (n0 + n1) c') ∧ Own 5 w' (w.alloc (.cells #[.slice p0 n0 c0, .slice p1 n1 c1] 22)).heap.size w'.heap.size (.slice p' (n0 + n1) c') (n0 + n1) (xs0 ++ xs1) ∧ Below (w.alloc (.cells #[.slice p0 n0 c0, .slice p1 n1 c1] 22)).heap.size (w.alloc (.cells #[.slice p0 n0 c0, .slice p1 n1 c1] 22)) w' := by
    rw [← hs, ← hc]
    rcases Nat.eq_zero_or_pos (n0 + n1) with h0 | h0
    · exact concat_zero _ 2 _ _ _ _ _ (by decide) k1 k2 k3 (hs.trans h0)
    · exact concat_any _ 2 _ _ _ _ _ (by decide) k1 k2 k3 (by rw [hs]; exact h0) (by rw [hs]; exact hs1)
  refine h.mono ?_
  rintro e w' ⟨p', c', rfl, r, b⟩
  exact ⟨p', c', rfl, ⟨owns_mono r.1 (by simp), r.2⟩, below_on ba b⟩
def Pair (w' : World) (lo : Nat) (p q : Option Addr) (c d n m : Nat) (xs ys : List Int) : Prop :=
  ∃ l1 h1 l2 h2, Own 5 w' l1 h1 (.slice p n c) n xs ∧ Own 5 w' l2 h2 (.slice q m d) m ys ∧ (lo ≤ l1 ∧ h1 ≤ w'.heap.size) ∧ (lo ≤ l2 ∧ h2 ≤ w'.heap.size) ∧ (h1 ≤ l2 ∨ h2 ≤ l1)
def Emp (w : World) (B : Nat) : Prop := w.heap[B]? = some (.cells #[] 5 (0, 0))
def RowAt (w : World) (g cap n : Nat) (ys : List Int) : Prop := w.ownsRow g 5 1 (.slice (some ⟨g, 0, none⟩) n cap) n (ys.map (Value.int .u8))
theorem Emp.lt {w : World} {B : Nat} (h : Emp w B) : B < w.heap.size := (Array.getElem?_eq_some_iff.1 h).1
theorem emp_made (w : World) (B : Nat) (h : w.heap.size = B) : Emp (w.alloc (.cells #[] 5)) B := by subst h; exact heap_made _ _
theorem emp_below {w w' : World} {B : Nat} (h : Emp w B) (b : Below w.heap.size w w') : Emp w' B := (b.block B h.lt).trans h
theorem emp_alloc {w : World} {B : Nat} (h : Emp w B) (o : Obj) : Emp (w.alloc o) B := emp_below h (made_below _ _ (Below.refl _ _))
theorem emp_drew {w : World} {B : Nat} (h : Emp w B) : Emp w.drew B := h
theorem emp_grown {w w' : World} {B B' : Nat} (h : Emp w B) (g : w.grownBy w' (some B')) (ne : B ≠ B') : Emp w' B := (g.block B h.lt (fun e => ne (Option.some.inj e))).trans h
theorem rowAt_below {w w' : World} {g cap n : Nat} {ys : List Int} (h : RowAt w g cap n ys) (b : Below w.heap.size w w') : RowAt w' g cap n ys := owns_below h b
theorem rowAt_alloc {w : World} {g cap n : Nat} {ys : List Int} (h : RowAt w g cap n ys) (o : Obj) : RowAt (w.alloc o) g cap n ys := rowAt_below h (made_below _ _ (Below.refl _ _))
theorem rowAt_grown {w w' : World} {g cap n B' : Nat} {ys : List Int} (h : RowAt w g cap n ys) (hg : w.grownBy w' (some B')) (ne : g ≠ B') : RowAt w' g cap n ys := h.kept hg (.inr fun e => ne (Option.some.inj e))
theorem RowAt.own {w : World} {g cap n : Nat} {ys : List Int} (h : RowAt w g cap n ys) : Own 5 w g (g + 1) (.slice (some ⟨g, 0, none⟩) n cap) n ys := ⟨h, fun k hk => by cases hk; exact Nat.lt_succ_self _⟩
theorem step_fresh {P : Program} {ops : Array Oper} {o : Oper} {a : Act} {K : Act → World → Prop} {Q : Exit → Act → World → Prop} {E : Prop} {i : TypeInfo} {wr w0 : World} {B m c lo : Nat} {p : Option Addr} {ys : List Int}
    (hi : P.info? 5 = some i) (hz : i.zero = some (.int .u8 0)) (hsize : i.size = 1) (hby : i.bytes = 1) (s y : Operand) (t : TypeId) (ht : P.underlying t = some (.slice 5)) (hgd : o.guard = none) (ho : o.op = .call { callee := .builtin .append, args := #[s, y], argTypes := #[t, t] }) (hs : a.eval s = .slice (some ⟨B, 0, none⟩) 0 0) (hy : a.eval y = .slice p m c)
    (hE : Emp wr B) (hin : BytesIn wr p m ys) (hl : ys.length = m) (hm : 0 < m) (hm' : m ≤ 1048576) (hb : Below lo w0 wr) (hlo : lo ≤ B)
    (h : ∀ g cap w', RowAt w' g cap m ys → (g = B ∨ g = wr.heap.size) → g < w'.heap.size → wr.heap.size ≤ w'.heap.size → wr.grownBy w' (some B) → Below lo w0 w' → K (a.put o.dst (.slice (some ⟨g, 0, none⟩) m cap)) w') :
    if Region.wanted o (yielded ops a.tmps) = true then Oper.wp P o a wr K Q else E := by
  obtain ⟨b, of, rfl, hc⟩ := hin hm
  have hown : wr.ownsRow B 5 1 (.slice (some ⟨B, 0, none⟩) 0 0) 0 (([] : List Int).map (Value.int .u8)) := ⟨rfl, .inr ⟨B, 0, #[], rfl, Nat.le_refl _, hE, Nat.le_refl _, Nat.zero_le _, rfl, rfl⟩⟩
  refine step_append_lies _ hgd s y t ho B 5 i (.int .u8 0) 1 1 ht hi hz hsize hby rfl (by decide) _ 0 _ hs hown ⟨b, of, none⟩ m c (ys.map (Value.int .u8)) hy (by simp [hl]) (fun j u hu => ?_) (fun u hu => ?_) hm (by unfold maxLen; omega) (by omega) (Nat.le_of_lt hE.lt) _ rfl fun g cap w' ho' hg hgg hlt => ?_
  · rw [List.getElem?_map] at hu
    obtain ⟨v, hv, rfl⟩ := Option.map_eq_some_iff.1 hu
    have hj := (List.getElem?_eq_some_iff.1 hv).1
    rw [Addr.add_lit, hc j (by omega), List.getD_eq_getElem?_getD, hv]
    rfl
  · obtain ⟨v, _, rfl⟩ := List.mem_map.1 hu
    rfl
  · rw [Nat.zero_add] at ho' ⊢
    have hrow : RowAt w' g cap m ys := by
      refine ⟨ho'.1, .inr ?_⟩
      rcases ho'.2 with ⟨hv, _⟩ | ⟨g', cap', cur, hv, h1, h2, h3, h4, h5, h6⟩
      · cases hv
      · cases hv
        exact ⟨g, cap, cur, rfl, Nat.le_refl _, h2, h3, h4, h5, h6⟩
    exact h g cap w' hrow (hgg.imp (fun e => (Option.some.inj e).symm) id) hlt hg.size hg (hb.grown hg (Nat.le_of_lt (Nat.lt_of_le_of_lt hlo hE.lt)) fun k hk => by cases hk; exact hlo)
def plumeL : List Int := [112, 108, 117, 109, 101]
theorem plume_byte : ∀ x ∈ plumeL, 0 ≤ x ∧ x < 256 := by decide
def bothL (ss fs ts : List Int) : List Int := derL (fs ++ ts) ss plumeL 44
def kyL (ss fs ts : List Int) : List Int := (bothL ss fs ts).take 32
def ncL (ss fs ts : List Int) : List Int := (bothL ss fs ts).drop 32
theorem der44 (n m : Nat) : derN n m 5 44 = 44 := expN_is (M := 44) (by omega) (by omega) (by omega) (by have := extN_le n m; omega)
theorem bothL_length (ss fs ts : List Int) : (bothL ss fs ts).length = 44 := by rw [bothL, derL_length]; exact der44 _ _
theorem kyL_length (ss fs ts : List Int) : (kyL ss fs ts).length = 32 := by rw [kyL, List.length_take, bothL_length]; rfl
theorem ncL_length (ss fs ts : List Int) : (ncL ss fs ts).length = 12 := by rw [ncL, List.length_drop, bothL_length]
theorem bothL_byte (ss fs ts : List Int) : ∀ x ∈ bothL ss fs ts, 0 ≤ x ∧ x < 256 := expL_byte _ _ _
theorem plume_in (w : World) (ty : Nat) (fz : Nat × Nat) : BytesIn (w.alloc (.cells #[.int .u8 112, .int .u8 108, .int .u8 117, .int .u8 109, .int .u8 101] ty fz)) (some ⟨w.heap.size, 0, none⟩) 5 plumeL := by
  intro _
  refine ⟨w.heap.size, 0, rfl, fun i hi => ?_⟩
  rw [cell_of_row _ _ _ _ _ _ (heap_made w _)]
  match i, hi with
  | 0, _ => rfl
  | 1, _ => rfl
  | 2, _ => rfl
  | 3, _ => rfl
  | 4, _ => rfl
theorem slice_32 (p : Option Addr) (c : Nat) (hc : 44 ≤ c) : (∀ W, (Instr.slice 22 (.slice p 44 c) none (some (.int .i64 32)) none).run Tryz.prog W = .ok (.slice p 32 c) W) := fun W => by
  have ht' : Tryz.prog.underlying 22 = some (.slice (Tryz.prog.elem 22)) := by simp [Program.elem, Tryz.underlying22]
  have he : Tryz.prog.elem 22 = 5 := by simp [Program.elem, Tryz.underlying22]
  obtain ⟨i0, hi, hz0, hz1, hz2⟩ := info_parts infoByte
  have := run_slice_h W 22 p 44 c ht' .i64 32 (by omega) (by omega)
  refine this.trans ?_
  rw [he]
  cases p <;> simp [sizeOf, typeInfo, hi, sliced, Addr.add]
theorem slice_behind32 (b j c : Nat) (hc : 44 ≤ c) : (∀ W, (Instr.slice 22 (.slice (some ⟨b, j, none⟩) 44 c) (some (.int .i64 32)) none none).run Tryz.prog W = .ok (.slice (some ⟨b, j + 32, none⟩) 12 (c - 32)) W) := fun W => by
  have ht' : Tryz.prog.underlying 22 = some (.slice (Tryz.prog.elem 22)) := by simp [Program.elem, Tryz.underlying22]
  have he : Tryz.prog.elem 22 = 5 := by simp [Program.elem, Tryz.underlying22]
  obtain ⟨i0, hi, hz0, hz1, hz2⟩ := info_parts infoByte
  have := run_slice_l W 22 (some ⟨b, j, none⟩) 44 c ht' .i64 32 (by omega) (by omega)
  refine this.trans ?_
  rw [he]
  have e : ¬ c = 32 := by omega
  simp [sizeOf, typeInfo, hi, hz1, sliced, Addr.add, e]
theorem in_first {w : World} {p : Option Addr} {xs : List Int} (h : BytesIn w p 44 xs) : BytesIn w p 32 (xs.take 32) := fun _ => by
  obtain ⟨b, o, rfl, hc⟩ := h (by omega)
  refine ⟨b, o, rfl, fun i hi => ?_⟩
  rw [hc i (by omega)]
  simp [List.getD_eq_getElem?_getD, hi]
theorem in_behind {w : World} {b o : Nat} {xs : List Int} (h : BytesIn w (some ⟨b, o, none⟩) 44 xs) : BytesIn w (some ⟨b, o + 32, none⟩) 12 (xs.drop 32) := fun _ => by
  obtain ⟨b', o', e, hc⟩ := h (by omega)
  cases e
  refine ⟨b, o + 32, rfl, fun i hi => ?_⟩
  rw [Nat.add_assoc, hc (32 + i) (by omega)]
  simp [List.getD_eq_getElem?_getD, List.getElem?_drop]
theorem size_alloc (W : World) (o : Obj) : (W.alloc o).heap.size = W.heap.size + 1 := by simp
theorem below_allocK {a w : World} (h : Below a.heap.size a w) (o : Obj) : Below a.heap.size a (w.alloc o) := h.alloc h.size o
theorem below_drewK {a w : World} (h : Below a.heap.size a w) : Below a.heap.size a w.drew := h.drew
set_option maxHeartbeats 4000000 in
theorem implKeys_any (p0 p1 p2 : Option Addr) (n0 n1 n2 q0 q1 q2 : Nat) (xs0 xs1 xs2 : List Int) (w : World) (hn1 : n1 ≤ 1048576) (hn2 : n2 ≤ 1048576) (hx0 : xs0.length = n0) (hx1 : xs1.length = n1) (hx2 : xs2.length = n2) (h0 : BytesIn w p0 n0 xs0) (h1 : BytesIn w p1 n1 xs1) (h2 : BytesIn w p2 n2 xs2)
    (hb0 : ∀ x ∈ xs0, 0 ≤ x ∧ x < 256) (hb1 : ∀ x ∈ xs1, 0 ≤ x ∧ x < 256) (hb2 : ∀ x ∈ xs2, 0 ≤ x ∧ x < 256) (hK : KeysIs w) :
    Calls Tryz.prog 37 #[.slice p0 n0 q0, .slice p1 n1 q1, .slice p2 n2 q2] w fun e w' => ∃ p c q d, e = .returned (.tuple #[.slice p 32 c, .slice q 12 d]) ∧ Pair w' w.heap.size p q c d 32 12 (kyL xs0 xs1 xs2) (ncL xs0 xs1 xs2) ∧ Below w.heap.size w w' := by
  unfold kyL ncL
  have hbb : ∀ x ∈ xs1 ++ xs2, 0 ≤ x ∧ x < 256 := fun x hx => (List.mem_append.1 hx).elim (hb1 x) (hb2 x)
  have hbl := bothL_length xs0 xs1 xs2
  have CC := fun (X : World) (hX : Below w.heap.size w X) => concatTwo p1 p2 n1 n2 q1 q2 xs1 xs2 X hx1 hx2 (by omega) (in_below h1 hX) (in_below h2 hX)
  have CD := fun (pc : Option Addr) (cc : Nat) (X : World) (hc : BytesIn X pc (n1 + n2) (xs1 ++ xs2)) (hX : Below w.heap.size w X) (r : Option Addr) (f : Nat) (hr : BytesIn X r 5 plumeL) => implDerive_any pc p0 r (n1 + n2) n0 5 cc q0 f 44 (xs1 ++ xs2) xs0 plumeL X (by rw [List.length_append, hx1, hx2]) hx0 rfl hc (in_below h0 hX) hr hbb hb0 plume_byte (keys_below hK hX)
  simp only [der44] at CD
  rw [show derL (xs1 ++ xs2) xs0 plumeL 44 = bothL xs0 xs1 xs2 from rfl] at CD
  generalize bothL xs0 xs1 xs2 = BL at CD hbl ⊢
  obtain ⟨A, hA⟩ : ∃ A, A = BL.take 32 := ⟨_, rfl⟩
  obtain ⟨B, hB⟩ : ∃ B, B = BL.drop 32 := ⟨_, rfl⟩
  have hAl : A.length = 32 := by rw [hA, List.length_take, hbl]; rfl
  have hBl : B.length = 12 := by rw [hB, List.length_drop, hbl]
  rw [← hA, ← hB]
  go_enter Tryz.func37, Tryz.ntmps37
  go_wp2_with (fail)
  refine (CC _ (Below.refl _ _)).mono ?_
  rintro e w1 ⟨pc, cc, rfl, rc, b1⟩
  have kc := fun (W : World) (C : Array Value) (n c : Nat) => Lib.run_convert_bytes_const (P := Tryz.prog) W 22 5 C n c Tryz.underlying22 Tryz.underlying5
  obtain ⟨W1, hW1⟩ : ∃ W1, W1 = w1.alloc (.cells #[.int .u8 112, .int .u8 108, .int .u8 117, .int .u8 109, .int .u8 101] 5 (5, 6)) := ⟨_, rfl⟩
  have bp : Below w1.heap.size w1 W1 := by rw [hW1]; exact made_below _ _ (Below.refl _ _)
  have hpl : BytesIn W1 (some ⟨w1.heap.size, 0, none⟩) 5 plumeL := by rw [hW1]; exact plume_in _ _ _
  have bW := below_on b1 bp
  have CD1 := CD pc cc W1 (in_below rc.bytes bp) bW (some ⟨w1.heap.size, 0, none⟩) 5 hpl
  replace hW1 : Hid (w1.alloc (.cells #[.int .u8 112, .int .u8 108, .int .u8 117, .int .u8 109, .int .u8 101] 5 (5, 6)) = W1) := hW1.symm
  clear CD CC hpl rc bp
  go_wp2_with (rw [hW1.out])
  refine CD1.mono ?_
  rintro e w2 ⟨p2, c2, rfl, r2, b2⟩
  have hc2 := r2.cap
  have k2 := below_on bW b2
  obtain ⟨gb, go, rfl, _⟩ := r2.bytes (by omega)
  have s1 := slice_32 (some ⟨gb, go, none⟩) c2 hc2
  have s2 := slice_behind32 gb go c2 hc2
  have bd : Below w2.heap.size w2 w2.drew := (Below.refl _ _).drew
  have i1 : BytesIn w2 (some ⟨gb, go, none⟩) 32 A := by rw [hA]; exact in_first r2.bytes
  have i2 : BytesIn w2 (some ⟨gb, go + 32, none⟩) 12 B := by rw [hB]; exact in_behind r2.bytes
  obtain ⟨g2, hg2⟩ : ∃ g2, g2 = go + 32 := ⟨_, rfl⟩
  obtain ⟨d2, hd2⟩ : ∃ d2, d2 = c2 - 32 := ⟨_, rfl⟩
  rw [← hg2, ← hd2] at s2
  rw [← hg2] at i2
  clear hg2 hd2 CD1 hA hB kc
  go_wp2_with (fail)
  go_region_held3 (fun _ => True) (trivial) (first | (go_at_call_of 69 go; refine (copied_any (some ⟨gb, go, none⟩) 32 c2 A _ (by decide) hAl (in_below i1 (by repeat (with_reducible (first | exact Below.refl _ _ | refine below_drewK ?_ | refine below_on ?_ ba | refine below_on ?_ bb))))).mono ?_; rintro z wa ⟨pa, ca, rfl, ra, ba⟩) | (go_at_call_of 69 g2; refine (copied_any (some ⟨gb, g2, none⟩) 12 d2 B _ (by decide) hBl (in_below i2 (by repeat (with_reducible (first | exact Below.refl _ _ | refine below_drewK ?_ | refine below_on ?_ ba | refine below_on ?_ bb))))).mono ?_; rintro z wb ⟨pb, cb, rfl, rb, bb⟩))
  all_goals
    go_wp2
    go_ret2
    first
      | exact ⟨_, _, _, _, rfl, ⟨_, _, _, _, ra.on bb, rb, ⟨k2.size, bb.size⟩, ⟨Nat.le_trans k2.size ba.size, Nat.le_refl _⟩, .inl (Nat.le_refl _)⟩, below_on (below_on k2.drew ba) bb⟩
      | exact ⟨_, _, _, _, rfl, ⟨_, _, _, _, ra, rb.on ba, ⟨Nat.le_trans k2.size bb.size, Nat.le_refl _⟩, ⟨k2.size, ba.size⟩, .inr (Nat.le_refl _)⟩, below_on (below_on k2.drew bb) ba⟩
set_option maxHeartbeats 8000000 in
theorem specKeys_any (p0 p1 p2 : Option Addr) (n0 n1 n2 q0 q1 q2 : Nat) (xs0 xs1 xs2 : List Int) (w : World) (hn1 : n1 ≤ 1048576) (hn2 : n2 ≤ 1048576) (hx0 : xs0.length = n0) (hx1 : xs1.length = n1) (hx2 : xs2.length = n2) (h0 : BytesIn w p0 n0 xs0) (h1 : BytesIn w p1 n1 xs1) (h2 : BytesIn w p2 n2 xs2)
    (hb0 : ∀ x ∈ xs0, 0 ≤ x ∧ x < 256) (hb1 : ∀ x ∈ xs1, 0 ≤ x ∧ x < 256) (hb2 : ∀ x ∈ xs2, 0 ≤ x ∧ x < 256) :
    Calls Tryz.prog 43 #[.slice p0 n0 q0, .slice p1 n1 q1, .slice p2 n2 q2] w fun e w' => ∃ p c q d, e = .returned (.tuple #[.slice p 32 c, .slice q 12 d]) ∧ Pair w' w.heap.size p q c d 32 12 (kyL xs0 xs1 xs2) (ncL xs0 xs1 xs2) ∧ Below w.heap.size w w' := by
  unfold kyL ncL
  obtain ⟨i0, hi, hz0, hz1, hz2⟩ := info_parts infoByte
  have hbb : ∀ x ∈ xs1 ++ xs2, 0 ≤ x ∧ x < 256 := fun x hx => (List.mem_append.1 hx).elim (hb1 x) (hb2 x)
  have hbl := bothL_length xs0 xs1 xs2
  have CD := fun (pc : Option Addr) (cc : Nat) (X : World) (hc : BytesIn X pc (n1 + n2) (xs1 ++ xs2)) (hX : Below w.heap.size w X) (r : Option Addr) (f : Nat) (hr : BytesIn X r 5 plumeL) => specDerive_any pc p0 r (n1 + n2) n0 5 cc q0 f 44 (xs1 ++ xs2) xs0 plumeL X (by rw [List.length_append, hx1, hx2]) hx0 rfl hc (in_below h0 hX) hr hbb hb0 plume_byte
  simp only [der44] at CD
  rw [show derL (xs1 ++ xs2) xs0 plumeL 44 = bothL xs0 xs1 xs2 from rfl] at CD
  generalize bothL xs0 xs1 xs2 = BL at CD hbl ⊢
  obtain ⟨A, hA⟩ : ∃ A, A = BL.take 32 := ⟨_, rfl⟩
  obtain ⟨B, hB⟩ : ∃ B, B = BL.drop 32 := ⟨_, rfl⟩
  have hAl : A.length = 32 := by rw [hA, List.length_take, hbl]; rfl
  have hBl : B.length = 12 := by rw [hB, List.length_drop, hbl]
  rw [← hA, ← hB]
  have o1 : (w.alloc (.cells #[] 5)).ownsRow w.heap.size 5 1 (.slice (some ⟨w.heap.size, 0, none⟩) 0 0) 0 (([] : List Int).map (Value.int .u8)) := World.ownsRow_made w #[] 0 (Nat.le_refl _) (by unfold maxLen; omega) rfl
  have b0 : Below w.heap.size w (w.alloc (.cells #[] 5)) := made_below _ _ (Below.refl _ _)
  have i1 := in_below h1 b0
  have z0 := b0.size
  obtain ⟨XL, hXL⟩ : ∃ XL, XL = xs1 ++ xs2 := ⟨_, rfl⟩
  obtain ⟨XN, hXN⟩ : ∃ XN, XN = n1 + n2 := ⟨_, rfl⟩
  simp only [← hXL, ← hXN] at CD
  replace hXL : Hid (xs1 ++ xs2 = XL) := hXL.symm
  replace hXN : Hid (n1 + n2 = XN) := hXN.symm
  clear hb0 hb1 hb2 hbb h1
  go_enter Tryz.func43, Tryz.ntmps43
  have kc := fun (W : World) (C : Array Value) (n c : Nat) => Lib.run_convert_bytes_const (P := Tryz.prog) W 22 5 C n c Tryz.underlying22 Tryz.underlying5
  go_wp2_with (first
    | (at_builtin; refine list_spreadA hi hz0 hz1 hz2 (.tmp 10) (.tmp 11) 22 Tryz.underlying22 o1 i1 hx1 (by omega) (by omega) z0 (by rfl) (by rfl) (by rfl) (by rfl) ?_; intro p3 c3 w3 o3 bq3; rw [List.nil_append, Nat.zero_add] at o3; rw [Nat.zero_add]; have k3 := b0.trans bq3; have z3 := k3.size; have i2 := in_below h2 k3; clear o1 i1 bq3)
    | (at_builtin; refine list_spreadA hi hz0 hz1 hz2 (.tmp 12) (.tmp 13) 22 Tryz.underlying22 o3 i2 hx2 (by omega) (by omega) z3 (by rfl) (by rfl) (by rfl) (by rfl) ?_; intro p4 c4 w4 o4 bq4; rw [hXL.out, hXN.out] at o4; rw [hXN.out]; have k4 := k3.trans bq4; have r4 := Own.of o4; clear o3 i2 bq4))
  have bp : Below w4.heap.size w4 (w4.alloc (.cells #[.int .u8 112, .int .u8 108, .int .u8 117, .int .u8 109, .int .u8 101] 5 (5, 6))) := made_below _ _ (Below.refl _ _)
  have bW := below_on k4 bp
  refine (CD p4 c4 _ (in_below r4.bytes bp) bW _ 5 (plume_in _ _ _)).mono ?_
  rintro e w5 ⟨p5, c5, rfl, r5, b5⟩
  have hc5 := r5.cap
  have k5 := below_on bW b5
  obtain ⟨gb, go, rfl, _⟩ := r5.bytes (by omega)
  have s1 := slice_32 (some ⟨gb, go, none⟩) c5 hc5
  have s2 := slice_behind32 gb go c5 hc5
  have j1 : BytesIn w5 (some ⟨gb, go, none⟩) 32 A := by rw [hA]; exact in_first r5.bytes
  have j2 : BytesIn w5 (some ⟨gb, go + 32, none⟩) 12 B := by rw [hB]; exact in_behind r5.bytes
  obtain ⟨g2, hg2⟩ : ∃ g2, g2 = go + 32 := ⟨_, rfl⟩
  obtain ⟨d2, hd2⟩ : ∃ d2, d2 = c5 - 32 := ⟨_, rfl⟩
  rw [← hg2, ← hd2] at s2
  rw [← hg2] at j2
  have zk5 := k5.size
  clear hg2 hd2 CD hA hB kc r4 bp b5 k3 z3 z0 b0 r5 h0 h2 hx0 hx1 hx2 hXL hXN hbl
  go_wp2_with (fail)
  go_region_held3 (fun _ => True) (trivial) (first | (refine step_fresh (w0 := w5) (lo := w5.heap.size) hi hz0 hz1 hz2 (.tmp 25) (.tmp 27) 22 Tryz.underlying22 (by rfl) (by rfl) (by rfl) (by rfl) (by repeat (with_reducible (first | exact emp_made _ _ rfl | exact emp_made _ _ (size_alloc _ _) | refine emp_alloc ?_ _ | refine emp_drew ?_ | refine emp_grown ?_ gga (by omega) | refine emp_grown ?_ ggb (by omega)))) (in_below j1 (by repeat (with_reducible (first | exact Below.refl _ _ | exact ba | exact bb | refine below_drewK ?_ | refine below_allocK ?_ _)))) hAl (by decide) (by decide) (by repeat (with_reducible (first | exact Below.refl _ _ | exact ba | exact bb | refine below_drewK ?_ | refine below_allocK ?_ _))) (by omega) ?_; intro ga ca wa ra la lta za gga ba; have sa := ba.size) | (refine step_fresh (w0 := w5) (lo := w5.heap.size) hi hz0 hz1 hz2 (.tmp 29) (.tmp 31) 22 Tryz.underlying22 (by rfl) (by rfl) (by rfl) (by rfl) (by repeat (with_reducible (first | exact emp_made _ _ rfl | exact emp_made _ _ (size_alloc _ _) | refine emp_alloc ?_ _ | refine emp_drew ?_ | refine emp_grown ?_ gga (by omega) | refine emp_grown ?_ ggb (by omega)))) (in_below j2 (by repeat (with_reducible (first | exact Below.refl _ _ | exact ba | exact bb | refine below_drewK ?_ | refine below_allocK ?_ _)))) hBl (by decide) (by decide) (by repeat (with_reducible (first | exact Below.refl _ _ | exact ba | exact bb | refine below_drewK ?_ | refine below_allocK ?_ _))) (by omega) ?_; intro gc cc wc rb lb ltb zb ggb bb; have sb := bb.size))
  all_goals
    simp only [size_alloc, World.drew] at la lb za zb
    go_wp2
    go_ret2
    first
      | exact ⟨_, _, _, _, rfl, ⟨_, _, _, _, (rowAt_grown (rowAt_alloc ra _) ggb (by omega)).own, rb.own, ⟨by omega, by omega⟩, ⟨by omega, by omega⟩, by omega⟩, below_on k5 bb⟩
      | exact ⟨_, _, _, _, rfl, ⟨_, _, _, _, (rowAt_grown ra ggb (by omega)).own, rb.own, ⟨by omega, by omega⟩, ⟨by omega, by omega⟩, by omega⟩, below_on k5 bb⟩
      | exact ⟨_, _, _, _, rfl, ⟨_, _, _, _, ra.own, (rowAt_grown (rowAt_alloc rb _) gga (by omega)).own, ⟨by omega, by omega⟩, ⟨by omega, by omega⟩, by omega⟩, below_on k5 ba⟩
      | exact ⟨_, _, _, _, rfl, ⟨_, _, _, _, ra.own, (rowAt_grown rb gga (by omega)).own, ⟨by omega, by omega⟩, ⟨by omega, by omega⟩, by omega⟩, below_on k5 ba⟩
end Go.Proofs.YtnpffnhiefgglaaGreatDoor
namespace Go.Proofs.YtnpffnhiefgglaaGreatDoor
set_option maxRecDepth 100000
def fldP : Int := 57896044618658097711785492504343953926634992332820282019728792003956564819949
def valZ (f : Nat → Int) : Nat → Int
  | 0 => 0
  | n + 1 => valZ f n + f n * 65536 ^ n
theorem valZ_congr {f g : Nat → Int} : ∀ {n : Nat}, (∀ i, i < n → f i = g i) → valZ f n = valZ g n
  | 0, _ => rfl
  | n + 1, h => by rw [valZ, valZ, valZ_congr (fun i hi => h i (by omega)), h n (by omega)]
theorem valZ_add (f g : Nat → Int) : ∀ n, valZ (fun i => f i + g i) n = valZ f n + valZ g n
  | 0 => rfl
  | n + 1 => by simp only [valZ]; rw [valZ_add f g n, Int.add_mul]; omega
theorem valZ_sub (f g : Nat → Int) : ∀ n, valZ (fun i => f i - g i) n = valZ f n - valZ g n
  | 0 => rfl
  | n + 1 => by simp only [valZ]; rw [valZ_sub f g n, Int.sub_mul]; omega
theorem valZ_mul (f : Nat → Int) (k : Int) : ∀ n, valZ (fun i => k * f i) n = k * valZ f n
  | 0 => by simp [valZ]
  | n + 1 => by simp only [valZ]; rw [valZ_mul f k n, Int.mul_add, Int.mul_assoc]
theorem valZ_zero : ∀ n, valZ (fun _ => 0) n = 0
  | 0 => rfl
  | n + 1 => by rw [valZ, valZ_zero n]; simp
theorem valZ_split (f : Nat → Int) (a : Nat) : ∀ b, valZ f (a + b) = valZ f a + 65536 ^ a * valZ (fun i => f (a + i)) b
  | 0 => by simp [valZ]
  | b + 1 => by
    rw [← Nat.add_assoc, valZ, valZ_split f a b, valZ, Int.mul_add, Int.pow_add]
    have : f (a + b) * (65536 ^ a * 65536 ^ b) = 65536 ^ a * (f (a + b) * 65536 ^ b) := by rw [← Int.mul_assoc, Int.mul_comm (f (a + b)), Int.mul_assoc]
    omega
theorem powZ_pos : ∀ n : Nat, (0 : Int) < 65536 ^ n
  | 0 => by decide
  | n + 1 => by rw [Int.pow_succ]; have := powZ_pos n; omega
theorem valZ_range {f : Nat → Int} : ∀ {n : Nat}, (∀ i, i < n → 0 ≤ f i ∧ f i < 65536) → 0 ≤ valZ f n ∧ valZ f n < 65536 ^ n
  | 0, _ => by simp [valZ]
  | n + 1, h => by
    have h1 := valZ_range (n := n) (fun i hi => h i (by omega))
    have h2 := h n (by omega)
    have hp := powZ_pos n
    have h3 : f n * 65536 ^ n ≤ 65535 * 65536 ^ n := Int.mul_le_mul_of_nonneg_right (by omega) (by omega)
    have h4 : 0 ≤ f n * 65536 ^ n := Int.mul_nonneg h2.1 (by omega)
    rw [valZ, Int.pow_succ]
    omega
/-! ### what is carried -/
def carZ (f : Nat → Int) : Nat → Int
  | 0 => 0
  | k + 1 => (f k + carZ f k) / 65536
def digZ (f : Nat → Int) (k : Nat) : Int := (f k + carZ f k) % 65536
theorem digZ_range (f : Nat → Int) (k : Nat) : 0 ≤ digZ f k ∧ digZ f k < 65536 := by unfold digZ; omega
theorem val_carZ (f : Nat → Int) : ∀ n, valZ (digZ f) n + 65536 ^ n * carZ f n = valZ f n
  | 0 => by simp [valZ, carZ]
  | n + 1 => by
    have ih := val_carZ f n
    have hd : digZ f n + 65536 * carZ f (n + 1) = carZ f n + f n := by
      simp only [digZ, carZ]
      omega
    have e1 : (65536 : Int) ^ (n + 1) * carZ f (n + 1) = 65536 ^ n * (65536 * carZ f (n + 1)) := by rw [Int.pow_succ, Int.mul_assoc]
    have e2 : digZ f n * 65536 ^ n = 65536 ^ n * digZ f n := Int.mul_comm _ _
    have e3 : (65536 : Int) ^ n * digZ f n + 65536 ^ n * (65536 * carZ f (n + 1)) = 65536 ^ n * (carZ f n + f n) := by rw [← Int.mul_add, hd]
    rw [Int.mul_add] at e3
    have e4 : f n * 65536 ^ n = 65536 ^ n * f n := Int.mul_comm _ _
    simp only [valZ]
    omega
def cryZ (f : Nat → Int) (i : Nat) : Int := if i = 0 then digZ f 0 + 38 * carZ f 16 else digZ f i
def likeP (a b : Int) : Prop := ∃ k, a = b + k * fldP
theorem likeP.refl (a : Int) : likeP a a := ⟨0, by omega⟩
theorem likeP.symm {a b : Int} : likeP a b → likeP b a := fun ⟨k, h⟩ => ⟨-k, by rw [h, Int.neg_mul]; omega⟩
theorem likeP.trans {a b c : Int} : likeP a b → likeP b c → likeP a c := fun ⟨k, h⟩ ⟨l, h'⟩ => ⟨k + l, by rw [h, h', Int.add_mul]; omega⟩
theorem likeP.add {a b c d : Int} : likeP a b → likeP c d → likeP (a + c) (b + d) := fun ⟨k, h⟩ ⟨l, h'⟩ => ⟨k + l, by rw [h, h', Int.add_mul]; omega⟩
theorem likeP.sub {a b c d : Int} : likeP a b → likeP c d → likeP (a - c) (b - d) := fun ⟨k, h⟩ ⟨l, h'⟩ => ⟨k - l, by rw [h, h', Int.sub_mul]; omega⟩
theorem likeP.mulR {a b : Int} (c : Int) : likeP a b → likeP (a * c) (b * c) := fun ⟨k, h⟩ => ⟨k * c, by rw [h, Int.add_mul, Int.mul_assoc k fldP c, Int.mul_comm fldP c, ← Int.mul_assoc]⟩
theorem likeP.mulL {a b : Int} (c : Int) (h : likeP a b) : likeP (c * a) (c * b) := by rw [Int.mul_comm c a, Int.mul_comm c b]; exact h.mulR c
theorem likeP.mul {a b c d : Int} (h : likeP a b) (h' : likeP c d) : likeP (a * c) (b * d) := (h.mulR c).trans (h'.mulL b)
theorem likeP_256 : likeP (65536 ^ 16) 38 := ⟨2, by decide⟩
theorem likeP.mod {a b : Int} : likeP a b → a % fldP = b % fldP := fun ⟨k, h⟩ => by rw [h, Int.add_mul_emod_self_right]
theorem likeP_of_mod {a b : Int} (h : a % fldP = b % fldP) : likeP a b := ⟨a / fldP - b / fldP, by
  have h1 := Int.mul_ediv_add_emod a fldP
  have h2 := Int.mul_ediv_add_emod b fldP
  rw [Int.sub_mul, Int.mul_comm (a / fldP), Int.mul_comm (b / fldP)]
  omega⟩
theorem likeP_mod (a : Int) : likeP (a % fldP) a := likeP_of_mod (Int.emod_emod_of_dvd a (Int.dvd_refl fldP))
theorem val_cry (f : Nat → Int) : valZ (cryZ f) 16 = valZ (digZ f) 16 + 38 * carZ f 16 := by
  have e1 := valZ_split (cryZ f) 1 15
  have e2 := valZ_split (digZ f) 1 15
  have e3 : valZ (fun i => cryZ f (1 + i)) 15 = valZ (fun i => digZ f (1 + i)) 15 := valZ_congr fun i _ => by rw [cryZ, if_neg (by omega)]
  have e4 : valZ (cryZ f) 1 = digZ f 0 + 38 * carZ f 16 := by simp [valZ, cryZ]
  have e5 : valZ (digZ f) 1 = digZ f 0 := by simp [valZ]
  rw [e3, e4] at e1
  rw [e5] at e2
  show valZ (cryZ f) (1 + 15) = valZ (digZ f) (1 + 15) + 38 * carZ f 16
  rw [e1, e2]
  omega
theorem like_cry (f : Nat → Int) : likeP (valZ (cryZ f) 16) (valZ f 16) := by
  have h := val_carZ f 16
  rw [val_cry, ← h]
  exact (likeP.refl _).add (likeP_256.symm.mulR _)
theorem carZ_le {f : Nat → Int} {M : Int} (h1 : ∀ i, -(65535 * M) ≤ f i) (h2 : ∀ i, f i ≤ 65535 * M) (h0 : 0 ≤ M) : ∀ k, -M - 1 ≤ carZ f k ∧ carZ f k ≤ M
  | 0 => by simp [carZ]; omega
  | k + 1 => by
    have ih := carZ_le h1 h2 h0 k
    have a := h1 k
    have b := h2 k
    rw [carZ]
    omega
theorem cryZ_tail (f : Nat → Int) (i : Nat) (hi : i ≠ 0) : 0 ≤ cryZ f i ∧ cryZ f i < 65536 := by rw [cryZ, if_neg hi]; exact digZ_range f i
/-! ### carried three times -/
def tailZ (f : Nat → Int) : Prop := ∀ i, i ≠ 0 → 0 ≤ f i ∧ f i < 65536
theorem cry_tail (f : Nat → Int) : tailZ (cryZ f) := fun i hi => cryZ_tail f i hi
theorem car_tail {f : Nat → Int} (ht : tailZ f) {K : Int} (h1 : -(65536 * K) ≤ f 0) (h2 : f 0 < 65536 * K) (hK : 1 ≤ K) (hK2 : K ≤ 4294836224) : ∀ k, 1 ≤ k → -K ≤ carZ f k ∧ carZ f k ≤ K ∧ (2 ≤ k → -65535 ≤ carZ f k ∧ carZ f k ≤ 65536) ∧ (3 ≤ k → -1 ≤ carZ f k ∧ carZ f k ≤ 1)
  | 0, h => by omega
  | 1, _ => by
    have e : carZ f 1 = f 0 / 65536 := by simp [carZ]
    rw [e]
    omega
  | k + 2, _ => by
    have ih := car_tail ht h1 h2 hK hK2 (k + 1) (by omega)
    have ha := ht (k + 1) (by omega)
    have e : carZ f (k + 2) = (f (k + 1) + carZ f (k + 1)) / 65536 := rfl
    rw [e]
    omega
theorem cry_head {f : Nat → Int} {M : Int} (h1 : ∀ i, -(65535 * M) ≤ f i) (h2 : ∀ i, f i ≤ 65535 * M) (h0 : 0 ≤ M) : -(38 * (M + 1)) ≤ cryZ f 0 ∧ cryZ f 0 < 65536 + 38 * M := by
  have hc := carZ_le h1 h2 h0 16
  have hd := digZ_range f 0
  rw [cryZ, if_pos rfl]
  omega
theorem cry_second {f : Nat → Int} (ht : tailZ f) {K : Int} (h1 : -(65536 * K) ≤ f 0) (h2 : f 0 < 65536 * K) (hK : 1 ≤ K) (hK2 : K ≤ 4294836224) : -38 ≤ cryZ f 0 ∧ cryZ f 0 ≤ 65573 := by
  have hc := (car_tail ht h1 h2 hK hK2 16 (by omega)).2.2.2 (by omega)
  have hd := digZ_range f 0
  rw [cryZ, if_pos rfl]
  omega
theorem cry_third {f : Nat → Int} (ht : tailZ f) (h1 : -38 ≤ f 0) (h2 : f 0 ≤ 65573) : ∀ i, 0 ≤ cryZ f i ∧ cryZ f i < 65536 := by
  intro i
  by_cases hi : i = 0
  · subst hi
    have hc := (car_tail ht (K := 2) (by omega) (by omega) (by omega) (by omega) 16 (by omega)).2.2.2 (by omega)
    have hv := val_carZ f 16
    have hr := valZ_range (f := digZ f) (n := 16) (fun i _ => digZ_range f i)
    have e1 := valZ_split f 1 15
    have e2 : valZ f 1 = f 0 := by simp [valZ]
    have ht' := valZ_range (f := fun i => f (1 + i)) (n := 15) (fun i _ => ht (1 + i) (by omega))
    have e3 : valZ f 16 = f 0 + 65536 * valZ (fun i => f (1 + i)) 15 := by
      rw [e2] at e1
      simpa using e1
    have e4 : (65536 : Int) ^ 16 = 65536 * 65536 ^ 15 := by decide
    have hd : digZ f 0 = f 0 % 65536 := by simp [digZ, carZ]
    rw [e3] at hv
    rw [cryZ, if_pos rfl, hd]
    generalize valZ (fun i => f (1 + i)) 15 = T at hv ht'
    generalize valZ (digZ f) 16 = D at hv hr
    generalize carZ f 16 = q at hc hv
    rw [e4] at hv hr
    generalize (65536 : Int) ^ 15 = B at hv hr ht'
    have hq : q = -1 ∨ q = 0 ∨ q = 1 := by omega
    rcases hq with rfl | rfl | rfl <;> omega
  · exact cryZ_tail f i hi
theorem cry_thrice {f : Nat → Int} (h1 : ∀ i, -140737488355328 ≤ f i) (h2 : ∀ i, f i ≤ 140737488355328) : ∀ i, 0 ≤ cryZ (cryZ (cryZ f)) i ∧ cryZ (cryZ (cryZ f)) i < 65536 := by
  have a := cry_head (f := f) (M := 2147516417) (fun i => by have := h1 i; omega) (fun i => by have := h2 i; omega) (by omega)
  have b := cry_second (cry_tail f) (K := 2000000) (by omega) (by omega) (by omega) (by omega)
  exact cry_third (cry_tail _) b.1 b.2
theorem cry_twice {f : Nat → Int} (h1 : ∀ i, -140737488355328 ≤ f i) (h2 : ∀ i, f i ≤ 140737488355328) : tailZ (cryZ (cryZ f)) ∧ -38 ≤ cryZ (cryZ f) 0 ∧ cryZ (cryZ f) 0 ≤ 65573 := by
  have a := cry_head (f := f) (M := 2147516417) (fun i => by have := h1 i; omega) (fun i => by have := h2 i; omega) (by omega)
  exact ⟨cry_tail _, cry_second (cry_tail f) (K := 2000000) (by omega) (by omega) (by omega) (by omega)⟩
/-! ### p taken away where it can be -/
def prtZ (i : Nat) : Int := if i = 0 then 65517 else if i = 15 then 32767 else 65535
theorem val_prt : valZ prtZ 16 = fldP := by decide
def dffZ (t : Nat → Int) (i : Nat) : Int := t i - prtZ i
def topZ (t : Nat → Int) : Int := dffZ t 15 + carZ (dffZ t) 15
def lssZ (t : Nat → Int) (i : Nat) : Int := if topZ t < 0 then t i else if i = 15 then topZ t else digZ (dffZ t) i
theorem dff_car {t : Nat → Int} (ht : ∀ i, 0 ≤ t i ∧ t i < 65536) : ∀ k, -1 ≤ carZ (dffZ t) k ∧ carZ (dffZ t) k ≤ 0
  | 0 => by simp [carZ]
  | k + 1 => by
    have ih := dff_car ht k
    have h := ht k
    have hp : 32767 ≤ prtZ k ∧ prtZ k ≤ 65535 := by
      unfold prtZ
      split
      · omega
      · split <;> omega
    have hk : carZ (dffZ t) (k + 1) = (dffZ t k + carZ (dffZ t) k) / 65536 := rfl
    have hd : dffZ t k = t k - prtZ k := rfl
    rw [hk, hd]
    omega
theorem val_dff (t : Nat → Int) : valZ (digZ (dffZ t)) 15 + topZ t * 65536 ^ 15 = valZ t 16 - fldP := by
  have h := val_carZ (dffZ t) 15
  have e : valZ (dffZ t) 16 = valZ t 16 - valZ prtZ 16 := valZ_sub t prtZ 16
  have e2 : valZ (dffZ t) 16 = valZ (dffZ t) 15 + dffZ t 15 * 65536 ^ 15 := rfl
  rw [val_prt] at e
  have e3 : topZ t * 65536 ^ 15 = dffZ t 15 * 65536 ^ 15 + 65536 ^ 15 * carZ (dffZ t) 15 := by rw [topZ, Int.add_mul, Int.mul_comm (carZ _ _)]
  omega
theorem lss_range {t : Nat → Int} (ht : ∀ i, 0 ≤ t i ∧ t i < 65536) : ∀ i, 0 ≤ lssZ t i ∧ lssZ t i < 65536 := by
  intro i
  have hc := dff_car ht 15
  have h15 := ht 15
  have hp : prtZ 15 = 32767 := by decide
  have hd : dffZ t 15 = t 15 - prtZ 15 := rfl
  unfold lssZ
  split
  · exact ht i
  · split
    · unfold topZ at *
      omega
    · exact digZ_range _ _
theorem val_lss {t : Nat → Int} : valZ (lssZ t) 16 = if fldP ≤ valZ t 16 then valZ t 16 - fldP else valZ t 16 := by
  have hv := val_dff t
  have hr := valZ_range (f := digZ (dffZ t)) (n := 15) (fun i _ => digZ_range _ i)
  by_cases hb : topZ t < 0
  · have e : lssZ t = t := by funext i; rw [lssZ, if_pos hb]
    have hlt : topZ t * 65536 ^ 15 ≤ -1 * 65536 ^ 15 := Int.mul_le_mul_of_nonneg_right (by omega) (by decide)
    rw [e, if_neg (by omega)]
  · have hge : 0 ≤ topZ t * 65536 ^ 15 := Int.mul_nonneg (by omega) (by decide)
    have e : valZ (lssZ t) 16 = valZ (lssZ t) 15 + lssZ t 15 * 65536 ^ 15 := rfl
    have e2 : valZ (lssZ t) 15 = valZ (digZ (dffZ t)) 15 := valZ_congr fun i hi => by rw [lssZ, if_neg hb, if_neg (by omega)]
    have e3 : lssZ t 15 = topZ t := by rw [lssZ, if_neg hb, if_pos rfl]
    rw [e, e2, e3, hv, if_pos (by omega)]
def redZ (f : Nat → Int) : Nat → Int := lssZ (lssZ (cryZ (cryZ (cryZ f))))
theorem red_range {f : Nat → Int} (h1 : ∀ i, -140737488355328 ≤ f i) (h2 : ∀ i, f i ≤ 140737488355328) : ∀ i, 0 ≤ redZ f i ∧ redZ f i < 65536 := lss_range (lss_range (cry_thrice h1 h2))
theorem val_red {f : Nat → Int} (h1 : ∀ i, -140737488355328 ≤ f i) (h2 : ∀ i, f i ≤ 140737488355328) : valZ (redZ f) 16 = valZ f 16 % fldP := by
  have hl : likeP (valZ (cryZ (cryZ (cryZ f))) 16) (valZ f 16) := (like_cry _).trans ((like_cry _).trans (like_cry _))
  have hr := valZ_range (f := cryZ (cryZ (cryZ f))) (n := 16) (fun i _ => cry_thrice h1 h2 i)
  rw [← hl.mod]
  generalize hV : valZ (cryZ (cryZ (cryZ f))) 16 = V at hr
  have hP : (65536 : Int) ^ 16 = 2 * fldP + 38 := by decide
  have h38 : (38 : Int) < fldP := by decide
  have hpos : 0 < fldP := by decide
  have key : ∀ W, W = V → V % fldP = if fldP ≤ (if fldP ≤ W then W - fldP else W) then (if fldP ≤ W then W - fldP else W) - fldP else (if fldP ≤ W then W - fldP else W) := by
    rintro W rfl
    by_cases c1 : fldP ≤ W
    · rw [if_pos c1]
      by_cases c2 : fldP ≤ W - fldP
      · rw [if_pos c2]
        have : W = (W - fldP - fldP) + 2 * fldP := by omega
        rw [this, Int.add_mul_emod_self_right, Int.emod_eq_of_lt (by omega) (by omega)]
        omega
      · rw [if_neg c2]
        have : W = (W - fldP) + 1 * fldP := by omega
        rw [this, Int.add_mul_emod_self_right, Int.emod_eq_of_lt (by omega) (by omega)]
        omega
    · rw [if_neg c1, if_neg c1, Int.emod_eq_of_lt (by omega) (by omega)]
  rw [key V rfl, redZ, val_lss, val_lss, hV]
end Go.Proofs.YtnpffnhiefgglaaGreatDoor
