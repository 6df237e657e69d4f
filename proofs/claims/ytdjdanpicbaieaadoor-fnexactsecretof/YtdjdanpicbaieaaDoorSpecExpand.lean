/-
  What the specification's Expand answers: the first so many bytes of the codes one behind the other. Condition: bytes all.
-/
import Derived.Test.YtdjdanpicbaieaaDoorSpecMac
import Derived.Test.YtdjdanpicbaieaaDoorExpMath
namespace Go.Proofs.YtdjdanpicbaieaaDoor
open Go.RowKit
set_option maxRecDepth 100000

theorem l1In_same (a b c : Int) (w : World) : Calls Tryd.prog 29 #[.int .i64 a, .int .i64 b, .int .i64 c] w fun e w' => e = .returned (.bool (decide (b ≤ a) && decide (a ≤ c))) ∧ w' = w := by
  by_cases h1 : b ≤ a
  · by_cases h2 : a ≤ c
    · rw [decide_eq_true h1, decide_eq_true h2]
      go_enter Tryd.func29, Tryd.ntmps29
      go_wp2
      go_ret
      exact ⟨rfl, rfl⟩
    · rw [decide_eq_true h1, decide_eq_false h2]
      go_enter Tryd.func29, Tryd.ntmps29
      go_wp2
      go_ret
      exact ⟨rfl, rfl⟩
  · rw [decide_eq_false h1]
    go_enter Tryd.func29, Tryd.ntmps29
    go_wp2
    go_ret
    exact ⟨rfl, rfl⟩

set_option maxHeartbeats 1000000 in
theorem specExpand_yes (p q : Option Addr) (n m c d M : Nat) (ks xs : List Int) (w : World) (hM1 : 1 ≤ M) (hM2 : M ≤ 8160) (hn : n ≤ 400) (hm : m ≤ 400) (hx : ks.length = n) (hy : xs.length = m) (h : BytesIn w p n ks) (h' : BytesIn w q m xs) (hb : ∀ x ∈ ks, 0 ≤ x ∧ x < 256) (hb' : ∀ x ∈ xs, 0 ≤ x ∧ x < 256) :
    Calls Tryd.prog 49 #[.slice p n c, .slice q m d, .int .i64 (M : Int)] w fun e w' => ∃ p' c', e = .returned (.slice p' M c') ∧ Own 5 w' w.heap.size w'.heap.size (.slice p' M c') M (expL ks xs (M : Int)) ∧ Below w.heap.size w w' := by
  obtain ⟨i0, hi, hz0, hz1, hz2⟩ := info_parts infoByte
  have d1 : ¬ (400 : Int) < (n : Int) := by omega
  have d2 : ¬ (400 : Int) < (m : Int) := by omega
  have CI : ∀ X, Calls Tryd.prog 29 #[.int .i64 (M : Int), .int .i64 1, .int .i64 8160] X fun e w' => e = .returned (.bool true) ∧ w' = X := fun X => by
    have := l1In_same (M : Int) 1 8160 X
    rw [decide_eq_true (by omega), decide_eq_true (by omega)] at this
    exact this
  have hkl := kL_length (key := ks) (by omega)
  have HE : Hid (∀ i, M ≤ 32 * i → expL ks xs (M : Int) = (allL (kL ks) xs i).take M) := fun i hi => exp_is hM1 hM2 (by omega) (by omega) hi
  have CM := fun (q : Option Addr) (m d : Nat) (xs : List Int) (X : World) hm hy hin hin' hb' => specMac_yes p q n m c d ks xs X (by omega) hm hx hy hin hin' hb hb'
  generalize kL ks = kk at CM hkl HE
  have HT : Hid (∀ i, (tL kk xs (i + 1)).length = 32) := fun i => tL_length hkl (by omega) i
  have HTt : Hid (∀ i, (tL kk xs i).length ≤ 32) := fun i => (tL_text hkl (by omega) i).1
  have HAl : Hid (∀ i, (allL kk xs i).length = 32 * i) := fun i => allL_length hkl (by omega) i
  have HTb : Hid (∀ i, i + 1 < 256 → ∀ x ∈ tL kk xs i ++ xs ++ [((i + 1 : Nat) : Int)], 0 ≤ x ∧ x < 256) := fun i hi => text_byte hb' hi
  have HTe : Hid (∀ i, ofL kk (tL kk xs i ++ xs ++ [((i + 1 : Nat) : Int)]) = tL kk xs (i + 1)) := fun _ => rfl
  have HAe : Hid (∀ i, allL kk xs i ++ tL kk xs (i + 1) = allL kk xs (i + 1)) := fun _ => rfl
  have hown0 : (w.alloc (.cells #[] 5)).ownsRow w.heap.size 5 1 (.slice (some ⟨w.heap.size, 0, none⟩) 0 0) 0 ((allL kk xs 0).map (Value.int .u8)) := World.ownsRow_made w #[] 0 (Nat.le_refl _) (by unfold maxLen; omega) rfl
  have hb0 : Below w.heap.size w (w.alloc (.cells #[] 5)) := (Below.refl _ _).alloc (Nat.le_refl _) _
  have hsA : (w.alloc (.cells #[] 5)).heap.size = w.heap.size + 1 := by simp
  clear hx
  go_enter Tryd.func49, Tryd.ntmps49
  go_wp2_with (fail)
  refine (CI _).mono ?_
  rintro e w1 ⟨rfl, rfl⟩
  clear CI
  have hown1 := hown0.alloc (.cells #[] 5)
  have hb1 : Below w.heap.size w ((w.alloc (.cells #[] 5)).alloc (.cells #[] 5)) := hb0.alloc (by simp) _
  clear hown0 hb0 hsA
  go_wp2_with (fail)
  generalize (w.alloc (.cells #[] 5)).alloc (.cells #[] 5) = w2 at hown1 hb1 ⊢
  go_loopw [7, 8, 9, 10] (fun v u i _ wr => ∃ (k j mm nl cl : Nat) (pl : Option Addr), Hid (j = k + 1) ∧ Hid (mm = 32 * k) ∧ 32 * k < M + 32 ∧ i = .int .i64 j ∧ 1 ≤ j ∧ wr.ownsRow w.heap.size 5 1 v mm ((allL kk xs k).map (Value.int .u8)) ∧ u = .slice pl nl cl ∧ Hid ((tL kk xs k).length = nl) ∧ BytesIn wr pl nl (tL kk xs k) ∧ Below w.heap.size w wr)
    (fun v _ _ _ _ => M + 64 - sliceLen v)
  case atStart => exact ⟨0, 1, 0, 0, 0, _, rfl, rfl, by omega, rfl, by omega, hown1, rfl, rfl, fun h0 => absurd h0 (by omega), hb1⟩
  case round =>
    clear hown1 hb1
    obtain ⟨k, j, mm, nl, cl, pl, hj, hmm, hkM, rfl, hj1, hown, rfl, hnl, hinl, hbl⟩ := hrel
    have hszr := hbl.size
    obtain ⟨pv, cv, hv⟩ := owns_form hown
    subst hv
    have hcv := owns_cap hown
    by_cases hlt : mm < M
    · have hkM2 : 32 * k < M := by have := hmm.out; omega
      have hj255 : j ≤ 255 := by have := hj.out; omega
      have hnl32 : nl ≤ 32 := by have := hnl.out; have := HTt.out k; omega
      have hw8 : IntKind.u8.wrap (j : Int) = (j : Int) := by rw [IntKind.wrap_u8]; omega
      have hgcv : Hid (∀ g, (Value.slice pv mm cv).ownBlock = some g → g < wr.heap.size) := fun g hg => (hown.lt g hg).2
      have ht0 : (wr.alloc (.cells #[] 5)).ownsRow wr.heap.size 5 1 (.slice (some ⟨wr.heap.size, 0, none⟩) 0 0) 0 (([] : List Int).map (Value.int .u8)) := World.ownsRow_made wr #[] 0 (Nat.le_refl _) (by unfold maxLen; omega) rfl
      have bt0 : Below wr.heap.size wr (wr.alloc (.cells #[] 5)) := (Below.refl _ _).alloc (Nat.le_refl _) _
      have hin1 := in_below hinl bt0
      have hTX : ofL kk (tL kk xs k ++ xs ++ [(j : Int)]) = tL kk xs (k + 1) := by rw [hj.out]; exact HTe.out k
      have hTB : ∀ x ∈ tL kk xs k ++ xs ++ [(j : Int)], 0 ≤ x ∧ x < 256 := by rw [hj.out]; exact HTb.out k (by have := hj.out; omega)
      have hTl : (tL kk xs k ++ xs ++ [(j : Int)]).length = nl + m + 1 := by simp only [List.length_append, hnl.out, hy, List.length_singleton]
      have hin2 := in_below h' hbl
      have hin3 := in_below h hbl
      go_wp2_with (first
        | (at_builtin; refine list_spreadA hi hz0 hz1 hz2 (.tmp 33) (.tmp 34) 22 Tryd.underlying22 ht0 hin1 hnl.out (by omega) (by omega) (by simp) (by rfl) (by rfl) (by rfl) (by rfl) ?_; intro p3 cap3 w3 ho3 hb3; simp only [Nat.zero_add, List.nil_append] at ho3 ⊢; have b3 : Below wr.heap.size wr w3 := bt0.trans hb3; have hi3 := in_below hin2 b3; have hs3 := b3.size)
        | (at_builtin; refine list_spreadA hi hz0 hz1 hz2 (.tmp 35) (.tmp 36) 22 Tryd.underlying22 ho3 hi3 hy (by omega) (by omega) hs3 (by rfl) (by rfl) (by rfl) (by rfl) ?_; intro p4 cap4 w4 ho4 hb4; have b4 : Below wr.heap.size wr w4 := b3.trans hb4; have hs4 := b4.size)
        | (at_builtin; refine list_push hi hz0 hz1 hz2 (.tmp 39) (.tmp 42) 22 Tryd.underlying22 _ ho4 (by omega) hs4 (by rfl) (by rfl) (by rfl) (by rfl) ?_; intro g5 cap5 w5 ho5 hb5; have b5 : Below wr.heap.size wr w5 := b4.trans hb5))
      refine (CM _ (nl + m + 1) _ (tL kk xs k ++ xs ++ [(j : Int)]) w5 (by omega) hTl (in_below hin3 b5) (owns_in ho5) hTB).mono ?_
      rintro e w6 ⟨p6, c6, rfl, r6, b6⟩
      rw [hTX] at r6
      have B6 := below_on b5 b6
      have hown6 := owns_below hown B6
      have hr6 := r6.1
      obtain ⟨gl, rfl⟩ := owns_at hr6 (by decide)
      have hgl := hr6.lt gl rfl
      have hs5 := b5.size
      have hneL : Hid ((Value.slice (some ⟨gl, 0, none⟩) 32 c6).ownBlock ≠ (Value.slice pv mm cv).ownBlock) := fun e => by
        have h1 := hgcv.out gl e.symm
        omega
      have hin6 := r6.bytes
      have l6 := HT.out k
      have HX : Hid (allL kk xs k ++ tL kk xs (k + 1) = allL kk xs (k + 1)) := HAe.out k
      have bel6 : Below w.heap.size w w6 := below_on hbl B6
      have hs6 := bel6.size
      have hj3 : Hid (j + 1 = k + 1 + 1) := by have := hj.out; rw [Hid]; omega
      have hm3 : Hid (mm + 32 = 32 * (k + 1)) := by have := hmm.out; rw [Hid]; omega
      clear hTX hTB hTl hin1 hin2 hin3 ht0 bt0 ho5 hb5 b5 b6 B6 r6 hown hinl hnl hgcv hw8 ho3 ho4 hb3 hb4 hi3 b3 b4
      go_wp2_with (at_builtin; refine list_spread hi hz0 hz1 hz2 (.tmp 45) (.tmp 46) 22 Tryd.underlying22 hown6 hin6 l6 (by omega) (by omega) (by omega) hs6 (by rfl) (by rfl) (by rfl) (by rfl) ?_; intro g7 cap7 w7 ho7 hg7 hb7; rw [HX.out] at ho7)
      have hl7 := owns_in (hr6.kept hg7 (.inr hneL.out))
      go_roundw
      case rel => exact ⟨k + 1, j + 1, mm + 32, 32, c6, some ⟨gl, 0, none⟩, hj3, hm3, by omega, by go_num, by omega, ho7, rfl, HT.out k, hl7, bel6.trans hb7⟩
      case measure => simp only [sliceLen]; omega
    · have hnl2 : ¬ (mm : Int) < (M : Int) := by omega
      have HEk : Hid (expL ks xs (M : Int) = (allL kk xs k).take M) := HE.out k (by have := hmm.out; omega)
      have i1 : (M : Int) ≤ (cv : Int) := by omega
      have inx : BytesIn wr pv M ((allL kk xs k).take M) := fun _ => by
        obtain ⟨b', o', e1, e2⟩ := owns_in hown (by omega)
        refine ⟨b', o', e1, fun i hi => ?_⟩
        rw [e2 i (by omega), List.getD_eq_getElem?_getD, List.getD_eq_getElem?_getD, List.getElem?_take_of_lt hi]
      have lx : ((allL kk xs k).take M).length = M := by rw [List.length_take, HAl.out k]; have := hmm.out; omega
      have ht0 : (wr.alloc (.cells #[] 5)).ownsRow wr.heap.size 5 1 (.slice (some ⟨wr.heap.size, 0, none⟩) 0 0) 0 (([] : List Int).map (Value.int .u8)) := World.ownsRow_made wr #[] 0 (Nat.le_refl _) (by unfold maxLen; omega) rfl
      have bt0 : Below wr.heap.size wr (wr.alloc (.cells #[] 5)) := (Below.refl _ _).alloc (Nat.le_refl _) _
      have inx' := in_below inx bt0
      clear inx hnl hinl hmm HT HTt HTb HTe HAe HAl CM
      go_wp2_with (at_builtin; refine list_spreadA hi hz0 hz1 hz2 (.tmp 48) (.tmp 51) 22 Tryd.underlying22 ht0 inx' lx (by omega) (by omega) (by simp) (by rfl) (by rfl) (by rfl) (by rfl) ?_; intro p3 cap3 w3 ho3 hb3; simp only [Nat.zero_add, List.nil_append] at ho3 ⊢)
      go_ret
      rw [← HEk.out] at ho3
      exact ⟨_, _, rfl, .of (owns_mono ho3 hszr), below_on hbl (bt0.trans hb3)⟩

theorem specExpand_no (p q : Option Addr) (n m c d : Nat) (many : Int) (w : World) (h : ¬ expOk n m many) :
    Calls Tryd.prog 49 #[.slice p n c, .slice q m d, .int .i64 many] w fun e w' => ∃ p' c', e = .returned (.slice p' 0 c') ∧ Own 5 w' w.heap.size w'.heap.size (.slice p' 0 c') 0 [] ∧ Below w.heap.size w w' := by
  unfold expOk at h
  have CI := fun X => l1In_same many 1 8160 X
  by_cases d1 : 1 ≤ many ∧ many ≤ 8160
  · rw [decide_eq_true d1.1, decide_eq_true d1.2] at CI
    by_cases d3 : m ≤ 400
    · have d4 : ¬ (400 : Int) < (m : Int) := by omega
      have d5 : (400 : Int) < (n : Int) := by omega
      go_enter Tryd.func49, Tryd.ntmps49
      go_wp2_with (fail)
      refine (CI _).mono ?_
      rintro e w1 ⟨rfl, rfl⟩
      go_wp2
      go_ret
      exact ⟨_, _, rfl, .of (World.ownsRow_made w #[] 0 (Nat.le_refl _) (by unfold maxLen; omega) rfl), (Below.refl _ _).alloc (Nat.le_refl _) _⟩
    · have d4 : (400 : Int) < (m : Int) := by omega
      go_enter Tryd.func49, Tryd.ntmps49
      go_wp2_with (fail)
      refine (CI _).mono ?_
      rintro e w1 ⟨rfl, rfl⟩
      go_wp2
      go_ret
      exact ⟨_, _, rfl, .of (World.ownsRow_made w #[] 0 (Nat.le_refl _) (by unfold maxLen; omega) rfl), (Below.refl _ _).alloc (Nat.le_refl _) _⟩
  · have d2 : (decide (1 ≤ many) && decide (many ≤ 8160)) = false := by
      rcases Decidable.not_and_iff_not_or_not.1 d1 with e | e <;> simp [e]
    rw [d2] at CI
    go_enter Tryd.func49, Tryd.ntmps49
    go_wp2_with (fail)
    refine (CI _).mono ?_
    rintro e w1 ⟨rfl, rfl⟩
    go_wp2
    go_ret
    exact ⟨_, _, rfl, .of (World.ownsRow_made w #[] 0 (Nat.le_refl _) (by unfold maxLen; omega) rfl), (Below.refl _ _).alloc (Nat.le_refl _) _⟩
theorem specExpand_any (p q : Option Addr) (n m c d : Nat) (many : Int) (ks xs : List Int) (w : World) (hx : ks.length = n) (hy : xs.length = m) (h : BytesIn w p n ks) (h' : BytesIn w q m xs) (hb : ∀ x ∈ ks, 0 ≤ x ∧ x < 256) (hb' : ∀ x ∈ xs, 0 ≤ x ∧ x < 256) :
    Calls Tryd.prog 49 #[.slice p n c, .slice q m d, .int .i64 many] w fun e w' => ∃ p' c', e = .returned (.slice p' (expN n m many) c') ∧ Own 5 w' w.heap.size w'.heap.size (.slice p' (expN n m many) c') (expN n m many) (expL ks xs many) ∧ Below w.heap.size w w' := by
  by_cases hok : expOk n m many
  · obtain ⟨h1, h2, h3, h4⟩ := hok
    obtain ⟨M, rfl⟩ : ∃ M : Nat, many = M := ⟨many.toNat, by omega⟩
    rw [expN_is (by omega) (by omega) h3 h4]
    exact specExpand_yes p q n m c d M ks xs w (by omega) (by omega) h4 h3 hx hy h h' hb hb'
  · rw [show expN n m many = 0 from if_neg hok, show expL ks xs many = [] by unfold expL; rw [hx, hy, if_neg hok]]
    exact specExpand_no p q n m c d many w hok

end Go.Proofs.YtdjdanpicbaieaaDoor
