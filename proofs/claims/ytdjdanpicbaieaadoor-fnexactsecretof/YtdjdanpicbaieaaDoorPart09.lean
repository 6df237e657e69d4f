/-
  What the specification's Expand answers: the first so many bytes of the codes one behind the other. Condition: bytes all.
  What both sides' Derive answers: Expand of Extract. Conditions: bytes all; for the program the table of the rounds' numbers is as its text says.
  The program's copied: a copy of bytes. Condition: bytes that lie there.
  slices.Concat of rows that are all empty; of two rows. Condition: bytes that lie there.
  The cells of a block of one's own: what lies there, behind stores into it and behind what else is done. No condition beyond each fact's own.
  Epochs: whether one has keys, and how an epoch is told behind a word, in the program and in the specification. Conditions: each fact's own.
  A lock and a once of one goroutine: what sync's own functions do to a lock that is free and to a once that was not done (their texts walked at this program's numbers). Conditions: each fact's own.
-/
import Derived.Test.YtdjdanpicbaieaaDoorPart08
import Derived.Test.YtdjdanpicbaieaaDoorPart01
import Derived.Laws.CopyOwn
import Derived.Test.YtdjdanpicbaieaaDoorPart06
import Derived.Test.YtdjdanpicbaieaaDoorPart05
import Derived.Lib.SlBytesConst
import Derived.Lib.ConvBytes
import Derived.ArgAppend
import Derived.Maps.OwnSet
import Derived.Maps.AppendAt
import Derived.Test.YtdjdanpicbaieaaDoorChecked
import Derived.Tactics2
import Derived.Defers
import Derived.Laws.Pointers
import Derived.Laws.LoneSync
import Derived.Laws.NewBlocks
import Derived.RegionCalls
namespace Go.Proofs.YtdjdanpicbaieaaDoor
open Go.RowKit
set_option maxRecDepth 100000

theorem l1In_same (a b c : Int) (w : World) : Calls Tryd.prog 29 #[.int .i64 a, .int .i64 b, .int .i64 c] w fun e w' => e = .returned (.bool (decide (b ≤ a) && decide (a ≤ c))) ∧ w' = w := by
  by_cases h1 : b ≤ a
  · by_cases h2 : a ≤ c
    · rw [decide_eq_true h1, decide_eq_true h2]
      go_enter Tryd.func29, Tryd.ntmps29
      go_wp2
      go_ret
      exact ⟨rfl, rfl⟩
    · rw [decide_eq_true h1, decide_eq_false h2]
      go_enter Tryd.func29, Tryd.ntmps29
      go_wp2
      go_ret
      exact ⟨rfl, rfl⟩
  · rw [decide_eq_false h1]
    go_enter Tryd.func29, Tryd.ntmps29
    go_wp2
    go_ret
    exact ⟨rfl, rfl⟩

set_option maxHeartbeats 1000000 in
theorem specExpand_yes (p q : Option Addr) (n m c d M : Nat) (ks xs : List Int) (w : World) (hM1 : 1 ≤ M) (hM2 : M ≤ 8160) (hn : n ≤ 400) (hm : m ≤ 400) (hx : ks.length = n) (hy : xs.length = m) (h : BytesIn w p n ks) (h' : BytesIn w q m xs) (hb : ∀ x ∈ ks, 0 ≤ x ∧ x < 256) (hb' : ∀ x ∈ xs, 0 ≤ x ∧ x < 256) :
    Calls Tryd.prog 49 #[.slice p n c, .slice q m d, .int .i64 (M : Int)] w fun e w' => ∃ p' c', e = .returned (.slice p' M c') ∧ Own 5 w' w.heap.size w'.heap.size (.slice p' M c') M (expL ks xs (M : Int)) ∧ Below w.heap.size w w' := by
  obtain ⟨i0, hi, hz0, hz1, hz2⟩ := info_parts infoByte
  have d1 : ¬ (400 : Int) < (n : Int) := by omega
  have d2 : ¬ (400 : Int) < (m : Int) := by omega
  have CI : ∀ X, Calls Tryd.prog 29 #[.int .i64 (M : Int), .int .i64 1, .int .i64 8160] X fun e w' => e = .returned (.bool true) ∧ w' = X := fun X => by
    have := l1In_same (M : Int) 1 8160 X
    rw [decide_eq_true (by omega), decide_eq_true (by omega)] at this
    exact this
  have hkl := kL_length (key := ks) (by omega)
  have HE : Hid (∀ i, M ≤ 32 * i → expL ks xs (M : Int) = (allL (kL ks) xs i).take M) := fun i hi => exp_is hM1 hM2 (by omega) (by omega) hi
  have CM := fun (q : Option Addr) (m d : Nat) (xs : List Int) (X : World) hm hy hin hin' hb' => specMac_yes p q n m c d ks xs X (by omega) hm hx hy hin hin' hb hb'
  generalize kL ks = kk at CM hkl HE
  have HT : Hid (∀ i, (tL kk xs (i + 1)).length = 32) := fun i => tL_length hkl (by omega) i
  have HTt : Hid (∀ i, (tL kk xs i).length ≤ 32) := fun i => (tL_text hkl (by omega) i).1
  have HAl : Hid (∀ i, (allL kk xs i).length = 32 * i) := fun i => allL_length hkl (by omega) i
  have HTb : Hid (∀ i, i + 1 < 256 → ∀ x ∈ tL kk xs i ++ xs ++ [((i + 1 : Nat) : Int)], 0 ≤ x ∧ x < 256) := fun i hi => text_byte hb' hi
  have HTe : Hid (∀ i, ofL kk (tL kk xs i ++ xs ++ [((i + 1 : Nat) : Int)]) = tL kk xs (i + 1)) := fun _ => rfl
  have HAe : Hid (∀ i, allL kk xs i ++ tL kk xs (i + 1) = allL kk xs (i + 1)) := fun _ => rfl
  have hown0 : (w.alloc (.cells #[] 5)).ownsRow w.heap.size 5 1 (.slice (some ⟨w.heap.size, 0, none⟩) 0 0) 0 ((allL kk xs 0).map (Value.int .u8)) := World.ownsRow_made w #[] 0 (Nat.le_refl _) (by unfold maxLen; omega) rfl
  have hb0 : Below w.heap.size w (w.alloc (.cells #[] 5)) := (Below.refl _ _).alloc (Nat.le_refl _) _
  have hsA : (w.alloc (.cells #[] 5)).heap.size = w.heap.size + 1 := by simp
  clear hx
  go_enter Tryd.func49, Tryd.ntmps49
  go_wp2_with (fail)
  refine (CI _).mono ?_
  rintro e w1 ⟨rfl, rfl⟩
  clear CI
  have hown1 := hown0.alloc (.cells #[] 5)
  have hb1 : Below w.heap.size w ((w.alloc (.cells #[] 5)).alloc (.cells #[] 5)) := hb0.alloc (by simp) _
  clear hown0 hb0 hsA
  go_wp2_with (fail)
  generalize (w.alloc (.cells #[] 5)).alloc (.cells #[] 5) = w2 at hown1 hb1 ⊢
  go_loopw [7, 8, 9, 10] (fun v u i _ wr => ∃ (k j mm nl cl : Nat) (pl : Option Addr), Hid (j = k + 1) ∧ Hid (mm = 32 * k) ∧ 32 * k < M + 32 ∧ i = .int .i64 j ∧ 1 ≤ j ∧ wr.ownsRow w.heap.size 5 1 v mm ((allL kk xs k).map (Value.int .u8)) ∧ u = .slice pl nl cl ∧ Hid ((tL kk xs k).length = nl) ∧ BytesIn wr pl nl (tL kk xs k) ∧ Below w.heap.size w wr)
    (fun v _ _ _ _ => M + 64 - sliceLen v)
  case atStart => exact ⟨0, 1, 0, 0, 0, _, rfl, rfl, by omega, rfl, by omega, hown1, rfl, rfl, fun h0 => absurd h0 (by omega), hb1⟩
  case round =>
    clear hown1 hb1
    obtain ⟨k, j, mm, nl, cl, pl, hj, hmm, hkM, rfl, hj1, hown, rfl, hnl, hinl, hbl⟩ := hrel
    have hszr := hbl.size
    obtain ⟨pv, cv, hv⟩ := owns_form hown
    subst hv
    have hcv := owns_cap hown
    by_cases hlt : mm < M
    · have hkM2 : 32 * k < M := by have := hmm.out; omega
      have hj255 : j ≤ 255 := by have := hj.out; omega
      have hnl32 : nl ≤ 32 := by have := hnl.out; have := HTt.out k; omega
      have hw8 : IntKind.u8.wrap (j : Int) = (j : Int) := by rw [IntKind.wrap_u8]; omega
      have hgcv : Hid (∀ g, (Value.slice pv mm cv).ownBlock = some g → g < wr.heap.size) := fun g hg => (hown.lt g hg).2
      have ht0 : (wr.alloc (.cells #[] 5)).ownsRow wr.heap.size 5 1 (.slice (some ⟨wr.heap.size, 0, none⟩) 0 0) 0 (([] : List Int).map (Value.int .u8)) := World.ownsRow_made wr #[] 0 (Nat.le_refl _) (by unfold maxLen; omega) rfl
      have bt0 : Below wr.heap.size wr (wr.alloc (.cells #[] 5)) := (Below.refl _ _).alloc (Nat.le_refl _) _
      have hin1 := in_below hinl bt0
      have hTX : ofL kk (tL kk xs k ++ xs ++ [(j : Int)]) = tL kk xs (k + 1) := by rw [hj.out]; exact HTe.out k
      have hTB : ∀ x ∈ tL kk xs k ++ xs ++ [(j : Int)], 0 ≤ x ∧ x < 256 := by rw [hj.out]; exact HTb.out k (by have := hj.out; omega)
      have hTl : (tL kk xs k ++ xs ++ [(j : Int)]).length = nl + m + 1 := by simp only [List.length_append, hnl.out, hy, List.length_singleton]
      have hin2 := in_below h' hbl
      have hin3 := in_below h hbl
      go_wp2_with (first
        | (at_builtin; refine list_spreadA hi hz0 hz1 hz2 (.tmp 33) (.tmp 34) 22 Tryd.underlying22 ht0 hin1 hnl.out (by omega) (by omega) (by simp) (by rfl) (by rfl) (by rfl) (by rfl) ?_; intro p3 cap3 w3 ho3 hb3; simp only [Nat.zero_add, List.nil_append] at ho3 ⊢; have b3 : Below wr.heap.size wr w3 := bt0.trans hb3; have hi3 := in_below hin2 b3; have hs3 := b3.size)
        | (at_builtin; refine list_spreadA hi hz0 hz1 hz2 (.tmp 35) (.tmp 36) 22 Tryd.underlying22 ho3 hi3 hy (by omega) (by omega) hs3 (by rfl) (by rfl) (by rfl) (by rfl) ?_; intro p4 cap4 w4 ho4 hb4; have b4 : Below wr.heap.size wr w4 := b3.trans hb4; have hs4 := b4.size)
        | (at_builtin; refine list_push hi hz0 hz1 hz2 (.tmp 39) (.tmp 42) 22 Tryd.underlying22 _ ho4 (by omega) hs4 (by rfl) (by rfl) (by rfl) (by rfl) ?_; intro g5 cap5 w5 ho5 hb5; have b5 : Below wr.heap.size wr w5 := b4.trans hb5))
      refine (CM _ (nl + m + 1) _ (tL kk xs k ++ xs ++ [(j : Int)]) w5 (by omega) hTl (in_below hin3 b5) (owns_in ho5) hTB).mono ?_
      rintro e w6 ⟨p6, c6, rfl, r6, b6⟩
      rw [hTX] at r6
      have B6 := below_on b5 b6
      have hown6 := owns_below hown B6
      have hr6 := r6.1
      obtain ⟨gl, rfl⟩ := owns_at hr6 (by decide)
      have hgl := hr6.lt gl rfl
      have hs5 := b5.size
      have hneL : Hid ((Value.slice (some ⟨gl, 0, none⟩) 32 c6).ownBlock ≠ (Value.slice pv mm cv).ownBlock) := fun e => by
        have h1 := hgcv.out gl e.symm
        omega
      have hin6 := r6.bytes
      have l6 := HT.out k
      have HX : Hid (allL kk xs k ++ tL kk xs (k + 1) = allL kk xs (k + 1)) := HAe.out k
      have bel6 : Below w.heap.size w w6 := below_on hbl B6
      have hs6 := bel6.size
      have hj3 : Hid (j + 1 = k + 1 + 1) := by have := hj.out; rw [Hid]; omega
      have hm3 : Hid (mm + 32 = 32 * (k + 1)) := by have := hmm.out; rw [Hid]; omega
      clear hTX hTB hTl hin1 hin2 hin3 ht0 bt0 ho5 hb5 b5 b6 B6 r6 hown hinl hnl hgcv hw8 ho3 ho4 hb3 hb4 hi3 b3 b4
      go_wp2_with (at_builtin; refine list_spread hi hz0 hz1 hz2 (.tmp 45) (.tmp 46) 22 Tryd.underlying22 hown6 hin6 l6 (by omega) (by omega) (by omega) hs6 (by rfl) (by rfl) (by rfl) (by rfl) ?_; intro g7 cap7 w7 ho7 hg7 hb7; rw [HX.out] at ho7)
      have hl7 := owns_in (hr6.kept hg7 (.inr hneL.out))
      go_roundw
      case rel => exact ⟨k + 1, j + 1, mm + 32, 32, c6, some ⟨gl, 0, none⟩, hj3, hm3, by omega, by go_num, by omega, ho7, rfl, HT.out k, hl7, bel6.trans hb7⟩
      case measure => simp only [sliceLen]; omega
    · have hnl2 : ¬ (mm : Int) < (M : Int) := by omega
      have HEk : Hid (expL ks xs (M : Int) = (allL kk xs k).take M) := HE.out k (by have := hmm.out; omega)
      have i1 : (M : Int) ≤ (cv : Int) := by omega
      have inx : BytesIn wr pv M ((allL kk xs k).take M) := fun _ => by
        obtain ⟨b', o', e1, e2⟩ := owns_in hown (by omega)
        refine ⟨b', o', e1, fun i hi => ?_⟩
        rw [e2 i (by omega), List.getD_eq_getElem?_getD, List.getD_eq_getElem?_getD, List.getElem?_take_of_lt hi]
      have lx : ((allL kk xs k).take M).length = M := by rw [List.length_take, HAl.out k]; have := hmm.out; omega
      have ht0 : (wr.alloc (.cells #[] 5)).ownsRow wr.heap.size 5 1 (.slice (some ⟨wr.heap.size, 0, none⟩) 0 0) 0 (([] : List Int).map (Value.int .u8)) := World.ownsRow_made wr #[] 0 (Nat.le_refl _) (by unfold maxLen; omega) rfl
      have bt0 : Below wr.heap.size wr (wr.alloc (.cells #[] 5)) := (Below.refl _ _).alloc (Nat.le_refl _) _
      have inx' := in_below inx bt0
      clear inx hnl hinl hmm HT HTt HTb HTe HAe HAl CM
      go_wp2_with (at_builtin; refine list_spreadA hi hz0 hz1 hz2 (.tmp 48) (.tmp 51) 22 Tryd.underlying22 ht0 inx' lx (by omega) (by omega) (by simp) (by rfl) (by rfl) (by rfl) (by rfl) ?_; intro p3 cap3 w3 ho3 hb3; simp only [Nat.zero_add, List.nil_append] at ho3 ⊢)
      go_ret
      rw [← HEk.out] at ho3
      exact ⟨_, _, rfl, .of (owns_mono ho3 hszr), below_on hbl (bt0.trans hb3)⟩

theorem specExpand_no (p q : Option Addr) (n m c d : Nat) (many : Int) (w : World) (h : ¬ expOk n m many) :
    Calls Tryd.prog 49 #[.slice p n c, .slice q m d, .int .i64 many] w fun e w' => ∃ p' c', e = .returned (.slice p' 0 c') ∧ Own 5 w' w.heap.size w'.heap.size (.slice p' 0 c') 0 [] ∧ Below w.heap.size w w' := by
  unfold expOk at h
  have CI := fun X => l1In_same many 1 8160 X
  by_cases d1 : 1 ≤ many ∧ many ≤ 8160
  · rw [decide_eq_true d1.1, decide_eq_true d1.2] at CI
    by_cases d3 : m ≤ 400
    · have d4 : ¬ (400 : Int) < (m : Int) := by omega
      have d5 : (400 : Int) < (n : Int) := by omega
      go_enter Tryd.func49, Tryd.ntmps49
      go_wp2_with (fail)
      refine (CI _).mono ?_
      rintro e w1 ⟨rfl, rfl⟩
      go_wp2
      go_ret
      exact ⟨_, _, rfl, .of (World.ownsRow_made w #[] 0 (Nat.le_refl _) (by unfold maxLen; omega) rfl), (Below.refl _ _).alloc (Nat.le_refl _) _⟩
    · have d4 : (400 : Int) < (m : Int) := by omega
      go_enter Tryd.func49, Tryd.ntmps49
      go_wp2_with (fail)
      refine (CI _).mono ?_
      rintro e w1 ⟨rfl, rfl⟩
      go_wp2
      go_ret
      exact ⟨_, _, rfl, .of (World.ownsRow_made w #[] 0 (Nat.le_refl _) (by unfold maxLen; omega) rfl), (Below.refl _ _).alloc (Nat.le_refl _) _⟩
  · have d2 : (decide (1 ≤ many) && decide (many ≤ 8160)) = false := by
      rcases Decidable.not_and_iff_not_or_not.1 d1 with e | e <;> simp [e]
    rw [d2] at CI
    go_enter Tryd.func49, Tryd.ntmps49
    go_wp2_with (fail)
    refine (CI _).mono ?_
    rintro e w1 ⟨rfl, rfl⟩
    go_wp2
    go_ret
    exact ⟨_, _, rfl, .of (World.ownsRow_made w #[] 0 (Nat.le_refl _) (by unfold maxLen; omega) rfl), (Below.refl _ _).alloc (Nat.le_refl _) _⟩
theorem specExpand_any (p q : Option Addr) (n m c d : Nat) (many : Int) (ks xs : List Int) (w : World) (hx : ks.length = n) (hy : xs.length = m) (h : BytesIn w p n ks) (h' : BytesIn w q m xs) (hb : ∀ x ∈ ks, 0 ≤ x ∧ x < 256) (hb' : ∀ x ∈ xs, 0 ≤ x ∧ x < 256) :
    Calls Tryd.prog 49 #[.slice p n c, .slice q m d, .int .i64 many] w fun e w' => ∃ p' c', e = .returned (.slice p' (expN n m many) c') ∧ Own 5 w' w.heap.size w'.heap.size (.slice p' (expN n m many) c') (expN n m many) (expL ks xs many) ∧ Below w.heap.size w w' := by
  by_cases hok : expOk n m many
  · obtain ⟨h1, h2, h3, h4⟩ := hok
    obtain ⟨M, rfl⟩ : ∃ M : Nat, many = M := ⟨many.toNat, by omega⟩
    rw [expN_is (by omega) (by omega) h3 h4]
    exact specExpand_yes p q n m c d M ks xs w (by omega) (by omega) h4 h3 hx hy h h' hb hb'
  · rw [show expN n m many = 0 from if_neg hok, show expL ks xs many = [] by unfold expL; rw [hx, hy, if_neg hok]]
    exact specExpand_no p q n m c d many w hok

end Go.Proofs.YtdjdanpicbaieaaDoor

namespace Go.Proofs.YtdjdanpicbaieaaDoor
open Go.RowKit
set_option maxRecDepth 100000

def derN (n m l : Nat) (many : Int) : Nat := expN (extN n m) l many
def derL (xs ys zs : List Int) (many : Int) : List Int := expL (extL xs ys) zs many
theorem derN_le (n m l : Nat) (many : Int) : derN n m l many ≤ 8160 := expN_le _ _ _
theorem derL_length (xs ys zs : List Int) (many : Int) : (derL xs ys zs many).length = derN xs.length ys.length zs.length many := by rw [derL, expL_length, extL_length]; rfl

set_option maxHeartbeats 1000000 in
theorem implDerive_any (p q r : Option Addr) (n m l c d f : Nat) (many : Int) (xs ys zs : List Int) (w : World) (hx : xs.length = n) (hy : ys.length = m) (hz : zs.length = l) (h : BytesIn w p n xs) (h' : BytesIn w q m ys) (h'' : BytesIn w r l zs) (hb : ∀ x ∈ xs, 0 ≤ x ∧ x < 256) (hb' : ∀ x ∈ ys, 0 ≤ x ∧ x < 256) (hb'' : ∀ x ∈ zs, 0 ≤ x ∧ x < 256) (hK : KeysIs w) :
    Calls Tryd.prog 46 #[.slice p n c, .slice q m d, .slice r l f, .int .i64 many] w fun e w' => ∃ p' c', e = .returned (.slice p' (derN n m l many) c') ∧ Own 5 w' w.heap.size w'.heap.size (.slice p' (derN n m l many) c') (derN n m l many) (derL xs ys zs many) ∧ Below w.heap.size w w' := by
  unfold derN derL
  have C1 := implExtract_any p q n m c d xs ys w hx hy h h' hb hb' hK
  have hl : (extL xs ys).length = extN n m := by rw [extL_length, hx, hy]
  have hlb := extL_byte xs ys
  generalize extN n m = N at C1 hl ⊢
  generalize extL xs ys = E at C1 hl hlb ⊢
  go_enter Tryd.func46, Tryd.ntmps46
  go_wp2_with (fail)
  refine C1.mono ?_
  rintro e w1 ⟨p1, c1, rfl, r1, b1⟩
  clear C1
  go_wp2_with (fail)
  refine (implExpand_any p1 r N l _ _ many E zs _ hl hz r1.bytes (in_below h'' b1) hlb hb'' (keys_below hK b1)).mono ?_
  rintro e w2 ⟨p2, c2, rfl, r2, b2⟩
  go_wp2
  go_ret
  exact ⟨_, _, rfl, ⟨owns_mono r2.1 b1.size, r2.2⟩, below_on b1 b2⟩

set_option maxHeartbeats 1000000 in
theorem specDerive_any (p q r : Option Addr) (n m l c d f : Nat) (many : Int) (xs ys zs : List Int) (w : World) (hx : xs.length = n) (hy : ys.length = m) (hz : zs.length = l) (h : BytesIn w p n xs) (h' : BytesIn w q m ys) (h'' : BytesIn w r l zs) (hb : ∀ x ∈ xs, 0 ≤ x ∧ x < 256) (hb' : ∀ x ∈ ys, 0 ≤ x ∧ x < 256) (hb'' : ∀ x ∈ zs, 0 ≤ x ∧ x < 256) :
    Calls Tryd.prog 30 #[.slice p n c, .slice q m d, .slice r l f, .int .i64 many] w fun e w' => ∃ p' c', e = .returned (.slice p' (derN n m l many) c') ∧ Own 5 w' w.heap.size w'.heap.size (.slice p' (derN n m l many) c') (derN n m l many) (derL xs ys zs many) ∧ Below w.heap.size w w' := by
  unfold derN derL
  have C1 := specExtract_any p q n m c d xs ys w hx hy h h' hb hb'
  have hl : (extL xs ys).length = extN n m := by rw [extL_length, hx, hy]
  have hlb := extL_byte xs ys
  generalize extN n m = N at C1 hl ⊢
  generalize extL xs ys = E at C1 hl hlb ⊢
  go_enter Tryd.func30, Tryd.ntmps30
  go_wp2_with (fail)
  refine C1.mono ?_
  rintro e w1 ⟨p1, c1, rfl, r1, b1⟩
  clear C1
  go_wp2_with (fail)
  refine (specExpand_any p1 r N l _ _ many E zs _ hl hz r1.bytes (in_below h'' b1) hlb hb'').mono ?_
  rintro e w2 ⟨p2, c2, rfl, r2, b2⟩
  go_wp2
  go_ret
  exact ⟨_, _, rfl, ⟨owns_mono r2.1 b1.size, r2.2⟩, below_on b1 b2⟩

end Go.Proofs.YtdjdanpicbaieaaDoor

namespace Go.Proofs.YtdjdanpicbaieaaDoor
open Go.RowKit
set_option maxRecDepth 100000

theorem heap_made (w : World) (o : Obj) : (w.alloc o).heap[w.heap.size]? = some o := by
  show (w.heap.push o)[w.heap.size]? = some o
  simp
theorem made_below (w : World) (o : Obj) {w' : World} (b : Below (w.alloc o).heap.size (w.alloc o) w') : Below w.heap.size w w' :=
  ((Below.refl _ _).alloc (Nat.le_refl _) o).trans (b.mono (by simp))

theorem makeM (Z : Nat) (hZ : Z ≤ 16777216) (W : World) : (Instr.makeSlice 22 (.int .i64 (Z : Int)) (.int .i64 (Z : Int))).run Tryd.prog W = .ok (.slice (some ⟨W.heap.size, 0, none⟩) Z Z) (W.alloc (.cells (madeCells #[.int .u8 0] Z) 5)) := by
  obtain ⟨i0, hi, hz0, hz1, hz2⟩ := info_parts infoByte
  have := run_makeSlice (P := Tryd.prog) W 22 5 i0 (.int .u8 0) Tryd.underlying22 hi hz0 .i64 .i64 Z Z (by omega) (by omega) (by rw [hz1]; simp; omega) (by rw [hz2]; omega) (by omega)
  simpa [hz1, Value.cells] using this
/-- A row that is made, as a list. -/
def noughtV (Z : Nat) : List Value := List.replicate Z (.int .u8 0)
theorem noughtV_length (Z : Nat) : (noughtV Z).length = Z := by simp [noughtV]
theorem madeM (Z : Nat) : madeCells #[Value.int .u8 0] Z = (noughtV Z).toArray := by
  have e : (madeCells #[Value.int .u8 0] Z).toList = noughtV Z := toList_madeCells_one _ _
  rw [← e]
/-- A row that is known whole is owned. -/
theorem row_own {w : World} {lo g n : Nat} {xs : List Int} (hg : w.heap[g]? = some (.cells (xs.map (Value.int .u8)).toArray 5 (0, 0))) (hlo : lo ≤ g) (hx : xs.length = n) (hn : n ≤ 1099511627) : Own 5 w lo w.heap.size (.slice (some ⟨g, 0, none⟩) n n) n xs :=
  .of ⟨by simp [hx], .inr ⟨g, n, _, rfl, hlo, hg, Nat.le_refl _, by unfold maxLen; omega, by simp [hx], by simp [hx, List.take_of_length_le]⟩⟩
/-- The cells of bytes, where there are some. -/
theorem in_cells {w : World} {p : Option Addr} {n : Nat} {xs : List Int} (h : BytesIn w p n xs) (hx : xs.length = n) (h0 : 0 < (xs.map (Value.int .u8)).length) : ∃ ad, p = some ad ∧ ∀ j v, (xs.map (Value.int .u8))[j]? = some v → w.cell? (ad.add j) = some v := by
  obtain ⟨b, o, rfl, hc⟩ := h (by simpa [hx] using h0)
  refine ⟨⟨b, o, none⟩, rfl, fun j v hv => ?_⟩
  rw [List.getElem?_map] at hv
  obtain ⟨u, hu, rfl⟩ := Option.map_eq_some_iff.1 hv
  have hj := (List.getElem?_eq_some_iff.1 hu).1
  rw [Addr.add_lit, hc j (by omega), List.getD_eq_getElem?_getD, hu]
  rfl
theorem u8_one (xs : List Int) : ∀ v ∈ xs.map (Value.int .u8), v.oneCell' = true := fun v hv => by
  obtain ⟨u, _, rfl⟩ := List.mem_map.1 hv
  rfl

set_option maxHeartbeats 2000000 in
theorem copied_any (p : Option Addr) (n c : Nat) (xs : List Int) (w : World) (hn : n ≤ 1048576) (hx : xs.length = n) (h : BytesIn w p n xs) :
    Calls Tryd.prog 44 #[.slice p n c] w fun e w' => ∃ p' c', e = .returned (.slice p' n c') ∧ Own 5 w' w.heap.size w'.heap.size (.slice p' n c') n xs ∧ Below w.heap.size w w' := by
  obtain ⟨i0, hi, hz0, hz1, hz2⟩ := info_parts infoByte
  have hs5 : (Tryd.prog.info? 5).map (·.size) = some 1 := by rw [hi]; simp [hz1]
  have hmk := fun W => makeM n (by omega) W
  rw [madeM] at hmk
  have ba : ∀ o, Below w.heap.size w (w.alloc o) := fun o => made_below _ _ (Below.refl _ _)
  have hrow : (w.alloc (.cells (noughtV n).toArray 5)).heap[w.heap.size]? = some (.cells (noughtV n).toArray 5 (0, 0)) := heap_made _ _
  obtain ⟨Z, hZ⟩ : ∃ Z, Z = noughtV n := ⟨_, rfl⟩
  have hZl : Z.length = n := by rw [hZ, noughtV_length]
  rw [← hZ] at hmk hrow
  obtain ⟨V, hV⟩ : ∃ V, V = xs.map (Value.int .u8) := ⟨_, rfl⟩
  have hVl : V.length = n := by rw [hV]; simpa using hx
  have hpos : ∀ X, Below w.heap.size w X → 0 < V.length → ∃ ad, p = some ad ∧ ∀ j v, V[j]? = some v → X.cell? (ad.add j) = some v := fun X hX h0 => by rw [hV] at h0 ⊢; exact in_cells (in_below h hX) hx h0
  have hone : ∀ v ∈ V, v.oneCell' = true := by rw [hV]; exact u8_one xs
  have hfin : Hid (splice Z 0 V = V) := by
    show splice Z 0 V = V
    rw [splice, List.take_zero, List.nil_append, Nat.zero_add, List.drop_of_length_le (by omega), List.append_nil]
  replace hV : Hid (V = xs.map (Value.int .u8)) := hV
  clear hZ hi hz0 hz1 hz2 h
  go_enter Tryd.func44, Tryd.ntmps44
  go_wp2_with (refine wpList_copy_splice (by rfl) (.tmp 7) (.tmp 8) 22 22 (by rfl) 5 Tryd.underlying22 hs5 (some ⟨w.heap.size, 0, none⟩) p n n n c (by rfl) (by rfl) w.heap.size 0 Z 5 hrow V (by rw [hVl]; exact (Nat.min_self n).symm) (fun h0 => ⟨rfl, hpos _ (ba _) h0⟩) (by omega) hone w.heap.size w (ba _) (Nat.le_refl _) ?_; intro w2 hg2 hb2)
  go_ret
  have hg3 := hg2.out
  rw [hfin.out, hV.out] at hg3
  exact ⟨_, _, rfl, row_own hg3 (Nat.le_refl _) hx (by omega), hb2⟩

end Go.Proofs.YtdjdanpicbaieaaDoor

namespace Go.Proofs.YtdjdanpicbaieaaDoor
open Go.RowKit
set_option maxRecDepth 100000

set_option maxHeartbeats 2000000 in
theorem growNil_zero (w : World) :
    Calls Tryd.prog 67 #[.slice none 0 0, .int .i64 0] w fun e w' => e = .returned (.slice none 0 0) ∧ w = w' := by
  go_enter Tryd.func67, Tryd.ntmps67
  go_wp2_with (fail)
  go_ret
  exact ⟨rfl, rfl⟩

set_option maxHeartbeats 4000000 in
theorem concat_zero (gr m : Nat) (Pf : Nat → Option Addr) (nf cf : Nat → Nat) (xf : Nat → List Int) (w : World) (hm : m ≤ 1000) (hcell : ∀ k, k < m → w.cell? ⟨gr, k, none⟩ = some (.slice (Pf k) (nf k) (cf k)))
    (hlen : ∀ k, k < m → (xf k).length = nf k) (hin : ∀ k, k < m → BytesIn w (Pf k) (nf k) (xf k)) (h0 : sumN nf m = 0) :
    Calls Tryd.prog 47 #[.slice (some ⟨gr, 0, none⟩) m m] w fun e w' => ∃ p c, e = .returned (.slice p (sumN nf m) c) ∧ Own 5 w' w.heap.size w'.heap.size (.slice p (sumN nf m) c) (sumN nf m) (catL xf m) ∧ Below w.heap.size w w' := by
  obtain ⟨i0, hi, hz0, hz1, hz2⟩ := info_parts infoByte
  have hs : sumN nf m ≤ 1073741824 := by omega
  replace h0 : Hid (sumN nf m = 0) := h0
  have HC : Hid (∀ k, k < m → w.cell? ⟨gr, k, none⟩ = some (.slice (Pf k) (nf k) (cf k))) := hcell
  have HL : Hid (∀ k, k < m → (xf k).length = nf k) := hlen
  have HI : Hid (∀ k, k < m → BytesIn w (Pf k) (nf k) (xf k)) := hin
  clear hcell hlen hin
  go_enter Tryd.func47, Tryd.ntmps47
  go_wp2
  go_loop [3, 11] (fun v i => ∃ k s : Nat, k ≤ m ∧ i = .int .i64 k ∧ v = .int .i64 s ∧ Hid (s = sumN nf k)) (fun _ i => m - (intOf i).toNat)
  case atStart => exact ⟨0, 0, by omega, rfl, rfl, rfl⟩
  case round =>
    obtain ⟨k, s, hk, rfl, rfl, hsk⟩ := hrel
    by_cases hlt : k < m
    · have hc := HC.out k hlt
      have hle : s + nf k ≤ 1073741824 := by rw [hsk.out]; exact Nat.le_trans (sumN_le nf (k := k + 1) hlt) hs
      have HN : Hid (s + nf k = sumN nf (k + 1)) := by rw [hsk.out]; rfl
      generalize nf k = n1 at hc hle HN
      generalize Pf k = p1 at hc
      generalize cf k = c1 at hc
      have hneg : ¬ ((s : Int) + (n1 : Int) < 0) := by omega
      go_wp2
      go_round
      case rel => exact ⟨k + 1, s + n1, by omega, by go_num, by go_num, HN⟩
      case measure => simp [intOf]; omega
    · obtain rfl : k = m := by omega
      obtain rfl : s = sumN nf k := hsk.out
      clear hsk
      have HNn : Hid (sumN nf k = 0) := h0
      simp only [h0.out]
      go_wp2_with (fail)
      refine (growNil_zero _).mono ?_
      rintro e w1 ⟨rfl, rfl⟩
      have ho1 : w.ownsRow w.heap.size 5 1 (.slice none 0 0) 0 (([] : List Int).map (Value.int .u8)) := ⟨rfl, .inl ⟨rfl, rfl⟩⟩
      have b1 := Below.refl w.heap.size w
      go_wp2_with (fail)
      go_loopw [6, 27] (fun v i wr => ∃ j s : Nat, j ≤ k ∧ i = .int .i64 j ∧ Hid (s = sumN nf j) ∧ wr.ownsRow w.heap.size 5 1 v s ((catL xf j).map (Value.int .u8)) ∧ Below w.heap.size w wr)
        (fun _ i _ => k - (intOf i).toNat)
      case atStart => exact ⟨0, 0, by omega, rfl, rfl, ho1, b1⟩
      case round =>
        clear ho1 b1
        obtain ⟨j, s, hj, rfl, hsj, hown, hbel⟩ := hrel
        have hsz := hbel.size
        by_cases hlt2 : j < k
        · have hc := HC.out j hlt2
          have hgr : gr < w.heap.size := World.block_lt_of_cell? w ⟨gr, j, none⟩ hc
          have hc2 := (hbel.cell (p := ⟨gr, j, none⟩) hgr).trans hc
          have hle : s + nf j ≤ 0 := by rw [hsj.out, ← HNn.out]; exact sumN_le nf (k := j + 1) hlt2
          have HN : Hid (s + nf j = sumN nf (j + 1)) := by rw [hsj.out]; rfl
          have hl := HL.out j hlt2
          have hI := HI.out j hlt2
          replace hI : BytesIn wr (Pf j) (nf j) (xf j) := by
            intro hpos
            obtain ⟨bb, oo, e1, e2⟩ := hI hpos
            exact ⟨bb, oo, e1, fun i hi => (hbel.cell (p := ⟨bb, oo + i, none⟩) (World.block_lt_of_cell? w ⟨bb, oo + i, none⟩ (e2 i hi))).trans (e2 i hi)⟩
          have HX : Hid (catL xf j ++ xf j = catL xf (j + 1)) := rfl
          generalize nf j = n1 at hc hc2 hle HN hl hI
          generalize Pf j = p1 at hc hc2 hI
          generalize cf j = c1 at hc hc2
          generalize xf j = y1 at hl hI HX
          obtain ⟨q, cq, hv⟩ := owns_form hown
          subst hv
          clear hc
          go_wp2_with (at_builtin; refine list_spreadA hi hz0 hz1 hz2 (.tmp 31) (.tmp 32) 22 Tryd.underlying22 hown hI hl (by omega) (by omega) hsz (by rfl) (by rfl) (by rfl) (by rfl) ?_; intro p' cap w3 ho3 hb3; rw [HX.out] at ho3)
          go_roundw
          case rel => exact ⟨j + 1, s + n1, by omega, by go_num, HN, ho3, hbel.trans hb3⟩
          case measure => simp [intOf]; omega
        · obtain rfl : j = k := by omega
          obtain rfl : s = 0 := hsj.out.trans HNn.out
          obtain ⟨q, cq, hv⟩ := owns_form hown
          subst hv
          go_wp2
          go_ret
          rw [HNn.out]
          exact ⟨_, _, rfl, .of hown, hbel⟩


theorem concatTwo (p0 p1 : Option Addr) (n0 n1 c0 c1 : Nat) (xs0 xs1 : List Int) (w : World) (hx0 : xs0.length = n0) (hx1 : xs1.length = n1) (hs1 : n0 + n1 ≤ 1073741824) (i0 : BytesIn w p0 n0 xs0) (i1 : BytesIn w p1 n1 xs1) :
    Calls Tryd.prog 47 #[.slice (some ⟨w.heap.size, 0, none⟩) 2 2] (w.alloc (.cells #[.slice p0 n0 c0, .slice p1 n1 c1] 22)) fun e w' =>
      ∃ p' c', e = .returned (.slice p' (n0 + n1) c') ∧ Own 5 w' w.heap.size w'.heap.size (.slice p' (n0 + n1) c') (n0 + n1) (xs0 ++ xs1) ∧ Below w.heap.size w w' := by
  have ba : Below w.heap.size w (w.alloc (.cells #[.slice p0 n0 c0, .slice p1 n1 c1] 22)) := made_below _ _ (Below.refl _ _)
  have hs : sumN (fun k => match k with | 0 => n0 | _ => n1) 2 = n0 + n1 := by simp [sumN]
  have hc : catL (fun k => match k with | 0 => xs0 | _ => xs1) 2 = xs0 ++ xs1 := by simp [catL]
  have k1 : ∀ k, k < 2 → (w.alloc (.cells #[.slice p0 n0 c0, .slice p1 n1 c1] 22)).cell? ⟨w.heap.size, k, none⟩ = some (.slice ((fun k => match k with | 0 => p0 | _ => p1 : Nat → Option Addr) k) ((fun k => match k with | 0 => n0 | _ => n1 : Nat → Nat) k) ((fun k => match k with | 0 => c0 | _ => c1 : Nat → Nat) k)) := fun k hk => by
    rw [cell_of_row _ _ k _ _ _ (heap_made w _)]
    match k, hk with
    | 0, _ => rfl
    | 1, _ => rfl
  have k2 : ∀ k, k < 2 → ((fun k => match k with | 0 => xs0 | _ => xs1 : Nat → List Int) k).length = (fun k => match k with | 0 => n0 | _ => n1 : Nat → Nat) k := fun k hk => by
    match k, hk with
    | 0, _ => exact hx0
    | 1, _ => exact hx1
  have k3 : ∀ k, k < 2 → BytesIn (w.alloc (.cells #[.slice p0 n0 c0, .slice p1 n1 c1] 22)) ((fun k => match k with | 0 => p0 | _ => p1 : Nat → Option Addr) k) ((fun k => match k with | 0 => n0 | _ => n1 : Nat → Nat) k) ((fun k => match k with | 0 => xs0 | _ => xs1 : Nat → List Int) k) := fun k hk => by
    match k, hk with
    | 0, _ => exact in_below i0 ba
    | 1, _ => exact in_below i1 ba
  have h : Calls Tryd.prog 47 #[.slice (some ⟨w.heap.size, 0, none⟩) 2 2] (w.alloc (.cells #[.slice p0 n0 c0, .slice p1 n1 c1] 22)) fun e w' =>
      ∃ p' c', e = .returned (.slice p' (n0 + n1) c') ∧ Own 5 w' (w.alloc (.cells #[.slice p0 n0 c0, .slice p1 n1 c1] 22)).heap.size w'.heap.size (.slice p' (n0 + n1) c') (n0 + n1) (xs0 ++ xs1) ∧ Below (w.alloc (.cells #[.slice p0 n0 c0, .slice p1 n1 c1] 22)).heap.size (w.alloc (.cells #[.slice p0 n0 c0, .slice p1 n1 c1] 22)) w' := by
    rw [← hs, ← hc]
    rcases Nat.eq_zero_or_pos (n0 + n1) with h0 | h0
    · exact concat_zero _ 2 _ _ _ _ _ (by decide) k1 k2 k3 (hs.trans h0)
    · exact concat_any _ 2 _ _ _ _ _ (by decide) k1 k2 k3 (by rw [hs]; exact h0) (by rw [hs]; exact hs1)
  refine h.mono ?_
  rintro e w' ⟨p', c', rfl, r, b⟩
  exact ⟨p', c', rfl, ⟨owns_mono r.1 (by simp), r.2⟩, below_on ba b⟩

end Go.Proofs.YtdjdanpicbaieaaDoor

namespace Go.Proofs.YtdjdanpicbaieaaDoor
open Go.RowKit

/-- The cells of a block of one's own. -/
def Cells (w : World) (g : Nat) (A : Array Value) : Prop := g < w.heap.size ∧ ∀ i, w.cell? ⟨g, i, none⟩ = A[i]? ∧ w.frozen? ⟨g, i, none⟩ = false
theorem Cells.made (w : World) (A : Array Value) (T : TypeId) : Cells (w.alloc (.cells A T)) w.heap.size A := by
  have e := heap_made w (.cells A T)
  refine ⟨by simp, fun i => ⟨by simp only [World.cell?, e]; rfl, ?_⟩⟩
  simp only [World.frozen?, e]
  simp
theorem Cells.on {w w' : World} {g : Nat} {A : Array Value} (h : Cells w g A) (b : Below w.heap.size w w') : Cells w' g A :=
  ⟨Nat.lt_of_lt_of_le h.1 b.size, fun i => ⟨(b.cell h.1).trans (h.2 i).1, (b.frozen h.1).trans (h.2 i).2⟩⟩
theorem Cells.other {w : World} {g : Nat} {A : Array Value} (h : Cells w g A) {a : Addr} (v : Value) (ha : g ≠ a.block) : Cells (w.setCell a v) g A := by
  have e := Below.heap_setCell w a v g ha
  refine ⟨by simpa using h.1, fun i => ⟨?_, ?_⟩⟩
  · rw [← (h.2 i).1]; exact World.cell?_of_block (w := w) e
  · rw [← (h.2 i).2]; exact World.frozen?_of_block (w := w) e
theorem Cells.set {w : World} {g : Nat} {A : Array Value} (h : Cells w g A) (k : Nat) (hk : k < A.size) (v : Value) : Cells (w.setCell ⟨g, k, none⟩ v) g (A.setIfInBounds k v) := by
  refine ⟨by simpa using h.1, fun i => ⟨?_, ?_⟩⟩
  · by_cases e : k = i
    · subst e
      rw [World.cell?_setCell_same w _ _ (by rw [(h.2 k).1]; exact Array.getElem?_eq_getElem hk)]
      simp [hk]
    · rw [World.cell?_setCell_other _ _ _ _ (by intro x; simp only [Addr.mk.injEq] at x; omega), (h.2 i).1, Array.getElem?_setIfInBounds_ne e]
  · rw [World.frozen?_setCell]; exact (h.2 i).2
theorem Cells.grown {w w' : World} {g : Nat} {A : Array Value} {r : Option Nat} (h : Cells w g A) (hg : w.grownBy w' r) (hr : some g ≠ r) : Cells w' g A := by
  have e := hg.block g h.1 hr
  exact ⟨Nat.lt_of_lt_of_le h.1 hg.size, fun i => ⟨(World.cell?_of_block (w := w) e).trans (h.2 i).1, (World.frozen?_of_block (w := w) e).trans (h.2 i).2⟩⟩

end Go.Proofs.YtdjdanpicbaieaaDoor

namespace Go.Proofs.YtdjdanpicbaieaaDoor
open Go.RowKit
set_option maxRecDepth 100000

/-- 'epoch', 'route' -/
def epochL : List Int := [101, 112, 111, 99, 104]
def routeL : List Int := [114, 111, 117, 116, 101]
theorem epochL_byte : ∀ x ∈ epochL, 0 ≤ x ∧ x < 256 := by decide
theorem routeL_byte : ∀ x ∈ routeL, 0 ≤ x ∧ x < 256 := by decide
/-- An epoch behind a word. -/
def tellL (info : List Int) (e : Int) : List Int := info ++ (fitL e 2).reverse
/-- Is there a key of so many bytes' seed and that epoch? -/
def hasB (n : Nat) (e : Int) : Bool := decide (n = 32 ∧ 0 ≤ e ∧ e ≤ 40)
theorem hasB_yes {n : Nat} {e : Int} (h : n = 32 ∧ 0 ≤ e ∧ e ≤ 40) : hasB n e = true := decide_eq_true h
theorem hasB_no {n : Nat} {e : Int} (h : ¬ (n = 32 ∧ 0 ≤ e ∧ e ≤ 40)) : hasB n e = false := decide_eq_false h
theorem fitE_two {e : Int} (h : 0 ≤ e ∧ e ≤ 40) : fitN e 2 = 2 := by simp [fitN, fitB, h.1]
theorem fitE_len {e : Int} (h : 0 ≤ e ∧ e ≤ 40) : (fitL e 2).length = 2 := by rw [fitL, littleL_length, fitE_two h]
theorem fitE_byte (e : Int) : ∀ x ∈ fitL e 2, 0 ≤ x ∧ x < 256 := fun x hx => by
  obtain ⟨i, _, rfl⟩ := List.mem_map.1 hx
  exact ⟨Int.emod_nonneg _ (by decide), Int.emod_lt_of_pos _ (by decide)⟩
theorem tellL_length {info : List Int} (hi : info.length = 5) {e : Int} (h : 0 ≤ e ∧ e ≤ 40) : (tellL info e).length = 7 := by rw [tellL, List.length_append, List.length_reverse, fitE_len h, hi]
theorem tellL_byte {info : List Int} (hi : ∀ x ∈ info, 0 ≤ x ∧ x < 256) (e : Int) : ∀ x ∈ tellL info e, 0 ≤ x ∧ x < 256 := fun x hx => by
  rcases List.mem_append.1 hx with h | h
  · exact hi x h
  · exact fitE_byte e x (List.mem_reverse.1 h)

theorem hasKeys_any (p : Option Addr) (n c : Nat) (e : Int) (w : World) :
    Calls Tryd.prog 32 #[.slice p n c, .int .i64 e] w fun r w' => r = .returned (.bool (hasB n e)) ∧ w' = w := by
  by_cases hn : n = 32
  · subst hn
    go_enter Tryd.func32, Tryd.ntmps32
    go_wp2
    all_goals
      go_ret
      refine ⟨?_, rfl⟩
      congr 2
      unfold hasB
      simp
      try omega
  · have hd : ((n : Int) == 32) = false := by simp; omega
    rw [hasB_no (fun h => hn h.1)]
    go_enter Tryd.func32, Tryd.ntmps32
    go_wp2
    go_ret
    exact ⟨rfl, rfl⟩

theorem l1In_any (n a b : Int) (w : World) :
    Calls Tryd.prog 29 #[.int .i64 n, .int .i64 a, .int .i64 b] w fun r w' => r = .returned (.bool (decide (a ≤ n ∧ n ≤ b))) ∧ w' = w := by
  go_enter Tryd.func29, Tryd.ntmps29
  go_wp2
  all_goals
    go_ret
    refine ⟨?_, rfl⟩
    congr 2
    simp
    try omega

/-- The bytes of a string. -/
def numsOf (s : ByteArray) : List Int := s.data.toList.map fun b => (b.toNat : Int)
theorem numsOf_length (s : ByteArray) : (numsOf s).length = s.size := by rw [numsOf, List.length_map, Array.length_toList]; rfl
theorem bytesWorld_below (w : World) (s : ByteArray) : Below w.heap.size w (Lib.bytesWorld w 5 s) :=
  ⟨rfl, rfl, rfl, by rw [Lib.bytesWorld_size]; omega, fun k hk => Lib.bytesWorld_at_old w 5 s k hk⟩
theorem bytesWorld_in (w : World) (s : ByteArray) : BytesIn (Lib.bytesWorld w 5 s) (some ⟨w.heap.size, 0, none⟩) s.size (numsOf s) := fun _ => by
  refine ⟨w.heap.size, 0, rfl, fun i hi => ?_⟩
  rw [Nat.zero_add, Lib.bytesWorld_cell w 5 s i hi]
  have hl : i < s.data.toList.length := by simpa using hi
  simp [numsOf, List.getD_eq_getElem?_getD, List.getElem?_eq_getElem hl]

set_option maxHeartbeats 2000000 in
theorem ofEpoch_any (s : ByteArray) (e : Int) (w : World) (hs : s.size = 5) (he : 0 ≤ e ∧ e ≤ 40) :
    Calls Tryd.prog 38 #[.string s, .int .i64 e] w fun r w' => ∃ p c, r = .returned (.slice p 7 c) ∧ Own 5 w' w.heap.size w'.heap.size (.slice p 7 c) 7 (tellL (numsOf s) e) ∧ Below w.heap.size w w' := by
  have kc := Lib.run_convert_string_bytes (P := Tryd.prog) w 9 22 5 s Tryd.underlying9 Tryd.underlying22 Tryd.underlying5
  have b0 := bytesWorld_below w s
  have i0 := bytesWorld_in w s
  generalize Lib.bytesWorld w 5 s = w0 at kc b0 i0
  generalize grownCap w s.size 0 5 = cc at kc
  rw [hs] at kc i0
  have CG := implGreat_any e 2 w0 (by omega)
  rw [fitE_two he] at CG
  have hxl : (numsOf s).length = 5 := by rw [numsOf_length, hs]
  obtain ⟨XL, hXL⟩ : ∃ XL, XL = numsOf s := ⟨_, rfl⟩
  obtain ⟨GL, hGL⟩ : ∃ GL, GL = (fitL e 2).reverse := ⟨_, rfl⟩
  have hgl : GL.length = 2 := by rw [hGL, List.length_reverse, fitE_len he]
  rw [tellL, ← hGL, ← hXL]
  rw [← hXL] at hxl i0
  rw [← hGL] at CG
  clear hXL hGL
  go_enter Tryd.func38, Tryd.ntmps38
  go_wp2_with (fail)
  refine CG.mono ?_
  rintro r w1 ⟨p1, c1, rfl, r1, b1⟩
  have k1 := below_on b0 b1
  have i1 := in_below i0 b1
  have CC := concatTwo (some ⟨w.heap.size, 0, none⟩) p1 5 2 cc c1 XL GL w1 hxl hgl (by omega) i1 r1.bytes
  go_wp2_with (fail)
  refine CC.mono ?_
  rintro r w2 ⟨p2, c2, rfl, r2, b2⟩
  go_wp2
  go_ret
  exact ⟨_, _, rfl, ⟨owns_mono r2.1 k1.size, r2.2⟩, below_on k1 b2⟩

/-- A literal's bytes, marked as a conversion's. -/
theorem lit_in (w : World) (ty : Nat) (fz : Nat × Nat) (a b c d e : Int) : BytesIn (w.alloc (.cells #[.int .u8 a, .int .u8 b, .int .u8 c, .int .u8 d, .int .u8 e] ty fz)) (some ⟨w.heap.size, 0, none⟩) 5 [a, b, c, d, e] := by
  intro _
  refine ⟨w.heap.size, 0, rfl, fun i hi => ?_⟩
  rw [cell_of_row _ _ _ _ _ _ (heap_made w _)]
  match i, hi with
  | 0, _ => rfl
  | 1, _ => rfl
  | 2, _ => rfl
  | 3, _ => rfl
  | 4, _ => rfl

/-- 'append(full, b...)' of bytes: a new row. -/
theorem list_grows {P : Program} {e : TypeId} {i : TypeInfo} {n m c : Nat} {w : World} {q p : Option Addr} {xs ys : List Int} {ops : Array Oper} {rest : List Oper} {o : Oper} {a : Act} {Q : Exit → Act → World → Prop} (hi : P.info? e = some i) (hz : i.zero = some (.int .u8 0)) (hsize : i.size = 1) (hby : i.bytes = 1)
    (s y : Operand) (t : TypeId) (ht : P.underlying t = some (.slice e)) (hp : BytesIn w q n xs) (hx : xs.length = n) (hn0 : 0 < n) (hin : BytesIn w p m ys) (hl : ys.length = m) (hm0 : 0 < m) (hnm : n + m ≤ 1099511627)
    (hgd : o.guard = none) (ho : o.op = .call { callee := .builtin .append, args := #[s, y], argTypes := #[t, t] }) (hs : a.eval s = .slice q n n) (hy : a.eval y = .slice p m c)
    (h : ∀ p' cap w', Own e w' w.heap.size w'.heap.size (.slice p' (n + m) cap) (n + m) (xs ++ ys) → Below w.heap.size w w' → wpList P ops Q rest (a.put o.dst (.slice p' (n + m) cap)) w') :
    wpList P ops Q (o :: rest) a w := by
  obtain ⟨b, of, rfl, hc⟩ := hp hn0
  obtain ⟨b', of', rfl, hc'⟩ := hin hm0
  refine wpList_append_grows w hgd s y t ho e i (.int .u8 0) 1 1 ht hi hz hsize hby rfl (by decide) (some ⟨b, of, none⟩) n n (xs.map (Value.int .u8)) hs (fun x => by cases x) (by simp [hx]) (fun b2 hb2 => by cases hb2; exact news_of_in hx hc) ⟨b', of', none⟩ m c (ys.map (Value.int .u8)) hy (by simp [hl]) (news_of_in hl hc') (ints_oneCell _ _) (by omega) (by unfold maxLen; omega) (by omega) ?_
  intro v' w' h1 h2
  have h1' : w'.ownsRow w.heap.size e 1 v' (n + m) ((xs ++ ys).map (Value.int .u8)) := by simpa using h1
  have hv : ∃ p' cap, v' = .slice p' (n + m) cap := by
    rcases h1'.2 with ⟨_, r⟩ | ⟨g, cap, cur, r, _⟩
    · omega
    · exact ⟨_, _, r⟩
  obtain ⟨p', cap, rfl⟩ := hv
  exact h p' cap w' (.of h1') ((Below.refl _ _).grown h2 (Nat.le_refl _) fun k hk => by cases hk)

end Go.Proofs.YtdjdanpicbaieaaDoor

namespace Go.Proofs.YtdjdanpicbaieaaDoor
open Go.RowKit
set_option maxRecDepth 100000

theorem disableS (w : World) : (callFunc 88 #[]).run Tryd.prog w = .ok (.value (.tuple #[])) w := run_call_mark0 Tryd.func88 (by kernel_rfl) (by kernel_rfl) (by kernel_rfl) .disable (by kernel_rfl) w
theorem enableS (w : World) : (callFunc 90 #[]).run Tryd.prog w = .ok (.value (.tuple #[])) w := run_call_mark0 Tryd.func90 (by kernel_rfl) (by kernel_rfl) (by kernel_rfl) .enable (by kernel_rfl) w
theorem acquireS (a : Addr) (w : World) : (callFunc 91 #[.pointer (some a)]).run Tryd.prog w = .ok (.value (.tuple #[])) w := run_call_marked Tryd.func91 (by kernel_rfl) (by kernel_rfl) (by kernel_rfl) .acquire (by kernel_rfl) a w
theorem releaseMergeS (a : Addr) (w : World) : (callFunc 93 #[.pointer (some a)]).run Tryd.prog w = .ok (.value (.tuple #[])) w := run_call_marked Tryd.func93 (by kernel_rfl) (by kernel_rfl) (by kernel_rfl) .releaseMerge (by kernel_rfl) a w

/-- '(*sync/atomic.Bool).Store(true)' as a deferred call: the cell holds 1. -/
theorem store_deferred (a : Addr) (x : Value) (u : FrameMode) (w : World) (hc : w.cell? a = some x) (hz : w.frozen? a = false) :
    CallsD Tryd.prog 87 #[.pointer (some a), .bool true] u w fun e u' w' => u' = u ∧ (e = .returned (.tuple #[]) ∧ w' = w.drew.setCell a (.int .u32 1)) := by
  have hc' : w.drew.cell? a = some x := by go_simp
  have hz' : w.drew.frozen? a = false := by go_simp
  have hst := run_call_store (P := Tryd.prog) Tryd.func107 (by kernel_rfl) (by kernel_rfl) (by kernel_rfl) (by kernel_rfl) (k := .u32) (y := 1) hc' hz'
  go_enter_d Tryd.func87, Tryd.ntmps87
  go_wp2
  go_region_calls
  all_goals (go_end0; exact ⟨rfl, rfl⟩)

theorem unlock_deferred (a : Addr) (u : FrameMode) (w : World) (hc : w.cell? a = some (.int .i32 1)) (hz : w.frozen? a = false) :
    CallsD Tryd.prog 56 #[.pointer (some a)] u w fun e u' w' => u' = u ∧ (e = .returned (.tuple #[]) ∧ w' = w.setCell a (.int .i32 0)) := by
  have hd := disableS
  have he := enableS
  have hr := releaseMergeS
  have hadd := run_call_add (P := Tryd.prog) Tryd.func94 (by kernel_rfl) (by kernel_rfl) (by kernel_rfl) .i32 (by kernel_rfl) (y := -1) (s := 0) hc hz (by simp [go_sem]; rfl)
  have hcv := run_convert_to_unsafe (P := Tryd.prog) (src := 109) (dst := 113) Tryd.underlying109 Tryd.underlying113 (by kernel_rfl) hc
  go_enter_d Tryd.func56, Tryd.ntmps56
  go_wp2
  go_end0
  go_wp2
  go_end0
  exact ⟨rfl, rfl⟩

theorem lock_free (a : Addr) (w : World) (hc : w.cell? a = some (.int .i32 0)) (hz : w.frozen? a = false) :
    Calls Tryd.prog 55 #[.pointer (some a)] w fun e w' => e = .returned (.tuple #[]) ∧ w' = w.setCell a (.int .i32 1) := by
  have hd := disableS
  have he := enableS
  have ha := acquireS
  have hcas := run_call_cas_hit (P := Tryd.prog) Tryd.func89 (by kernel_rfl) (by kernel_rfl) (by kernel_rfl) .i32 (by kernel_rfl) (y := 1) hc hz
  have hc' : (w.setCell a (.int .i32 1)).cell? a = some (.int .i32 1) := World.cell?_setCell_same w a _ hc
  have hcv := run_convert_to_unsafe (P := Tryd.prog) (src := 109) (dst := 113) Tryd.underlying109 Tryd.underlying113 (by kernel_rfl) hc'
  go_enter Tryd.func55, Tryd.ntmps55
  go_wp2
  first | go_end0 | (simp only [Exit.inBlock, Exit.then]; refine bodyPost_ret (results_none rfl _ _ _) rfl ?_) | refine bodyPost_ret (results_none rfl _ _ _) rfl ?_
  go_wp2
  go_end0
  exact ⟨rfl, rfl⟩

/-- A ring of keys lies at block R: its seed, whether it was begun, the once's lock, the ring's lock, its map. -/
def RingAt (w : World) (R : Nat) (s : Value) (d m l : Int) (k : Value) : Prop := Cells w R #[s, .int .u32 d, .int .i32 m, .int .u32 0, .int .i32 l, .int .u32 0, k]
theorem RingAt.c0 {w : World} {R : Nat} {s : Value} {d m l : Int} {k : Value} (h : RingAt w R s d m l k) : w.cell? ⟨R, 0, none⟩ = some s := (h.2 0).1
theorem RingAt.c1 {w : World} {R : Nat} {s : Value} {d m l : Int} {k : Value} (h : RingAt w R s d m l k) : w.cell? ⟨R, 1, none⟩ = some (.int .u32 d) := (h.2 1).1
theorem RingAt.c2 {w : World} {R : Nat} {s : Value} {d m l : Int} {k : Value} (h : RingAt w R s d m l k) : w.cell? ⟨R, 2, none⟩ = some (.int .i32 m) := (h.2 2).1
theorem RingAt.c4 {w : World} {R : Nat} {s : Value} {d m l : Int} {k : Value} (h : RingAt w R s d m l k) : w.cell? ⟨R, 4, none⟩ = some (.int .i32 l) := (h.2 4).1
theorem RingAt.c6 {w : World} {R : Nat} {s : Value} {d m l : Int} {k : Value} (h : RingAt w R s d m l k) : w.cell? ⟨R, 6, none⟩ = some k := (h.2 6).1
theorem RingAt.z {w : World} {R : Nat} {s : Value} {d m l : Int} {k : Value} (h : RingAt w R s d m l k) (i : Nat) : w.frozen? ⟨R, i, none⟩ = false := (h.2 i).2
theorem RingAt.s1 {w : World} {R : Nat} {s : Value} {d m l : Int} {k : Value} (h : RingAt w R s d m l k) (x : Int) : RingAt (w.setCell ⟨R, 1, none⟩ (.int .u32 x)) R s x m l k := Cells.set h 1 (show 1 < 7 by omega) (.int .u32 x)
theorem RingAt.s2 {w : World} {R : Nat} {s : Value} {d m l : Int} {k : Value} (h : RingAt w R s d m l k) (x : Int) : RingAt (w.setCell ⟨R, 2, none⟩ (.int .i32 x)) R s d x l k := Cells.set h 2 (show 2 < 7 by omega) (.int .i32 x)
theorem RingAt.s4 {w : World} {R : Nat} {s : Value} {d m l : Int} {k : Value} (h : RingAt w R s d m l k) (x : Int) : RingAt (w.setCell ⟨R, 4, none⟩ (.int .i32 x)) R s d m x k := Cells.set h 4 (show 4 < 7 by omega) (.int .i32 x)
theorem RingAt.s6 {w : World} {R : Nat} {s : Value} {d m l : Int} {k : Value} (h : RingAt w R s d m l k) (x : Value) : RingAt (w.setCell ⟨R, 6, none⟩ x) R s d m l x := Cells.set h 6 (show 6 < 7 by omega) x
theorem RingAt.grown {w w' : World} {R : Nat} {s : Value} {d m l : Int} {k : Value} {r : Option Nat} (h : RingAt w R s d m l k) (hg : w.grownBy w' r) (hr : some R ≠ r) : RingAt w' R s d m l k := Cells.grown h hg hr
theorem set_grown (w : World) (R i : Nat) (v : Value) : w.grownBy (w.setCell ⟨R, i, none⟩ v) (some R) := ⟨rfl, rfl, rfl, by simp [World.setCell], fun k _ hk => Below.heap_setCell _ _ _ k (fun e => hk (by rw [e]))⟩
theorem drew_grown (w : World) (r : Option Nat) : w.grownBy w.drew r := ⟨rfl, rfl, rfl, Nat.le_refl _, fun _ _ _ => rfl⟩

theorem begin_ring (R : Nat) (s : Value) (d m l : Int) (k : Value) (w : World) (h : RingAt w R s d m l k) :
    Calls Tryd.prog 54 #[.pointer (some ⟨R, 0, none⟩)] w fun e w' => e = .returned (.tuple #[]) ∧ RingAt w' R s d m l (.map (some w.heap.size)) ∧ w'.heap[w.heap.size]? = some (.map #[] 0) ∧ w.grownBy w' (some R) := by
  have hmm := @run_makeMap Tryd.prog
  have hA : RingAt (w.alloc (.map #[] 0)) R s d m l k := h.grown (World.grownBy_alloc w _ none) (by simp)
  have h6 := hA.c6
  have z6 := hA.z 6
  have hfin := hA.s6 (.map (some w.heap.size))
  have hm : ((w.alloc (.map #[] 0)).setCell ⟨R, 6, none⟩ (.map (some w.heap.size))).heap[w.heap.size]? = some (.map #[] 0) := by
    rw [Below.heap_setCell _ _ _ _ (by have := h.1; show w.heap.size ≠ R; omega)]
    exact heap_made _ _
  have hg : w.grownBy ((w.alloc (.map #[] 0)).setCell ⟨R, 6, none⟩ (.map (some w.heap.size))) (some R) := (World.grownBy_alloc w _ _).trans (set_grown _ _ _ _)
  clear hA
  go_enter Tryd.func54, Tryd.ntmps54
  go_wp2
  go_end0
  exact ⟨rfl, hfin, hm, hg⟩

set_option maxHeartbeats 1600000 in
theorem slow_ring (R : Nat) (s : Value) (l : Int) (k : Value) (w : World) (h : RingAt w R s 0 0 l k) :
    Calls Tryd.prog 69 #[.pointer (some ⟨R, 1, none⟩), .func (.func 54) #[.pointer (some ⟨R, 0, none⟩)] #[]] w fun e w' => e = .returned (.tuple #[]) ∧ ∃ M, w.heap.size ≤ M ∧ RingAt w' R s 1 0 l (.map (some M)) ∧ w'.heap[M]? = some (.map #[] 0) ∧ w.grownBy w' (some R) := by
  have hnot : ∀ (x : Bool) (w : World), (Op.unary .not (.bool x)).run Tryd.prog w = .ok (.bool (!x)) w := fun _ _ => rfl
  have h1 := h.s2 1
  have g1 := set_grown w R 2 (.int .i32 1)
  have CL := lock_free ⟨R, 2, none⟩ w h.c2 (h.z 2)
  generalize w.setCell ⟨R, 2, none⟩ (.int .i32 1) = w1 at h1 g1 CL
  have hl := run_call_load (P := Tryd.prog) Tryd.func86 (by kernel_rfl) (by kernel_rfl) (by kernel_rfl) .u32 (by kernel_rfl) h1.c1
  have CB := begin_ring R s 0 1 l k w1 h1
  go_enter_defers Tryd.func69, Tryd.ntmps69
  go_wp2_with (first | (go_at_call 55; refine CL.mono ?_; rintro e w' ⟨rfl, hw⟩; rw [hw]; clear hw w') | (go_at_call 68; go_in) | (go_at_call 54; refine CB.mono ?_; rintro e w2 ⟨rfl, h2, hM, g2⟩))
  -- the door: two deferred calls, the last laid first
  refine leaves_cons (f := 87) (args := #[.pointer (some ⟨R, 1, none⟩), .bool true]) (by simp) (by simp [go_sem]) ?_
  refine (store_deferred ⟨R, 1, none⟩ (.int .u32 0) .returning _ h2.c1 (h2.z 1)).mono ?_
  rintro e u' w3' ⟨rfl, rfl, rfl⟩
  have h3 : RingAt (w2.drew.setCell ⟨R, 1, none⟩ (.int .u32 1)) R s 1 1 l (.map (some w1.heap.size)) := RingAt.s1 (h2.grown (drew_grown w2 none) (by simp)) 1
  have g3 : w2.grownBy (w2.drew.setCell ⟨R, 1, none⟩ (.int .u32 1)) (some R) := (drew_grown w2 _).trans (set_grown _ _ _ _)
  generalize w2.drew.setCell ⟨R, 1, none⟩ (.int .u32 1) = w3 at h3 g3 ⊢
  refine leaves_cons (f := 56) (args := #[.pointer (some ⟨R, 2, none⟩)]) (by simp [settle]) (by simp [go_sem]) ?_
  refine (unlock_deferred ⟨R, 2, none⟩ _ _ h3.c2 (h3.z 2)).mono ?_
  rintro e u' w4 ⟨rfl, rfl, rfl⟩
  have h4 := h3.s2 0
  have g4 := set_grown w3 R 2 (.int .i32 0)
  have hM4 : (w3.setCell ⟨R, 2, none⟩ (.int .i32 0)).heap[w1.heap.size]? = some (.map #[] 0) := by
    have hne : some w1.heap.size ≠ some R := fun x => by have := h1.1; cases x; omega
    have hlt : w1.heap.size < w2.heap.size := by
      rcases Nat.lt_or_ge w1.heap.size w2.heap.size with x | x
      · exact x
      · rw [Array.getElem?_eq_none x] at hM; cases hM
    rw [g4.block _ (Nat.lt_of_lt_of_le hlt g3.size) hne, g3.block _ hlt hne]
    exact hM
  simp [Leaves, settle, results, Tryd.results69]
  exact ⟨w1.heap.size, g1.size, h4, hM4, ((g1.trans g2).trans g3).trans g4⟩

set_option maxHeartbeats 1600000 in
theorem do_ring (R : Nat) (s : Value) (l : Int) (k : Value) (w : World) (h : RingAt w R s 0 0 l k) :
    Calls Tryd.prog 53 #[.pointer (some ⟨R, 1, none⟩), .func (.func 54) #[.pointer (some ⟨R, 0, none⟩)] #[]] w fun e w' => e = .returned (.tuple #[]) ∧ ∃ M, w.heap.size ≤ M ∧ RingAt w' R s 1 0 l (.map (some M)) ∧ w'.heap[M]? = some (.map #[] 0) ∧ w.grownBy w' (some R) := by
  have hnot : ∀ (x : Bool) (w : World), (Op.unary .not (.bool x)).run Tryd.prog w = .ok (.bool (!x)) w := fun _ _ => rfl
  have hl := run_call_load (P := Tryd.prog) Tryd.func86 (by kernel_rfl) (by kernel_rfl) (by kernel_rfl) .u32 (by kernel_rfl) h.c1
  have CS := slow_ring R s l k w h
  go_enter Tryd.func53, Tryd.ntmps53
  go_wp2_with (first | (go_at_call 69; refine CS.mono ?_; rintro e w' ⟨rfl, hw'⟩) | (go_at_call 68; go_in))
  go_end0
  exact ⟨rfl, hw'⟩

end Go.Proofs.YtdjdanpicbaieaaDoor
