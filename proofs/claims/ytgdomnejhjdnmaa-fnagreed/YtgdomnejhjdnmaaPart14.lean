/-
  What Agreed answers, the specification's and the program's, at whatever bytes. Conditions: bytes all; a capacity that is not less than the length.
  What two make of each other's public points is one, by bytes. Condition: keys of 32 bytes.
  FnAgreed returns true for any code, and writes nothing that was there; condition: bytes all.
-/
import Derived.Test.YtgdomnejhjdnmaaPart13
import Derived.Test.YtgdomnejhjdnmaaPart02
import Derived.Lib.Bytes
import Derived.Test.YtgdomnejhjdnmaaPart05
import Derived.Test.YtgdomnejhjdnmaaPart08
namespace Go.Proofs.Ytgdomnejhjdnmaa
open Go.RowKit

theorem or_u8 (a b : Nat) (ha : a < 256) (hb : b < 256) : bits .or .u8 (a : Int) (b : Int) = ((a ||| b : Nat) : Int) := by
  have e : bits .or .u8 (a : Int) (b : Int) = IntKind.u8.wrap ((BitVec.ofInt 8 (a : Int) ||| BitVec.ofInt 8 (b : Int)).toNat : Int) := rfl
  have e1 : (BitVec.ofInt 8 (a : Int)).toNat = a := by rw [BitVec.toNat_ofInt]; omega
  have e2 : (BitVec.ofInt 8 (b : Int)).toNat = b := by rw [BitVec.toNat_ofInt]; omega
  have e3 : ∀ x : Int, IntKind.u8.wrap x = x % 256 := fun x => rfl
  have h := Nat.or_lt_two_pow (n := 8) ha hb
  rw [e, BitVec.toNat_or, e1, e2, e3]
  omega
/-- All the bits of the first k. -/
def orA (V : List Int) : Nat → Int
  | 0 => 0
  | k + 1 => bits .or .u8 (orA V k) (V.getD k 0)
theorem orA_fact {V : List Int} (hb : ∀ x ∈ V, 0 ≤ x ∧ x < 256) : ∀ k, (0 ≤ orA V k ∧ orA V k < 256) ∧ (orA V k = 0 ↔ ∀ j, j < k → V.getD j 0 = 0)
  | 0 => ⟨⟨by simp [orA], by simp [orA]⟩, ⟨fun _ j hj => by omega, fun _ => rfl⟩⟩
  | k + 1 => by
    obtain ⟨h1, h2⟩ := orA_fact hb k
    have h3 := byteZ hb k
    obtain ⟨a, ha⟩ : ∃ a : Nat, orA V k = a := ⟨(orA V k).toNat, by omega⟩
    obtain ⟨b, hb'⟩ : ∃ b : Nat, V.getD k 0 = b := ⟨(V.getD k 0).toNat, by omega⟩
    rw [ha] at h1 h2
    rw [hb'] at h3
    have e : orA V (k + 1) = ((a ||| b : Nat) : Int) := by
      rw [orA, ha, hb']
      exact or_u8 a b (by omega) (by omega)
    have h := Nat.or_lt_two_pow (n := 8) (show a < 2 ^ 8 by omega) (show b < 2 ^ 8 by omega)
    rw [e]
    refine ⟨⟨by omega, by omega⟩, ⟨fun h0 j hj => ?_, fun h0 => ?_⟩⟩
    · have hz : a ||| b = 0 := by omega
      have hab : a = 0 ∧ b = 0 := by simpa using hz
      by_cases hjk : j = k
      · rw [hjk, hb', hab.2]; rfl
      · exact h2.1 (by rw [hab.1]; rfl) j (by omega)
    · have ea : (a : Int) = 0 := h2.2 fun j hj => h0 j (by omega)
      have eb : (b : Int) = 0 := by rw [← hb']; exact h0 k (by omega)
      have ea' : a = 0 := by omega
      have eb' : b = 0 := by omega
      rw [ea', eb']
      rfl
theorem numB_zero {z : Int} (h0 : 0 ≤ z) (h1 : z < fldP) (h : ∀ j, j < 32 → (numB z).getD j 0 = 0) : z = 0 := by
  have e : numB z = numB 0 := by
    apply List.ext_getElem (by rw [numB_length, numB_length])
    intro j hj _
    have hj' : j < 32 := by rwa [numB_length] at hj
    have h2 := h j hj'
    have h3 : (numB 0).getD j 0 = 0 := by
      have : ∀ j, j < 32 → (numB 0).getD j 0 = 0 := by decide
      exact this j hj'
    rw [List.getD_eq_getElem?_getD, List.getElem?_eq_getElem hj] at h2
    rw [List.getD_eq_getElem?_getD, List.getElem?_eq_getElem (by rw [numB_length]; exact hj')] at h3
    simp only [Option.getD_some] at h2 h3
    rw [h2, h3]
  rw [← numF_numB h0 h1, e]
  decide

/-- Something is agreed. -/
def agOk (ks us : List Int) (n m : Nat) : Prop := two32 n m ∧ ptZ ks us ≠ 0
instance (ks us : List Int) (n m : Nat) : Decidable (agOk ks us n m) := inferInstanceAs (Decidable (_ ∧ _))
def agN (ks us : List Int) (n m : Nat) : Nat := if agOk ks us n m then 32 else 0
def agL (ks us : List Int) (n m : Nat) : List Int := if agOk ks us n m then numB (ptZ ks us) else []
theorem agL_length (ks us : List Int) (n m : Nat) : (agL ks us n m).length = agN ks us n m := by
  unfold agL agN
  split <;> rfl
theorem agL_byte (ks us : List Int) (n m : Nat) : ∀ y ∈ agL ks us n m, 0 ≤ y ∧ y < 256 := by
  unfold agL
  split
  · exact numB_byte _
  · intro y hy; cases hy
theorem agN_le (ks us : List Int) (n m : Nat) : agN ks us n m ≤ 32 := by unfold agN; split <;> omega
theorem ag_or (ks us : List Int) (n m : Nat) : orA (fldL (ptZ ks us) n m) (fldN n m) = 0 ↔ ¬ agOk ks us n m := by
  have h := (orA_fact (fldL_byte (ptZ ks us) n m) (fldN n m)).2
  rw [h]
  unfold fldL fldN agOk
  by_cases hok : two32 n m
  · rw [if_pos hok, if_pos hok, ptZ_mod]
    constructor
    · intro h0 h1
      exact h1.2 (numB_zero (ptZ_range ks us).1 (ptZ_range ks us).2 h0)
    · intro h0 j hj
      have hz : ptZ ks us = 0 := by
        by_cases e : ptZ ks us = 0
        · exact e
        · exact absurd ⟨hok, e⟩ h0
      rw [hz]
      have : ∀ j, j < 32 → (numB 0).getD j 0 = 0 := by decide
      exact this j hj
  · rw [if_neg hok, if_neg hok]
    exact ⟨fun _ h1 => hok h1.1, fun _ j hj => by omega⟩

set_option maxRecDepth 100000 in
set_option maxHeartbeats 4000000 in
theorem specAgreed_any (p q : Option Addr) (n m c d : Nat) (ks us : List Int) (w : World) (hl : ks.length = n) (h : BytesIn w p n ks) (h' : BytesIn w q m us) (hb1 : ∀ x ∈ ks, 0 ≤ x ∧ x < 256) (hb2 : ∀ x ∈ us, 0 ≤ x ∧ x < 256) :
    Calls Try.prog 8 #[.slice p n c, .slice q m d] w fun e w' => ∃ p' c', e = .returned (.tuple #[.slice p' (agN ks us n m) c', .bool (decide (agOk ks us n m))]) ∧ Own 5 w' w.heap.size w'.heap.size (.slice p' (agN ks us n m) c') (agN ks us n m) (agL ks us n m) ∧ Below w.heap.size w w' := by
  have C1 := specPoint_any p q n m c d ks us w hl h h' hb1 hb2
  have hor := ag_or ks us n m
  have hNle := fldN_le n m
  have hfin : Hid (agOk ks us n m → agN ks us n m = fldN n m ∧ agL ks us n m = fldL (ptZ ks us) n m) := fun k => by
    unfold agN agL fldN fldL
    rw [if_pos k, if_pos k, if_pos k.1, if_pos k.1, ptZ_mod]
    exact ⟨rfl, rfl⟩
  have hno : Hid (¬ agOk ks us n m → agN ks us n m = 0 ∧ agL ks us n m = []) := fun k => by
    unfold agN agL
    rw [if_neg k, if_neg k]
    exact ⟨rfl, rfl⟩
  generalize fldL (ptZ ks us) n m = V at C1 hor hfin
  generalize fldN n m = N at C1 hor hfin hNle
  generalize agL ks us n m = AL at hfin hno ⊢
  generalize agN ks us n m = AN at hfin hno ⊢
  replace hor : Hid (orA V N = 0 ↔ ¬ agOk ks us n m) := hor
  obtain ⟨t, ht⟩ : ∃ t, t = decide (agOk ks us n m) := ⟨_, rfl⟩
  rw [← ht]
  replace ht : Hid (t = decide (agOk ks us n m)) := ht
  clear h h' hb1 hb2 hl
  go_enter Try.func8, Try.ntmps8
  go_wp2_with (fail)
  refine C1.mono ?_
  rintro e w1 ⟨p1, c1, rfl, o1, b1⟩
  have hin := o1.bytes
  clear C1
  go_wp2_with (fail)
  go_loopw [7, 8] (fun a i wr => ∃ k : Nat, k ≤ N ∧ i = .int .i64 k ∧ a = .int .u8 (orA V k) ∧ wr = w1)
    (fun _ i _ => N - (intOf i).toNat)
  case atStart => exact ⟨0, Nat.zero_le _, rfl, rfl, rfl⟩
  case round =>
    obtain ⟨k, hk, rfl, rfl, rfl⟩ := hrel
    by_cases hlt : k < N
    · obtain ⟨bb, oo, rfl, hc⟩ := hin (by omega)
      have hck := hc k hlt
      have hkl : (k : Int) < (N : Int) := by omega
      have hor1 : bits .or .u8 (orA V k) (V.getD k 0) = orA V (k + 1) := rfl
      have hk33 : (k : Int) < 33 := by omega
      generalize orA V k = a0 at hor1 ⊢
      generalize hv1 : orA V (k + 1) = a1 at hor1
      replace hv1 : Hid (orA V (k + 1) = a1) := hv1
      generalize V.getD k 0 = x0 at hck hor1
      clear hc hin
      go_wp2
      go_roundw
      case rel => exact ⟨k + 1, by omega, by simp, by rw [hv1.out], trivial⟩
      case measure => simp [intOf]; omega
    · obtain rfl : k = N := by omega
      have hnl : ¬ (k : Int) < (k : Int) := by omega
      by_cases hag : agOk ks us n m
      · obtain ⟨rfl, rfl⟩ := hfin.out hag
        have h0 : (orA AL AN == 0) = false := by
          rw [Bool.eq_false_iff]
          intro e
          exact hor.out.1 (by simpa using e) hag
        have ht1 : true = t := by rw [ht.out]; exact (decide_eq_true hag).symm
        subst ht1
        clear hfin hno hin
        generalize orA AL AN = a0 at h0 ⊢
        go_wp2
        go_ret2
        exact ⟨_, _, rfl, o1, b1⟩
      · obtain ⟨rfl, rfl⟩ := hno.out hag
        have h0 : orA V k = 0 := hor.out.2 hag
        have ht1 : false = t := by rw [ht.out]; exact (decide_eq_false hag).symm
        subst ht1
        rw [h0]
        have hown0 : (wr.alloc (.cells #[] 5)).ownsRow w.heap.size 5 1 (.slice (some ⟨wr.heap.size, 0, none⟩) 0 0) 0 (([] : List Int).map (Value.int .u8)) := World.ownsRow_made wr #[] 0 b1.size (by unfold maxLen; omega) rfl
        have hb0 : Below wr.heap.size wr (wr.alloc (.cells #[] 5)) := (Below.refl _ _).alloc (Nat.le_refl _) _
        clear hfin hno hin h0
        go_wp2
        go_ret2
        exact ⟨_, _, rfl, .of hown0, below_on b1 hb0⟩

theorem agree_inj : ∀ {xs ys : List Int}, (∀ x ∈ xs, 0 ≤ x ∧ x < 256) → (∀ x ∈ ys, 0 ≤ x ∧ x < 256) → xs.map (fun n => UInt8.ofNat n.toNat) = ys.map (fun n => UInt8.ofNat n.toNat) → xs = ys
  | [], [], _, _, _ => rfl
  | [], y :: ys, _, _, h => by simp at h
  | x :: xs, [], _, _, h => by simp at h
  | x :: xs, y :: ys, hx, hy, h => by
    simp only [List.map_cons, List.cons.injEq] at h
    have h1 := hx x (by simp)
    have h2 := hy y (by simp)
    have e := congrArg UInt8.toNat h.1
    simp only [UInt8.toNat_ofNat'] at e
    have : x = y := by omega
    rw [this, agree_inj (fun z hz => hx z (by simp [hz])) (fun z hz => hy z (by simp [hz])) h.2]
theorem same_iff {xs ys : List Int} (hx : ∀ x ∈ xs, 0 ≤ x ∧ x < 256) (hy : ∀ x ∈ ys, 0 ≤ x ∧ x < 256) : ((strOfNums xs).toList == (strOfNums ys).toList) = decide (xs = ys) := by
  rw [Lib.strOfNums_toList, Lib.strOfNums_toList]
  by_cases h : xs = ys
  · subst h; simp
  · rw [decide_eq_false h]
    apply Bool.eq_false_iff.2
    intro he
    exact h (agree_inj hx hy (eq_of_beq he))

set_option maxRecDepth 100000 in
set_option maxHeartbeats 4000000 in
theorem implAgreed_any (p q : Option Addr) (n m c d : Nat) (ks us : List Int) (w : World) (hl : ks.length = n) (h : BytesIn w p n ks) (h' : BytesIn w q m us) (hb1 : ∀ x ∈ ks, 0 ≤ x ∧ x < 256) (hb2 : ∀ x ∈ us, 0 ≤ x ∧ x < 256) (hd : m ≤ d) :
    Calls Try.prog 7 #[.slice p n c, .slice q m d] w fun e w' => ∃ p' c', e = .returned (.tuple #[.slice p' (agN ks us n m) c', .bool (decide (agOk ks us n m))]) ∧ Own 5 w' w.heap.size w'.heap.size (.slice p' (agN ks us n m) c') (agN ks us n m) (agL ks us n m) ∧ Below w.heap.size w w' := by
  have C1 := implPoint_any p q n m c d ks us w hl h h' hb1 hb2 hd
  clear h h' hb1 hb2 hl hd
  by_cases hok : two32 n m
  · have hN : fldN n m = 32 := if_pos hok
    have hV : fldL (ptZ ks us) n m = numB (ptZ ks us) := by unfold fldL; rw [if_pos hok, ptZ_mod]
    rw [hN, hV] at C1
    have C2 := fun X => implFieldNum_any 0 X (by decide)
    have hn0 : numB (nnZ 0) = numB 0 := rfl
    simp only [hn0] at C2
    have C3 := fun (p q : Option Addr) (c d : Nat) (X : World) (h : BytesIn X p 32 (numB (ptZ ks us))) (h' : BytesIn X q 32 (numB 0)) => implSame_any p q 32 32 c d (numB (ptZ ks us)) (numB 0) X rfl rfl h h'
    rw [same_iff (numB_byte _) (numB_byte _)] at C3
    by_cases hz : ptZ ks us = 0
    · have hag : ¬ agOk ks us n m := fun k => k.2 hz
      have e1 : agN ks us n m = 0 := if_neg hag
      have e2 : agL ks us n m = [] := if_neg hag
      have e3 : decide (agOk ks us n m) = false := decide_eq_false hag
      have e4 : decide (numB (ptZ ks us) = numB 0) = true := by rw [hz]; exact decide_eq_true rfl
      rw [e1, e2, e3]
      rw [e4] at C3
      generalize numB (ptZ ks us) = V at C1 C3
      generalize numB 0 = V0 at C2 C3
      clear hag e1 e2 e3 e4 hz hn0 hV hN hok
      go_enter Try.func7, Try.ntmps7
      go_wp2_with (fail)
      refine C1.mono ?_
      rintro e w1 ⟨p1, c1, rfl, o1, b1⟩
      go_wp2_with (fail)
      refine (C2 _).mono ?_
      rintro e w2 ⟨p2, c2, rfl, o2, b2⟩
      have C4 := C3 p1 p2 c1 c2 w2 (o1.on b2).bytes o2.bytes
      clear C3
      go_wp2_with (fail)
      refine C4.mono ?_
      rintro e w3 ⟨rfl, b3⟩
      go_wp2_with (fail)
      go_ret2
      exact ⟨_, _, rfl, ⟨⟨rfl, .inl ⟨rfl, rfl⟩⟩, fun k hk => by cases hk⟩, below_on (below_on b1 b2) b3⟩
    · have hag : agOk ks us n m := ⟨hok, hz⟩
      have e1 : agN ks us n m = 32 := if_pos hag
      have e2 : agL ks us n m = numB (ptZ ks us) := if_pos hag
      have e3 : decide (agOk ks us n m) = true := decide_eq_true hag
      have e4 : decide (numB (ptZ ks us) = numB 0) = false := by
        refine decide_eq_false fun e => hz ?_
        rw [← numF_numB (ptZ_range ks us).1 (ptZ_range ks us).2, e]
        decide
      rw [e1, e2, e3]
      rw [e4] at C3
      generalize numB (ptZ ks us) = V at C1 C3 ⊢
      generalize numB 0 = V0 at C2 C3
      clear hag e1 e2 e3 e4 hz hn0 hV hN hok
      go_enter Try.func7, Try.ntmps7
      go_wp2_with (fail)
      refine C1.mono ?_
      rintro e w1 ⟨p1, c1, rfl, o1, b1⟩
      go_wp2_with (fail)
      refine (C2 _).mono ?_
      rintro e w2 ⟨p2, c2, rfl, o2, b2⟩
      have C4 := C3 p1 p2 c1 c2 w2 (o1.on b2).bytes o2.bytes
      clear C3
      go_wp2_with (fail)
      refine C4.mono ?_
      rintro e w3 ⟨rfl, b3⟩
      go_wp2_with (fail)
      go_ret2
      have o3 := (o1.on b2).on b3
      exact ⟨_, _, rfl, ⟨o3.1, fun k hk => Nat.lt_of_lt_of_le (o3.2 k hk) (Nat.le_trans b2.size b3.size)⟩, below_on (below_on b1 b2) b3⟩
  · have hN : fldN n m = 0 := if_neg hok
    have hV : fldL (ptZ ks us) n m = [] := if_neg hok
    rw [hN, hV] at C1
    have hag : ¬ agOk ks us n m := fun k => hok k.1
    have e1 : agN ks us n m = 0 := if_neg hag
    have e2 : agL ks us n m = [] := if_neg hag
    have e3 : decide (agOk ks us n m) = false := decide_eq_false hag
    rw [e1, e2, e3]
    clear hag e1 e2 e3 hV hN hok
    go_enter Try.func7, Try.ntmps7
    go_wp2_with (fail)
    refine C1.mono ?_
    rintro e w1 ⟨p1, c1, rfl, o1, b1⟩
    go_wp2_with (fail)
    go_ret2
    exact ⟨_, _, rfl, ⟨⟨rfl, .inl ⟨rfl, rfl⟩⟩, fun k hk => by cases hk⟩, b1⟩

end Go.Proofs.Ytgdomnejhjdnmaa

namespace Go.Proofs.Ytgdomnejhjdnmaa
set_option maxRecDepth 100000

theorem clamp_254 {ks : List Int} (hl : ks.length = 32) (hb : ∀ x ∈ ks, 0 ≤ x ∧ x < 256) : bitB (clampL ks) 254 = true := by
  have h := byteZ hb 31
  have e : (clampL ks).getD 31 0 = ks.getD 31 0 % 64 + 64 := by simp [clampL, List.getD_eq_getElem?_getD, hl]
  unfold bitB
  rw [show 254 / 8 = 31 from rfl, show 254 % 8 = 6 from rfl, e]
  generalize ks.getD 31 0 = v at h ⊢
  simp only [decide_eq_true_eq]
  omega
theorem clamp_low {ks : List Int} (hl : ks.length = 32) (hb : ∀ x ∈ ks, 0 ≤ x ∧ x < 256) (i : Nat) (hi : i < 3) : bitB (clampL ks) i = false := by
  have h := byteZ hb 0
  have e : (clampL ks).getD 0 0 = ks.getD 0 0 / 8 * 8 := by simp [clampL, List.getD_eq_getElem?_getD, hl]
  unfold bitB
  rw [show i / 8 = 0 by omega, show i % 8 = i by omega, e]
  generalize ks.getD 0 0 = v at h ⊢
  simp only [decide_eq_false_iff_not]
  have h2 : i = 0 ∨ i = 1 ∨ i = 2 := by omega
  rcases h2 with rfl | rfl | rfl <;> omega
theorem clamp_ord {ks : List Int} (hl : ks.length = 32) (hb : ∀ x ∈ ks, 0 ≤ x ∧ x < 256) : ¬ ordL ∣ preB (bitB (clampL ks)) 255 :=
  preB_clamped (clamp_254 hl hb) (clamp_low hl hb 0 (by decide)) (clamp_low hl hb 1 (by decide)) (clamp_low hl hb 2 (by decide))
theorem base_nine (ks : List Int) : ptZ ks baseL = ladZ (bitB (clampL ks)) 9 := by
  unfold ptZ baseL
  rw [numF_numB (by decide) (by decide)]
theorem of_public (ks ls : List Int) : ptZ ks (oneL (ptZ ls baseL) 32) = ladZ (bitB (clampL ks)) (ladZ (bitB (clampL ls)) 9) := by
  have e : oneL (ptZ ls baseL) 32 = numB (ptZ ls baseL % fldP) := if_pos rfl
  rw [e]
  show ladZ (bitB (clampL ks)) (numF (numB (ptZ ls baseL % fldP))) = _
  rw [numF_left, ptZ_mod, base_nine]
theorem ag_two {ks ls : List Int} (hk : ks.length = 32) (hkb : ∀ x ∈ ks, 0 ≤ x ∧ x < 256) (hl : ls.length = 32) (hlb : ∀ x ∈ ls, 0 ≤ x ∧ x < 256) :
    agOk ks (oneL (ptZ ls baseL) 32) 32 32 ∧ agOk ls (oneL (ptZ ks baseL) 32) 32 32 ∧ agL ks (oneL (ptZ ls baseL) 32) 32 32 = agL ls (oneL (ptZ ks baseL) 32) 32 32 := by
  have h := agreed_is (bitB (clampL ks)) (bitB (clampL ls)) (clamp_ord hk hkb) (clamp_ord hl hlb)
  have e1 := of_public ks ls
  have e2 := of_public ls ks
  have o1 : agOk ks (oneL (ptZ ls baseL) 32) 32 32 := ⟨⟨rfl, rfl⟩, by rw [e1]; exact h.2⟩
  have o2 : agOk ls (oneL (ptZ ks baseL) 32) 32 32 := ⟨⟨rfl, rfl⟩, by rw [e2, ← h.1]; exact h.2⟩
  refine ⟨o1, o2, ?_⟩
  unfold agL
  rw [if_pos o1, if_pos o2, e1, e2, h.1]

end Go.Proofs.Ytgdomnejhjdnmaa

namespace Go.Proofs.Ytgdomnejhjdnmaa
open Go.RowKit

set_option maxRecDepth 100000 in
set_option maxHeartbeats 16000000 in
theorem fnAgreed_small (p : Option Addr) (n c : Nat) (xs : List Int) (w : World) (hn : n ≤ 1048576) (hx : xs.length = n) (h : BytesIn w p n xs) (hb : ∀ x ∈ xs, 0 ≤ x ∧ x < 256) :
    Calls Try.prog 3 #[.slice p n c] w fun e w' => e = .returned (.bool true) ∧ Below w.heap.size w w' := by
  go_enter Try.func3, Try.ntmps3
  go_wp2_with (fail)
  refine (big_small p n c _ hn).mono ?_
  rintro e w1 ⟨rfl, b1⟩
  have k1 : Below w.heap.size w w1 := below_on (Below.refl _ _) b1
  have z1 := b1.size
  go_wp2_with (fail)
  refine (dPoint p n c xs _ hn hx (in_below h k1) hb).mono ?_
  rintro e w2 ⟨ga, ka, ca, ya, gb, kb, cb, yb, rfl, ⟨hka, hkb, hya, hyb⟩, ra, rb, b2⟩
  have k2 : Below w.heap.size w w2 := below_on k1 b2
  have z2 := b2.size
  go_wp2_with (fail)
  refine (dAgreed p n c xs _ hn hx (in_below h k2) hb).mono ?_
  rintro e w3 ⟨gk, kk, ck, yk, gu, ku, cu, yu, rfl, ⟨hkk, hku, hyk, hyu⟩, rk, ru, b3⟩
  have k3 : Below w.heap.size w w3 := below_on k2 b3
  have z3 := b3.size
  replace ra := ra.on b3
  replace rb := rb.on b3
  clear hx hb
  go_wp2_with (fail)
  refine (implAgreed_any (some ⟨gk, 0, none⟩) (some ⟨gu, 0, none⟩) kk ku ck cu yk yu _ rk.len rk.bytes ru.bytes hyk hyu ru.cap).mono ?_
  rintro e w4 ⟨pr1, cr1, rfl, r1, b4⟩
  have k4 : Below w.heap.size w w4 := below_on k3 b4
  have z4 := b4.size
  replace ra := ra.on b4
  replace rb := rb.on b4
  replace rk := rk.on b4
  replace ru := ru.on b4
  go_wp2_with (fail)
  refine (specAgreed_any (some ⟨gk, 0, none⟩) (some ⟨gu, 0, none⟩) kk ku ck cu yk yu _ rk.len rk.bytes ru.bytes hyk hyu).mono ?_
  rintro e w5 ⟨pr2, cr2, rfl, r2, b5⟩
  have k5 : Below w.heap.size w w5 := below_on k4 b5
  have z5 := b5.size
  replace ra := ra.on b5
  replace rb := rb.on b5
  replace rk := rk.on b5
  replace ru := ru.on b5
  replace r1 := r1.on b5
  obtain ⟨OK, hOK⟩ : ∃ OK, OK = decide (agOk yk yu kk ku) := ⟨_, rfl⟩
  rw [← hOK]
  have hbne : (OK != OK) = false := by simp
  clear hOK
  go_wp2_with (fail)
  refine (implSame_any pr1 pr2 (agN yk yu kk ku) (agN yk yu kk ku) cr1 cr2 (agL yk yu kk ku) (agL yk yu kk ku) _ r1.len r2.len r1.bytes r2.bytes).mono ?_
  rintro e w6 ⟨rfl, b6⟩
  have k6 : Below w.heap.size w w6 := below_on k5 b6
  have z6 := b6.size
  replace ra := ra.on b6
  replace rb := rb.on b6
  replace rk := rk.on b6
  replace ru := ru.on b6
  replace r1 := r1.on b6
  replace r2 := r2.on b6
  clear r1 r2 rk ru
  clear hyk hyu hkk hku
  clear b1 b2 b3 b4 b5 b6 z1 z2 z3 z4 z5 z6
  have hE := k6
  clear k1 k2 k3 k4 k5 k6
  by_cases ea : ka = 32
  · subst ea
    by_cases eb : kb = 32
    · subst eb
      have lya := ra.len
      have lyb := rb.len
      have hag := ag_two lya hya lyb hyb
      have hN : oneN 32 = 32 := rfl
      have CB := fun X (hX : BytesIn X (some ⟨gb, 0, none⟩) 32 yb) => implPublic_any (some ⟨gb, 0, none⟩) 32 cb yb X lyb hX hyb
      have CA := fun X (hX : BytesIn X (some ⟨ga, 0, none⟩) 32 ya) => implPublic_any (some ⟨ga, 0, none⟩) 32 ca ya X lya hX hya
      rw [hN] at CA CB
      have la : (oneL (ptZ ya baseL) 32).length = 32 := oneL_length _ _
      have lb : (oneL (ptZ yb baseL) 32).length = 32 := oneL_length _ _
      have ba := oneL_byte (ptZ ya baseL) 32
      have bb := oneL_byte (ptZ yb baseL) 32
      have C1 := fun (q : Option Addr) (d : Nat) X (hX : BytesIn X (some ⟨ga, 0, none⟩) 32 ya) (hq : BytesIn X q 32 (oneL (ptZ yb baseL) 32)) (hd : 32 ≤ d) => implAgreed_any (some ⟨ga, 0, none⟩) q 32 32 ca d ya _ X lya hX hq hya bb hd
      have C2 := fun (q : Option Addr) (d : Nat) X (hX : BytesIn X (some ⟨gb, 0, none⟩) 32 yb) (hq : BytesIn X q 32 (oneL (ptZ ya baseL) 32)) (hd : 32 ≤ d) => implAgreed_any (some ⟨gb, 0, none⟩) q 32 32 cb d yb _ X lyb hX hq hyb ba hd
      obtain ⟨o1, o2, heq⟩ := hag
      have n1 : agN ya (oneL (ptZ yb baseL) 32) 32 32 = 32 := if_pos o1
      have n2 : agN yb (oneL (ptZ ya baseL) 32) 32 32 = 32 := if_pos o2
      have hl1 : (agL ya (oneL (ptZ yb baseL) 32) 32 32).length = 32 := by rw [agL_length, n1]
      simp only [n1, decide_eq_true o1] at C1
      simp only [n2, decide_eq_true o2, ← heq] at C2
      generalize agL ya (oneL (ptZ yb baseL) 32) 32 32 = V at C1 C2 hl1
      generalize oneL (ptZ ya baseL) 32 = PA at CA C2 la
      generalize oneL (ptZ yb baseL) 32 = PB at CB C1 lb
      clear o1 o2 heq n1 n2 hN ba bb hya hyb
      go_wp2_with (fail)
      refine (CB _ rb.bytes).mono ?_
      rintro e wv1 ⟨pr51, cr51, rfl, r51, bv1⟩
      have kv1 : Below w6.heap.size w6 wv1 := below_on (Below.refl _ _) bv1
      have zv1 := bv1.size
      replace ra := ra.on bv1
      replace rb := rb.on bv1
      go_wp2_with (fail)
      refine (C1 pr51 cr51 _ ra.bytes r51.bytes r51.cap).mono ?_
      rintro e wv2 ⟨pr52, cr52, rfl, r52, bv2⟩
      have kv2 : Below w6.heap.size w6 wv2 := below_on kv1 bv2
      have zv2 := bv2.size
      replace ra := ra.on bv2
      replace rb := rb.on bv2
      replace r51 := r51.on bv2
      clear r51
      go_wp2_with (fail)
      refine (CA _ ra.bytes).mono ?_
      rintro e wv3 ⟨pr53, cr53, rfl, r53, bv3⟩
      have kv3 : Below w6.heap.size w6 wv3 := below_on kv2 bv3
      have zv3 := bv3.size
      replace ra := ra.on bv3
      replace rb := rb.on bv3
      replace r52 := r52.on bv3
      go_wp2_with (fail)
      refine (C2 pr53 cr53 _ rb.bytes r53.bytes r53.cap).mono ?_
      rintro e wv4 ⟨pr54, cr54, rfl, r54, bv4⟩
      have kv4 : Below w6.heap.size w6 wv4 := below_on kv3 bv4
      have zv4 := bv4.size
      replace ra := ra.on bv4
      replace rb := rb.on bv4
      replace r52 := r52.on bv4
      replace r53 := r53.on bv4
      clear r53
      go_wp2_with (fail)
      refine (implSame_any pr52 pr54 32 32 cr52 cr54 V V _ r52.len r54.len r52.bytes r54.bytes).mono ?_
      rintro e wv5 ⟨rfl, bv5⟩
      have kv5 : Below w6.heap.size w6 wv5 := below_on kv4 bv5
      have zv5 := bv5.size
      replace ra := ra.on bv5
      replace rb := rb.on bv5
      replace r52 := r52.on bv5
      replace r54 := r54.on bv5
      go_wp2_with (fail)
      go_ret
      exact ⟨rfl, below_on hE kv5⟩
    · have eb' : ((kb : Int) != 32) = true := by simp; omega
      have CP := implPoint_any (some ⟨ga, 0, none⟩) (some ⟨gb, 0, none⟩) 32 kb ca cb ya yb _ ra.len ra.bytes rb.bytes hya hyb rb.cap
      have e0 : fldN 32 kb = 0 := if_neg (fun hh => eb hh.2)
      rw [e0] at CP
      go_wp2_with (fail)
      refine CP.mono ?_
      rintro e wz ⟨pz, cz, rfl, rz, bz⟩
      go_wp2_with (fail)
      go_ret
      exact ⟨rfl, below_on hE bz⟩
  · have ea' : ((ka : Int) != 32) = true := by simp; omega
    have CP := implPoint_any (some ⟨ga, 0, none⟩) (some ⟨gb, 0, none⟩) ka kb ca cb ya yb _ ra.len ra.bytes rb.bytes hya hyb rb.cap
    have e0 : fldN ka kb = 0 := if_neg (fun hh => ea hh.1)
    rw [e0] at CP
    go_wp2_with (fail)
    refine CP.mono ?_
    rintro e wz ⟨pz, cz, rfl, rz, bz⟩
    go_wp2_with (fail)
    go_ret
    exact ⟨rfl, below_on hE bz⟩

theorem fnAgreed_law (p : Option Addr) (n c : Nat) (xs : List Int) (w : World) (hx : xs.length = n) (h : BytesIn w p n xs) (hb : ∀ x ∈ xs, 0 ≤ x ∧ x < 256) :
    Calls Try.prog 3 #[.slice p n c] w fun e w' => e = .returned (.bool true) ∧ Below w.heap.size w w' := by
  by_cases hn : n ≤ 1048576
  · exact fnAgreed_small p n c xs w hn hx h hb
  · clear hx h hb
    have C := fun X => big_great p n c X hn
    go_enter Try.func3, Try.ntmps3
    go_wp2_with (fail)
    refine (C _).mono ?_
    rintro e w1 ⟨rfl, b1⟩
    go_wp2
    go_ret
    exact ⟨rfl, b1⟩

end Go.Proofs.Ytgdomnejhjdnmaa
