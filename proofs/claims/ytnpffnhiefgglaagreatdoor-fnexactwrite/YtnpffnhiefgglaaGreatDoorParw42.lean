/-
  A part of the proof.
-/
import Derived.Test.YtnpffnhiefgglaaGreatDoorParw41
import Derived.Lib.Bytes
import Derived.Test.YtnpffnhiefgglaaGreatDoorParw16
import Derived.Test.YtnpffnhiefgglaaGreatDoorParw15
import Derived.Test.YtnpffnhiefgglaaGreatDoorParw29
import Derived.Test.YtnpffnhiefgglaaGreatDoorParw23
import Derived.Deep.RegionHeld3
import Derived.Test.YtnpffnhiefgglaaGreatDoorParw36
namespace Go.Proofs.YtnpffnhiefgglaaGreatDoor
open Go.RowKit
set_option maxRecDepth 100000
theorem or_u8 (a b : Nat) (ha : a < 256) (hb : b < 256) : bits .or .u8 (a : Int) (b : Int) = ((a ||| b : Nat) : Int) := by
  have e : bits .or .u8 (a : Int) (b : Int) = IntKind.u8.wrap ((BitVec.ofInt 8 (a : Int) ||| BitVec.ofInt 8 (b : Int)).toNat : Int) := rfl
  have e1 : (BitVec.ofInt 8 (a : Int)).toNat = a := by rw [BitVec.toNat_ofInt]; omega
  have e2 : (BitVec.ofInt 8 (b : Int)).toNat = b := by rw [BitVec.toNat_ofInt]; omega
  have e3 : ∀ x : Int, IntKind.u8.wrap x = x % 256 := fun x => rfl
  have h := Nat.or_lt_two_pow (n := 8) ha hb
  rw [e, BitVec.toNat_or, e1, e2, e3]
  omega
def orA (V : List Int) : Nat → Int
  | 0 => 0
  | k + 1 => bits .or .u8 (orA V k) (V.getD k 0)
theorem orA_fact {V : List Int} (hb : ∀ x ∈ V, 0 ≤ x ∧ x < 256) : ∀ k, (0 ≤ orA V k ∧ orA V k < 256) ∧ (orA V k = 0 ↔ ∀ j, j < k → V.getD j 0 = 0)
  | 0 => ⟨⟨by simp [orA], by simp [orA]⟩, ⟨fun _ j hj => by omega, fun _ => rfl⟩⟩
  | k + 1 => by
    obtain ⟨h1, h2⟩ := orA_fact hb k
    have h3 := byteZ hb k
    obtain ⟨a, ha⟩ : ∃ a : Nat, orA V k = a := ⟨(orA V k).toNat, by omega⟩
    obtain ⟨b, hb'⟩ : ∃ b : Nat, V.getD k 0 = b := ⟨(V.getD k 0).toNat, by omega⟩
    rw [ha] at h1 h2
    rw [hb'] at h3
    have e : orA V (k + 1) = ((a ||| b : Nat) : Int) := by
      rw [orA, ha, hb']
      exact or_u8 a b (by omega) (by omega)
    have h := Nat.or_lt_two_pow (n := 8) (show a < 2 ^ 8 by omega) (show b < 2 ^ 8 by omega)
    rw [e]
    refine ⟨⟨by omega, by omega⟩, ⟨fun h0 j hj => ?_, fun h0 => ?_⟩⟩
    · have hz : a ||| b = 0 := by omega
      have hab : a = 0 ∧ b = 0 := by simpa using hz
      by_cases hjk : j = k
      · rw [hjk, hb', hab.2]; rfl
      · exact h2.1 (by rw [hab.1]; rfl) j (by omega)
    · have ea : (a : Int) = 0 := h2.2 fun j hj => h0 j (by omega)
      have eb : (b : Int) = 0 := by rw [← hb']; exact h0 k (by omega)
      have ea' : a = 0 := by omega
      have eb' : b = 0 := by omega
      rw [ea', eb']
      rfl
theorem numB_zero {z : Int} (h0 : 0 ≤ z) (h1 : z < fldP) (h : ∀ j, j < 32 → (numB z).getD j 0 = 0) : z = 0 := by
  have e : numB z = numB 0 := by
    apply List.ext_getElem (by rw [numB_length, numB_length])
    intro j hj _
    have hj' : j < 32 := by rwa [numB_length] at hj
    have h2 := h j hj'
    have h3 : (numB 0).getD j 0 = 0 := by
      have : ∀ j, j < 32 → (numB 0).getD j 0 = 0 := by decide
      exact this j hj'
    rw [List.getD_eq_getElem?_getD, List.getElem?_eq_getElem hj] at h2
    rw [List.getD_eq_getElem?_getD, List.getElem?_eq_getElem (by rw [numB_length]; exact hj')] at h3
    simp only [Option.getD_some] at h2 h3
    rw [h2, h3]
  rw [← numF_numB h0 h1, e]
  decide
def agOk (ks us : List Int) (n m : Nat) : Prop := two32 n m ∧ ptZ ks us ≠ 0
instance (ks us : List Int) (n m : Nat) : Decidable (agOk ks us n m) := inferInstanceAs (Decidable (_ ∧ _))
def agN (ks us : List Int) (n m : Nat) : Nat := if agOk ks us n m then 32 else 0
def agL (ks us : List Int) (n m : Nat) : List Int := if agOk ks us n m then numB (ptZ ks us) else []
theorem agL_length (ks us : List Int) (n m : Nat) : (agL ks us n m).length = agN ks us n m := by
  unfold agL agN
  split <;> rfl
theorem agL_byte (ks us : List Int) (n m : Nat) : ∀ y ∈ agL ks us n m, 0 ≤ y ∧ y < 256 := by
  unfold agL
  split
  · exact numB_byte _
  · intro y hy; cases hy
theorem ag_or (ks us : List Int) (n m : Nat) : orA (fldL (ptZ ks us) n m) (fldN n m) = 0 ↔ ¬ agOk ks us n m := by
  have h := (orA_fact (fldL_byte (ptZ ks us) n m) (fldN n m)).2
  rw [h]
  unfold fldL fldN agOk
  by_cases hok : two32 n m
  · rw [if_pos hok, if_pos hok, ptZ_mod]
    constructor
    · intro h0 h1
      exact h1.2 (numB_zero (ptZ_range ks us).1 (ptZ_range ks us).2 h0)
    · intro h0 j hj
      have hz : ptZ ks us = 0 := by
        by_cases e : ptZ ks us = 0
        · exact e
        · exact absurd ⟨hok, e⟩ h0
      rw [hz]
      have : ∀ j, j < 32 → (numB 0).getD j 0 = 0 := by decide
      exact this j hj
  · rw [if_neg hok, if_neg hok]
    exact ⟨fun _ h1 => hok h1.1, fun _ j hj => by omega⟩
set_option maxHeartbeats 4000000 in
theorem specAgreed_any (p q : Option Addr) (n m c d : Nat) (ks us : List Int) (w : World) (hl : ks.length = n) (h : BytesIn w p n ks) (h' : BytesIn w q m us) (hb1 : ∀ x ∈ ks, 0 ≤ x ∧ x < 256) (hb2 : ∀ x ∈ us, 0 ≤ x ∧ x < 256) :
    Calls Tryz.prog 40 #[.slice p n c, .slice q m d] w fun e w' => ∃ p' c', e = .returned (.tuple #[.slice p' (agN ks us n m) c', .bool (decide (agOk ks us n m))]) ∧ Own 5 w' w.heap.size w'.heap.size (.slice p' (agN ks us n m) c') (agN ks us n m) (agL ks us n m) ∧ Below w.heap.size w w' := by
  have C1 := specPoint_any p q n m c d ks us w hl h h' hb1 hb2
  have hor := ag_or ks us n m
  have hNle := fldN_le n m
  have hfin : Hid (agOk ks us n m → agN ks us n m = fldN n m ∧ agL ks us n m = fldL (ptZ ks us) n m) := fun k => by
    unfold agN agL fldN fldL
    rw [if_pos k, if_pos k, if_pos k.1, if_pos k.1, ptZ_mod]
    exact ⟨rfl, rfl⟩
  have hno : Hid (¬ agOk ks us n m → agN ks us n m = 0 ∧ agL ks us n m = []) := fun k => by
    unfold agN agL
    rw [if_neg k, if_neg k]
    exact ⟨rfl, rfl⟩
  generalize fldL (ptZ ks us) n m = V at C1 hor hfin
  generalize fldN n m = N at C1 hor hfin hNle
  generalize agL ks us n m = AL at hfin hno ⊢
  generalize agN ks us n m = AN at hfin hno ⊢
  replace hor : Hid (orA V N = 0 ↔ ¬ agOk ks us n m) := hor
  obtain ⟨t, ht⟩ : ∃ t, t = decide (agOk ks us n m) := ⟨_, rfl⟩
  rw [← ht]
  replace ht : Hid (t = decide (agOk ks us n m)) := ht
  clear h h' hb1 hb2 hl
  go_enter Tryz.func40, Tryz.ntmps40
  go_wp2_with (fail)
  refine C1.mono ?_
  rintro e w1 ⟨p1, c1, rfl, o1, b1⟩
  have hin := o1.bytes
  clear C1
  go_wp2_with (fail)
  go_loopw [7, 8] (fun a i wr => ∃ k : Nat, k ≤ N ∧ i = .int .i64 k ∧ a = .int .u8 (orA V k) ∧ wr = w1)
    (fun _ i _ => N - (intOf i).toNat)
  case atStart => exact ⟨0, Nat.zero_le _, rfl, rfl, rfl⟩
  case round =>
    obtain ⟨k, hk, rfl, rfl, rfl⟩ := hrel
    by_cases hlt : k < N
    · obtain ⟨bb, oo, rfl, hc⟩ := hin (by omega)
      have hck := hc k hlt
      have hkl : (k : Int) < (N : Int) := by omega
      have hor1 : bits .or .u8 (orA V k) (V.getD k 0) = orA V (k + 1) := rfl
      have hk33 : (k : Int) < 33 := by omega
      generalize orA V k = a0 at hor1 ⊢
      generalize hv1 : orA V (k + 1) = a1 at hor1
      replace hv1 : Hid (orA V (k + 1) = a1) := hv1
      generalize V.getD k 0 = x0 at hck hor1
      clear hc hin
      go_wp2
      go_roundw
      case rel => exact ⟨k + 1, by omega, by simp, by rw [hv1.out], trivial⟩
      case measure => simp [intOf]; omega
    · obtain rfl : k = N := by omega
      have hnl : ¬ (k : Int) < (k : Int) := by omega
      by_cases hag : agOk ks us n m
      · obtain ⟨rfl, rfl⟩ := hfin.out hag
        have h0 : (orA AL AN == 0) = false := by
          rw [Bool.eq_false_iff]
          intro e
          exact hor.out.1 (by simpa using e) hag
        have ht1 : true = t := by rw [ht.out]; exact (decide_eq_true hag).symm
        subst ht1
        clear hfin hno hin
        generalize orA AL AN = a0 at h0 ⊢
        go_wp2
        go_ret2
        exact ⟨_, _, rfl, o1, b1⟩
      · obtain ⟨rfl, rfl⟩ := hno.out hag
        have h0 : orA V k = 0 := hor.out.2 hag
        have ht1 : false = t := by rw [ht.out]; exact (decide_eq_false hag).symm
        subst ht1
        rw [h0]
        have hown0 : (wr.alloc (.cells #[] 5)).ownsRow w.heap.size 5 1 (.slice (some ⟨wr.heap.size, 0, none⟩) 0 0) 0 (([] : List Int).map (Value.int .u8)) := World.ownsRow_made wr #[] 0 b1.size (by unfold maxLen; omega) rfl
        have hb0 : Below wr.heap.size wr (wr.alloc (.cells #[] 5)) := (Below.refl _ _).alloc (Nat.le_refl _) _
        clear hfin hno hin h0
        go_wp2
        go_ret2
        exact ⟨_, _, rfl, .of hown0, below_on b1 hb0⟩
theorem agree_inj : ∀ {xs ys : List Int}, (∀ x ∈ xs, 0 ≤ x ∧ x < 256) → (∀ x ∈ ys, 0 ≤ x ∧ x < 256) → xs.map (fun n => UInt8.ofNat n.toNat) = ys.map (fun n => UInt8.ofNat n.toNat) → xs = ys
  | [], [], _, _, _ => rfl
  | [], y :: ys, _, _, h => by simp at h
  | x :: xs, [], _, _, h => by simp at h
  | x :: xs, y :: ys, hx, hy, h => by
    simp only [List.map_cons, List.cons.injEq] at h
    have h1 := hx x (by simp)
    have h2 := hy y (by simp)
    have e := congrArg UInt8.toNat h.1
    simp only [UInt8.toNat_ofNat'] at e
    have : x = y := by omega
    rw [this, agree_inj (fun z hz => hx z (by simp [hz])) (fun z hz => hy z (by simp [hz])) h.2]
theorem same_iff {xs ys : List Int} (hx : ∀ x ∈ xs, 0 ≤ x ∧ x < 256) (hy : ∀ x ∈ ys, 0 ≤ x ∧ x < 256) : ((strOfNums xs).toList == (strOfNums ys).toList) = decide (xs = ys) := by
  rw [Lib.strOfNums_toList, Lib.strOfNums_toList]
  by_cases h : xs = ys
  · subst h; simp
  · rw [decide_eq_false h]
    apply Bool.eq_false_iff.2
    intro he
    exact h (agree_inj hx hy (eq_of_beq he))
set_option maxHeartbeats 4000000 in
theorem implAgreed_any (p q : Option Addr) (n m c d : Nat) (ks us : List Int) (w : World) (hl : ks.length = n) (h : BytesIn w p n ks) (h' : BytesIn w q m us) (hb1 : ∀ x ∈ ks, 0 ≤ x ∧ x < 256) (hb2 : ∀ x ∈ us, 0 ≤ x ∧ x < 256) (hd : m ≤ d) :
    Calls Tryz.prog 36 #[.slice p n c, .slice q m d] w fun e w' => ∃ p' c', e = .returned (.tuple #[.slice p' (agN ks us n m) c', .bool (decide (agOk ks us n m))]) ∧ Own 5 w' w.heap.size w'.heap.size (.slice p' (agN ks us n m) c') (agN ks us n m) (agL ks us n m) ∧ Below w.heap.size w w' := by
  have C1 := implPoint_any p q n m c d ks us w hl h h' hb1 hb2 hd
  clear h h' hb1 hb2 hl hd
  by_cases hok : two32 n m
  · have hN : fldN n m = 32 := if_pos hok
    have hV : fldL (ptZ ks us) n m = numB (ptZ ks us) := by unfold fldL; rw [if_pos hok, ptZ_mod]
    rw [hN, hV] at C1
    have C2 := fun X => implFieldNum_any 0 X (by decide)
    have hn0 : numB (nnZ 0) = numB 0 := rfl
    simp only [hn0] at C2
    have C3 := fun (p q : Option Addr) (c d : Nat) (X : World) (h : BytesIn X p 32 (numB (ptZ ks us))) (h' : BytesIn X q 32 (numB 0)) => implSame_any p q 32 32 c d (numB (ptZ ks us)) (numB 0) X rfl rfl h h'
    rw [same_iff (numB_byte _) (numB_byte _)] at C3
    by_cases hz : ptZ ks us = 0
    · have hag : ¬ agOk ks us n m := fun k => k.2 hz
      have e1 : agN ks us n m = 0 := if_neg hag
      have e2 : agL ks us n m = [] := if_neg hag
      have e3 : decide (agOk ks us n m) = false := decide_eq_false hag
      have e4 : decide (numB (ptZ ks us) = numB 0) = true := by rw [hz]; exact decide_eq_true rfl
      rw [e1, e2, e3]
      rw [e4] at C3
      generalize numB (ptZ ks us) = V at C1 C3
      generalize numB 0 = V0 at C2 C3
      clear hag e1 e2 e3 e4 hz hn0 hV hN hok
      go_enter Tryz.func36, Tryz.ntmps36
      go_wp2_with (fail)
      refine C1.mono ?_
      rintro e w1 ⟨p1, c1, rfl, o1, b1⟩
      go_wp2_with (fail)
      refine (C2 _).mono ?_
      rintro e w2 ⟨p2, c2, rfl, o2, b2⟩
      have C4 := C3 p1 p2 c1 c2 w2 (o1.on b2).bytes o2.bytes
      clear C3
      go_wp2_with (fail)
      refine C4.mono ?_
      rintro e w3 ⟨rfl, b3⟩
      go_wp2_with (fail)
      go_ret2
      exact ⟨_, _, rfl, ⟨⟨rfl, .inl ⟨rfl, rfl⟩⟩, fun k hk => by cases hk⟩, below_on (below_on b1 b2) b3⟩
    · have hag : agOk ks us n m := ⟨hok, hz⟩
      have e1 : agN ks us n m = 32 := if_pos hag
      have e2 : agL ks us n m = numB (ptZ ks us) := if_pos hag
      have e3 : decide (agOk ks us n m) = true := decide_eq_true hag
      have e4 : decide (numB (ptZ ks us) = numB 0) = false := by
        refine decide_eq_false fun e => hz ?_
        rw [← numF_numB (ptZ_range ks us).1 (ptZ_range ks us).2, e]
        decide
      rw [e1, e2, e3]
      rw [e4] at C3
      generalize numB (ptZ ks us) = V at C1 C3 ⊢
      generalize numB 0 = V0 at C2 C3
      clear hag e1 e2 e3 e4 hz hn0 hV hN hok
      go_enter Tryz.func36, Tryz.ntmps36
      go_wp2_with (fail)
      refine C1.mono ?_
      rintro e w1 ⟨p1, c1, rfl, o1, b1⟩
      go_wp2_with (fail)
      refine (C2 _).mono ?_
      rintro e w2 ⟨p2, c2, rfl, o2, b2⟩
      have C4 := C3 p1 p2 c1 c2 w2 (o1.on b2).bytes o2.bytes
      clear C3
      go_wp2_with (fail)
      refine C4.mono ?_
      rintro e w3 ⟨rfl, b3⟩
      go_wp2_with (fail)
      go_ret2
      have o3 := (o1.on b2).on b3
      exact ⟨_, _, rfl, ⟨o3.1, fun k hk => Nat.lt_of_lt_of_le (o3.2 k hk) (Nat.le_trans b2.size b3.size)⟩, below_on (below_on b1 b2) b3⟩
  · have hN : fldN n m = 0 := if_neg hok
    have hV : fldL (ptZ ks us) n m = [] := if_neg hok
    rw [hN, hV] at C1
    have hag : ¬ agOk ks us n m := fun k => hok k.1
    have e1 : agN ks us n m = 0 := if_neg hag
    have e2 : agL ks us n m = [] := if_neg hag
    have e3 : decide (agOk ks us n m) = false := decide_eq_false hag
    rw [e1, e2, e3]
    clear hag e1 e2 e3 hV hN hok
    go_enter Tryz.func36, Tryz.ntmps36
    go_wp2_with (fail)
    refine C1.mono ?_
    rintro e w1 ⟨p1, c1, rfl, o1, b1⟩
    go_wp2_with (fail)
    go_ret2
    exact ⟨_, _, rfl, ⟨⟨rfl, .inl ⟨rfl, rfl⟩⟩, fun k hk => by cases hk⟩, b1⟩
def noteM (n : Nat) : Nat := if n ≤ 94 then (n + 33) / 32 * 32 else (n + 97) / 96 * 96
def noteN (n : Nat) : Nat := if n ≤ 200 then noteM n else 0
def noteL (xs : List Int) : List Int := if xs.length ≤ 200 then [0, (xs.length : Int)] ++ xs ++ List.replicate (noteM xs.length - (xs.length + 2)) 0 else []
theorem noteM_le (n : Nat) : n + 2 ≤ noteM n ∧ noteM n ≤ n + 97 := by
  unfold noteM
  split <;> omega
theorem noteN_le (n : Nat) : noteN n ≤ 297 := by
  unfold noteN
  have := noteM_le n
  split <;> omega
theorem noteL_length (xs : List Int) : (noteL xs).length = noteN xs.length := by
  unfold noteL noteN
  have := noteM_le xs.length
  split
  · simp; omega
  · rfl
theorem noteL_byte {xs : List Int} (hb : ∀ x ∈ xs, 0 ≤ x ∧ x < 256) : ∀ x ∈ noteL xs, 0 ≤ x ∧ x < 256 := by
  unfold noteL
  split
  · intro x hx
    simp only [List.mem_append, List.mem_cons, List.not_mem_nil, or_false, List.mem_replicate] at hx
    rcases hx with ((h | h) | h) | h
    · omega
    · omega
    · exact hb x h
    · omega
  · intro x hx; cases hx
theorem great2 {n : Nat} (h : n ≤ 200) : fitN (n : Int) 2 = 2 ∧ (fitL (n : Int) 2).reverse = [0, (n : Int)] := by
  have e : fitN (n : Int) 2 = 2 := by rw [fit_yes ⟨by omega, by omega, by omega⟩]; rfl
  refine ⟨e, ?_⟩
  rw [fitL, e]
  simp [littleL, List.range, List.range.loop]
  omega
set_option maxHeartbeats 4000000 in
theorem specPadded_any (p : Option Addr) (n c : Nat) (xs : List Int) (w : World) (hn0 : n ≤ 9223372036854775807) (hx : xs.length = n) (h : BytesIn w p n xs) :
    Calls Tryz.prog 41 #[.slice p n c] w fun e w' => ∃ p' c', e = .returned (.slice p' (noteN n) c') ∧ Own 5 w' w.heap.size w'.heap.size (.slice p' (noteN n) c') (noteN n) (noteL xs) ∧ Below w.heap.size w w' := by
  obtain ⟨i0, hi, hz0, hz1, hz2⟩ := info_parts infoByte
  unfold noteN noteL
  rw [hx]
  by_cases hn : n ≤ 200
  · rw [if_pos hn, if_pos hn]
    have C := fun w => specGreat_any (n : Int) 2 w (by omega)
    rw [(great2 hn).1, (great2 hn).2] at C
    have c0 : ¬ (200 : Int) < (n : Int) := by omega
    have hM := noteM_le n
    obtain ⟨s, hs, hstep, hmod⟩ : ∃ s : Nat, (s = 32 ∨ s = 96) ∧ Hid ((n ≤ 94 ∧ s = 32) ∨ (¬ n ≤ 94 ∧ s = 96)) ∧ Hid (∀ j : Nat, n + 2 ≤ j → j ≤ noteM n → (j % s = 0 ↔ j = noteM n)) := by
      unfold noteM
      by_cases h94 : n ≤ 94
      · refine ⟨32, .inl rfl, .inl ⟨h94, rfl⟩, fun j h1 h2 => ?_⟩
        rw [if_pos h94] at h2 ⊢
        omega
      · refine ⟨96, .inr rfl, .inr ⟨h94, rfl⟩, fun j h1 h2 => ?_⟩
        rw [if_neg h94] at h2 ⊢
        omega
    generalize noteM n = M at hM hmod ⊢
    clear hs
    go_enter Tryz.func41, Tryz.ntmps41
    go_wp2_with (fail)
    refine (C _).mono ?_
    rintro e w1 ⟨p1, c1, rfl, r1, b1⟩
    have h1 := in_below h b1
    have ho := r1.1
    have hz := b1.size
    clear C r1 h
    rcases hstep.out with ⟨h94, rfl⟩ | ⟨h94, rfl⟩
    · have g1 : ¬ (96 : Int) < ((2 + n : Nat) : Int) := by omega
      go_wp2_with (at_builtin; refine list_spreadA hi hz0 hz1 hz2 (.tmp 11) (.tmp 12) 22 Tryz.underlying22 ho h1 hx (by omega) (by omega) b1.size (by rfl) (by rfl) (by rfl) (by rfl) ?_; intro p2 cap2 w2 ho2 hb2; (try simp only [List.cons_append, List.nil_append] at ho2))
      have bel2 := b1.trans hb2
      clear h1 ho hb2 b1 hz g1
      go_loopw [3] (fun v wr => ∃ k m : Nat, Hid (m = n + 2 + k) ∧ m ≤ M ∧ wr.ownsRow w.heap.size 5 1 v m (([0, (n : Int)] ++ xs ++ List.replicate k 0).map (Value.int .u8)) ∧ Below w.heap.size w wr)
        (fun v _ => match v with | .slice _ m _ => M - m | _ => 0)
      case atStart => exact ⟨0, 2 + n, by unfold Hid; omega, by omega, by simpa using ho2, bel2⟩
      case round =>
        clear ho2 bel2
        obtain ⟨k, m, hm, hmM, hown, hbel⟩ := hrel
        have hsz := hbel.size
        obtain ⟨q, cq, hv⟩ := owns_form hown
        subst hv
        have hmb : m ≤ 5000 := by omega
        have hmk := hmod.out m (by have := hm.out; omega) hmM
        by_cases hlt : m < M
        · have d1 : ((m : Int) % 32 != 0) = true := by
            have : (m : Int) % 32 ≠ 0 := by omega
            simpa using this
          have HX : Hid ([0, (n : Int)] ++ xs ++ List.replicate k 0 ++ [0] = [0, (n : Int)] ++ xs ++ List.replicate (k + 1) 0) := by
            rw [Hid, List.append_assoc _ _ [0], ← List.replicate_succ']
          clear hmk
          go_wp2_with (at_builtin; refine list_push hi hz0 hz1 hz2 (.tmp 22) (.tmp 23) 22 Tryz.underlying22 _ hown (by omega) hsz (by rfl) (by rfl) (by rfl) (by rfl) ?_; intro g3 cap3 w3 ho3 hb3; rw [HX.out] at ho3)
          go_roundw
          case rel => exact ⟨k + 1, m + 1, by have := hm.out; rw [Hid]; omega, by omega, ho3, hbel.trans hb3⟩
          case measure => show M - (m + 1) < M - m; omega
        · obtain rfl : m = M := by omega
          have d1 : ((m : Int) % 32 != 0) = false := by
            have : (m : Int) % 32 = 0 := by omega
            simp [this]
          have ek : k = m - (n + 2) := by have := hm.out; omega
          clear hmk
          go_wp2
          go_ret
          rw [ek] at hown
          exact ⟨_, _, rfl, .of hown, hbel⟩
    · have g1 : (96 : Int) < ((2 + n : Nat) : Int) := by omega
      have g2 : decide ((96 : Int) < 2 + (n : Int)) = true := decide_eq_true (by omega)
      go_wp2_with (at_builtin; refine list_spreadA hi hz0 hz1 hz2 (.tmp 11) (.tmp 12) 22 Tryz.underlying22 ho h1 hx (by omega) (by omega) b1.size (by rfl) (by rfl) (by rfl) (by rfl) ?_; intro p2 cap2 w2 ho2 hb2; (try simp only [List.cons_append, List.nil_append] at ho2))
      have bel2 := b1.trans hb2
      clear h1 ho hb2 b1 hz g1
      go_loopw [3] (fun v wr => ∃ k m : Nat, Hid (m = n + 2 + k) ∧ m ≤ M ∧ wr.ownsRow w.heap.size 5 1 v m (([0, (n : Int)] ++ xs ++ List.replicate k 0).map (Value.int .u8)) ∧ Below w.heap.size w wr)
        (fun v _ => match v with | .slice _ m _ => M - m | _ => 0)
      case atStart => exact ⟨0, 2 + n, by unfold Hid; omega, by omega, by simpa using ho2, bel2⟩
      case round =>
        clear ho2 bel2
        obtain ⟨k, m, hm, hmM, hown, hbel⟩ := hrel
        have hsz := hbel.size
        obtain ⟨q, cq, hv⟩ := owns_form hown
        subst hv
        have hmb : m ≤ 5000 := by omega
        have hmk := hmod.out m (by have := hm.out; omega) hmM
        by_cases hlt : m < M
        · have d1 : ((m : Int) % 96 != 0) = true := by
            have : (m : Int) % 96 ≠ 0 := by omega
            simpa using this
          have HX : Hid ([0, (n : Int)] ++ xs ++ List.replicate k 0 ++ [0] = [0, (n : Int)] ++ xs ++ List.replicate (k + 1) 0) := by
            rw [Hid, List.append_assoc _ _ [0], ← List.replicate_succ']
          clear hmk
          go_wp2_with (at_builtin; refine list_push hi hz0 hz1 hz2 (.tmp 22) (.tmp 23) 22 Tryz.underlying22 _ hown (by omega) hsz (by rfl) (by rfl) (by rfl) (by rfl) ?_; intro g3 cap3 w3 ho3 hb3; rw [HX.out] at ho3)
          go_roundw
          case rel => exact ⟨k + 1, m + 1, by have := hm.out; rw [Hid]; omega, by omega, ho3, hbel.trans hb3⟩
          case measure => show M - (m + 1) < M - m; omega
        · obtain rfl : m = M := by omega
          have d1 : ((m : Int) % 96 != 0) = false := by
            have : (m : Int) % 96 = 0 := by omega
            simp [this]
          have ek : k = m - (n + 2) := by have := hm.out; omega
          clear hmk
          go_wp2
          go_ret
          rw [ek] at hown
          exact ⟨_, _, rfl, .of hown, hbel⟩
  · rw [if_neg hn, if_neg hn]
    have c1 : (200 : Int) < (n : Int) := by omega
    clear h hx
    go_enter Tryz.func41, Tryz.ntmps41
    go_wp2
    go_ret
    exact ⟨_, _, rfl, .of (World.ownsRow_made w #[] 0 (Nat.le_refl _) (by unfold maxLen; omega) rfl), (Below.refl _ _).alloc (Nat.le_refl _) _⟩
def Cells (w : World) (g : Nat) (A : Array Value) : Prop := g < w.heap.size ∧ ∀ i, w.cell? ⟨g, i, none⟩ = A[i]? ∧ w.frozen? ⟨g, i, none⟩ = false
theorem Cells.made (w : World) (A : Array Value) (T : TypeId) : Cells (w.alloc (.cells A T)) w.heap.size A := by
  have e := heap_made w (.cells A T)
  refine ⟨by simp, fun i => ⟨by simp only [World.cell?, e]; rfl, ?_⟩⟩
  simp only [World.frozen?, e]
  simp
theorem Cells.on {w w' : World} {g : Nat} {A : Array Value} (h : Cells w g A) (b : Below w.heap.size w w') : Cells w' g A :=
  ⟨Nat.lt_of_lt_of_le h.1 b.size, fun i => ⟨(b.cell h.1).trans (h.2 i).1, (b.frozen h.1).trans (h.2 i).2⟩⟩
theorem Cells.other {w : World} {g : Nat} {A : Array Value} (h : Cells w g A) {a : Addr} (v : Value) (ha : g ≠ a.block) : Cells (w.setCell a v) g A := by
  have e := Below.heap_setCell w a v g ha
  refine ⟨by simpa using h.1, fun i => ⟨?_, ?_⟩⟩
  · rw [← (h.2 i).1]; exact World.cell?_of_block (w := w) e
  · rw [← (h.2 i).2]; exact World.frozen?_of_block (w := w) e
theorem Cells.set {w : World} {g : Nat} {A : Array Value} (h : Cells w g A) (k : Nat) (hk : k < A.size) (v : Value) : Cells (w.setCell ⟨g, k, none⟩ v) g (A.setIfInBounds k v) := by
  refine ⟨by simpa using h.1, fun i => ⟨?_, ?_⟩⟩
  · by_cases e : k = i
    · subst e
      rw [World.cell?_setCell_same w _ _ (by rw [(h.2 k).1]; exact Array.getElem?_eq_getElem hk)]
      simp [hk]
    · rw [World.cell?_setCell_other _ _ _ _ (by intro x; simp only [Addr.mk.injEq] at x; omega), (h.2 i).1, Array.getElem?_setIfInBounds_ne e]
  · rw [World.frozen?_setCell]; exact (h.2 i).2
theorem Cells.grown {w w' : World} {g : Nat} {A : Array Value} {r : Option Nat} (h : Cells w g A) (hg : w.grownBy w' r) (hr : some g ≠ r) : Cells w' g A := by
  have e := hg.block g h.1 hr
  exact ⟨Nat.lt_of_lt_of_le h.1 hg.size, fun i => ⟨(World.cell?_of_block (w := w) e).trans (h.2 i).1, (World.frozen?_of_block (w := w) e).trans (h.2 i).2⟩⟩
theorem Cells.far {e' : Nat} {w w' : World} {g lo hi : Nat} {u : Value} {m : Nat} {ys : List Int} {A : Array Value} (h : Cells w g A) (hg : w.grownBy w' u.ownBlock) (hu : Own e' w lo hi u m ys) (hd : g < lo ∨ hi ≤ g) : Cells w' g A :=
  h.grown hg fun x => by have h1 := hu.2 g x.symm; have h2 := (hu.1.lt g x.symm).1; omega
theorem Own.set_below {e : Nat} {w : World} {lo hi : Nat} {v : Value} {n : Nat} {xs : List Int} (h : Own e w lo hi v n xs) {a : Addr} (ha : a.block < lo) (u : Value) : Own e (w.setCell a u) lo hi v n xs := ⟨ownsRow_setCell_below h.1 ha u, h.2⟩
set_option maxHeartbeats 2000000 in
theorem eqLetter_any (e e' : Int) (p q p' q' : Option Addr) (n c m d n' c' m' d' : Nat) (xs ys xs' ys' : List Int) (w : World) (hn : n ≤ 9223372036854775807) (hm : m ≤ 9223372036854775807) (hx : xs.length = n) (hy : ys.length = m) (hx' : xs'.length = n') (hy' : ys'.length = m')
    (h1 : BytesIn w p n xs) (h2 : BytesIn w q m ys) (h3 : BytesIn w p' n' xs') (h4 : BytesIn w q' m' ys') :
    Calls Tryz.prog 20 #[.agg #[.int .i64 e, .slice p n c, .slice q m d], .agg #[.int .i64 e', .slice p' n' c', .slice q' m' d']] w fun z w' => z = .returned (.bool (decide (e = e' ∧ xs = xs' ∧ ys = ys'))) ∧ Below w.heap.size w w' := by
  have kA : ∀ o1 o2, Below w.heap.size w ((w.alloc o1).alloc o2) := fun o1 o2 => made_below _ _ (made_below _ _ (Below.refl _ _))
  have sz : ∀ (W : World) o, (W.alloc o).heap.size = W.heap.size + 1 := fun W o => by simp
  obtain ⟨R, hR⟩ : ∃ R : Bool, R = decide (e = e' ∧ xs = xs' ∧ ys = ys') := ⟨_, rfl⟩
  rw [← hR]
  replace hR : Hid (R = decide (e = e' ∧ xs = xs' ∧ ys = ys')) := hR
  by_cases he : e = e'
  · subst he
    go_enter Tryz.func20, Tryz.ntmps20
    go_wp2_with (fail)
    refine (eqByteS_any p p' n n' c c' xs xs' _ hn hx hx' (in_below h1 (kA _ _)) (in_below h3 (kA _ _))).mono ?_
    rintro z w1 ⟨rfl, b1⟩
    have C0 := (Cells.made w _ _).on (made_below _ _ b1)
    have C1 := (Cells.made (w.alloc _) _ _).on b1
    have k1 := made_below _ _ (made_below _ _ b1)
    rw [sz] at C1
    clear b1 kA sz
    by_cases hxx : xs = xs'
    · rw [decide_eq_true hxx]
      have l1 : w1.cell? ⟨w.heap.size, 2, none⟩ = some (.slice q m d) := (C0.2 2).1
      have l2 : w1.cell? ⟨w.heap.size + 1, 2, none⟩ = some (.slice q' m' d') := (C1.2 2).1
      replace hxx : Hid (xs = xs') := hxx
      go_wp2_with (fail)
      refine (eqByteS_any q q' m m' d d' ys ys' _ hm hy hy' (in_below h2 k1) (in_below h4 k1)).mono ?_
      rintro z w2 ⟨rfl, b2⟩
      have b3 := below_on k1 b2
      by_cases hyy : ys = ys'
      · have hr : R = true := by rw [hR.out]; simp [hxx.out, hyy]
        rw [decide_eq_true hyy]
        clear hyy
        go_wp2_with (fail)
        go_ret
        exact ⟨by rw [hr]; rfl, b3⟩
      · have hr : R = false := hR.out.trans (decide_eq_false fun k => hyy k.2.2)
        rw [decide_eq_false hyy]
        clear hyy
        go_wp2_with (fail)
        go_ret
        exact ⟨by rw [hr]; rfl, b3⟩
    · have hr : R = false := hR.out.trans (decide_eq_false fun k => hxx k.2.1)
      rw [decide_eq_false hxx]
      clear hxx
      go_wp2_with (fail)
      go_ret
      exact ⟨by rw [hr]; rfl, k1⟩
  · have hr : R = false := hR.out.trans (decide_eq_false fun k => he k.1)
    have hd : (e != e') = true := by simpa using he
    have k0 := kA (.cells #[.int .i64 e, .slice p n c, .slice q m d] 27) (.cells #[.int .i64 e', .slice p' n' c', .slice q' m' d'] 27)
    go_enter Tryz.func20, Tryz.ntmps20
    go_wp2_with (fail)
    go_ret
    exact ⟨by rw [hr]; rfl, k0⟩
set_option maxHeartbeats 2000000 in
theorem markLetter_own (lo hi lo' hi' : Nat) (e : Int) (p q : Option Addr) (n c m d : Nat) (xs ys : List Int) (k : Int) (w : World) (hn : n ≤ 1048576) (hm : m ≤ 1048576) (hk : 0 ≤ k) (hk2 : k ≤ 1048576) (hd : hi ≤ lo' ∨ hi' ≤ lo) (h0 : hi ≤ w.heap.size)
    (h : Own 5 w lo hi (.slice p n c) n xs) (h' : Own 5 w lo' hi' (.slice q m d) m ys) :
    Calls Tryz.prog 23 #[.agg #[.int .i64 e, .slice p n c, .slice q m d], .int .i64 k] w fun z w' => z = .returned (.int .i64 (k + n + m)) ∧ ∃ wa w1, Below w.heap.size w wa ∧ wa.grownBy w1 (Value.ownBlock (.slice p n c)) ∧ w1.grownBy w' (Value.ownBlock (.slice q m d)) ∧
      Own 5 w' lo hi (.slice p n c) n (marks k n) ∧ Own 5 w' lo' hi' (.slice q m d) m (marks (k + n) m) := by
  have kA : ∀ o, Below w.heap.size w (w.alloc o) := fun o => made_below _ _ (Below.refl _ _)
  go_enter Tryz.func23, Tryz.ntmps23
  go_wp2_with (fail)
  refine (markByteS_own lo hi p n c xs k _ (by omega) hk (by omega) (h.on (kA _))).mono ?_
  rintro z w1 ⟨rfl, r1, g1⟩
  have C1 := (Cells.made w _ _).grown g1 (fun x => by have := h.2 _ x.symm; omega)
  have r2 := (h'.on (kA _)).far g1 (h.on (kA _)) hd.symm
  have l2 : w1.cell? ⟨w.heap.size, 2, none⟩ = some (.slice q m d) := (C1.2 2).1
  obtain ⟨k', hk'⟩ : ∃ k' : Int, k' = k + n := ⟨_, rfl⟩
  have b1 : 0 ≤ k' ∧ k' ≤ 1099511627776 := by omega
  rw [← hk']
  replace hk' : Hid (k' = k + n) := hk'
  go_wp2_with (fail)
  refine (markByteS_own lo' hi' q m d ys k' _ (by omega) b1.1 b1.2 r2).mono ?_
  rintro z w2 ⟨rfl, r3, g2⟩
  have r4 := r1.far g2 r2 hd
  go_wp2_with (fail)
  go_ret
  rw [← hk'.out]
  exact ⟨rfl, _, w1, kA _, g1, g2, r4, r3⟩
set_option maxHeartbeats 2000000 in
theorem heldLetter_any (e : Int) (p q : Option Addr) (n c m d : Nat) (k : Int) (w : World) (hn : n ≤ 1048576) (hm : m ≤ 1048576) (hk : 0 ≤ k) (hk2 : k ≤ 1048576) (h : BytesIn w p n (marks k n)) (h' : BytesIn w q m (marks (k + n) m)) :
    Calls Tryz.prog 24 #[.agg #[.int .i64 e, .slice p n c, .slice q m d], .int .i64 k] w fun z w' => z = .returned (.int .i64 (k + n + m)) ∧ Below w.heap.size w w' := by
  have kA : ∀ o, Below w.heap.size w (w.alloc o) := fun o => made_below _ _ (Below.refl _ _)
  go_enter Tryz.func24, Tryz.ntmps24
  go_wp2_with (fail)
  refine (heldByteS_any p n c k _ (by omega) hk (by omega) (in_below h (kA _))).mono ?_
  rintro z w1 ⟨rfl, b1⟩
  have C1 := (Cells.made w _ _).on b1
  have k1 := made_below _ _ b1
  clear b1 kA
  have l2 : w1.cell? ⟨w.heap.size, 2, none⟩ = some (.slice q m d) := (C1.2 2).1
  obtain ⟨k', hk'⟩ : ∃ k' : Int, k' = k + n := ⟨_, rfl⟩
  have b1 : 0 ≤ k' ∧ k' ≤ 1099511627776 := by omega
  have b0 : ¬ k' < 0 := by omega
  rw [← hk'] at h' ⊢
  replace hk' : Hid (k' = k + n) := hk'
  go_wp2_with (fail)
  refine (heldByteS_any q m d k' _ (by omega) b1.1 b1.2 (in_below h' k1)).mono ?_
  rintro z w2 ⟨rfl, b2⟩
  have b3 := below_on k1 b2
  obtain ⟨k2, hk2⟩ : ∃ k2 : Int, k2 = k' + m := ⟨_, rfl⟩
  have b4 : ¬ k2 < 0 := by omega
  rw [← hk2]
  replace hk2 : Hid (k2 = k' + m) := hk2
  go_wp2_with (fail)
  go_ret
  rw [← hk'.out, ← hk2.out]
  exact ⟨rfl, b3⟩
theorem Own.past {e' : Nat} {w wa w1 w' : World} {lo hi lo' hi' lo0 hi0 : Nat} {u v v' : Value} {n m k : Nat} {xs ys zs : List Int} (h : Own e' w lo0 hi0 u k zs) (b : Below w.heap.size w wa) (g1 : wa.grownBy w1 v.ownBlock) (g2 : w1.grownBy w' v'.ownBlock)
    (hp : Own e' w lo hi v n xs) (hq : Own e' w lo' hi' v' m ys) (hd : hi ≤ lo' ∨ hi' ≤ lo) (d1 : hi0 ≤ lo ∨ hi ≤ lo0) (d2 : hi0 ≤ lo' ∨ hi' ≤ lo0) : Own e' w' lo0 hi0 u k zs :=
  ((h.on b).far g1 (hp.on b) d1).far g2 ((hq.on b).far g1 (hp.on b) hd.symm) d2
theorem marks_below {e' : Nat} {a w wa w1 w' : World} {lo hi lo' hi' : Nat} {v v' : Value} {n m : Nat} {xs ys : List Int} (h : Below a.heap.size a w) (b : Below w.heap.size w wa) (g1 : wa.grownBy w1 v.ownBlock) (g2 : w1.grownBy w' v'.ownBlock)
    (hp : Own e' w lo hi v n xs) (hq : Own e' w lo' hi' v' m ys) (hd : hi ≤ lo' ∨ hi' ≤ lo) (h1 : a.heap.size ≤ lo) (h2 : a.heap.size ≤ lo') : Below a.heap.size a w' :=
  below_mark (below_mark (below_on h b) g1 (hp.on b) h1) g2 ((hq.on b).far g1 (hp.on b) hd.symm) h2
theorem Cells.past {e' : Nat} {w wa w1 w' : World} {g lo hi lo' hi' : Nat} {v v' : Value} {n m : Nat} {xs ys : List Int} {A : Array Value} (h : Cells w g A) (b : Below w.heap.size w wa) (g1 : wa.grownBy w1 v.ownBlock) (g2 : w1.grownBy w' v'.ownBlock)
    (hp : Own e' w lo hi v n xs) (hq : Own e' w lo' hi' v' m ys) (hd : hi ≤ lo' ∨ hi' ≤ lo) (d1 : g < lo ∨ hi ≤ g) (d2 : g < lo' ∨ hi' ≤ g) : Cells w' g A :=
  ((h.on b).far g1 (hp.on b) d1).far g2 ((hq.on b).far g1 (hp.on b) hd.symm) d2
theorem marks_size {w wa w1 w' : World} {r r' : Option Nat} (b : Below w.heap.size w wa) (g1 : wa.grownBy w1 r) (g2 : w1.grownBy w' r') : w.heap.size ≤ w'.heap.size := Nat.le_trans b.size (Nat.le_trans g1.size g2.size)
def letOk (e : Int) (n m : Nat) : Prop := 0 ≤ e ∧ e ≤ 65535 ∧ n = 32 ∧ 16 ≤ m ∧ m ≤ 1516
instance (e : Int) (n m : Nat) : Decidable (letOk e n m) := by unfold letOk; infer_instance
theorem in_yes (x lo hi : Int) (X : World) (h : lo ≤ x ∧ x ≤ hi) : Calls Tryz.prog 42 #[.int .i64 x, .int .i64 lo, .int .i64 hi] X fun e w' => e = .returned (.bool true) ∧ w' = X := by
  have h1 := h.1
  have h2 := h.2
  go_enter Tryz.func42, Tryz.ntmps42
  go_wp2_with (fail)
  go_ret
  exact ⟨rfl, rfl⟩
theorem in_no (x lo hi : Int) (X : World) (h : ¬ (lo ≤ x ∧ x ≤ hi)) : Calls Tryz.prog 42 #[.int .i64 x, .int .i64 lo, .int .i64 hi] X fun e w' => e = .returned (.bool false) ∧ w' = X := by
  by_cases h1 : lo ≤ x
  · have h2 : ¬ x ≤ hi := fun k => h ⟨h1, k⟩
    clear h
    go_enter Tryz.func42, Tryz.ntmps42
    go_wp2_with (fail)
    go_ret
    exact ⟨by simp, rfl⟩
  · clear h
    go_enter Tryz.func42, Tryz.ntmps42
    go_wp2_with (fail)
    go_ret
    exact ⟨by simp, rfl⟩
set_option maxHeartbeats 2000000 in
theorem implLetterOk_any (e : Int) (p q : Option Addr) (n c m d : Nat) (w : World) (hm : m ≤ 9223372036854775807) :
    Calls Tryz.prog 15 #[.agg #[.int .i64 e, .slice p n c, .slice q m d]] w fun z w' => z = .returned (.bool (decide (letOk e n m))) ∧ Below w.heap.size w w' := by
  have kA : ∀ o, Below w.heap.size w (w.alloc o) := fun o => made_below _ _ (Below.refl _ _)
  obtain ⟨R, hR⟩ : ∃ R : Bool, R = decide (letOk e n m) := ⟨_, rfl⟩
  rw [← hR]
  replace hR : Hid (R = decide (letOk e n m)) := hR
  by_cases h1 : 0 ≤ e
  · by_cases h2 : e ≤ 65535
    · by_cases h3 : n = 32
      · subst h3
        by_cases h4 : (16 : Int) ≤ (m : Int)
        · by_cases h5 : (m : Int) - 16 ≤ 1500
          · have hr : R = true := by rw [hR.out]; exact decide_eq_true ⟨h1, h2, rfl, by omega, by omega⟩
            clear hR
            subst hr
            go_enter Tryz.func15, Tryz.ntmps15
            go_wp2_with (fail)
            go_ret
            exact ⟨rfl, kA _⟩
          · have hr : R = false := by rw [hR.out]; exact decide_eq_false fun k => h5 (by have := k.2.2.2.2; omega)
            clear hR
            subst hr
            go_enter Tryz.func15, Tryz.ntmps15
            go_wp2_with (fail)
            go_ret
            exact ⟨rfl, kA _⟩
        · have hr : R = false := by rw [hR.out]; exact decide_eq_false fun k => h4 (by have := k.2.2.2.1; omega)
          clear hR
          subst hr
          go_enter Tryz.func15, Tryz.ntmps15
          go_wp2_with (fail)
          go_ret
          exact ⟨rfl, kA _⟩
      · have hr : R = false := by rw [hR.out]; exact decide_eq_false fun k => h3 k.2.2.1
        have h2' : ((n : Int) == 32) = false := by simp; omega
        clear hR h3
        subst hr
        go_enter Tryz.func15, Tryz.ntmps15
        go_wp2_with (fail)
        go_ret
        exact ⟨rfl, kA _⟩
    · have hr : R = false := by rw [hR.out]; exact decide_eq_false fun k => h2 k.2.1
      clear hR
      subst hr
      go_enter Tryz.func15, Tryz.ntmps15
      go_wp2_with (fail)
      go_ret
      exact ⟨rfl, kA _⟩
  · have hr : R = false := by rw [hR.out]; exact decide_eq_false fun k => h1 k.1
    clear hR
    subst hr
    go_enter Tryz.func15, Tryz.ntmps15
    go_wp2_with (fail)
    go_ret
    exact ⟨rfl, kA _⟩
def headN (e : Int) (n : Nat) : Nat := 1 + fitN e 2 + n
def headL (e : Int) (xs : List Int) : List Int := [1] ++ (fitL e 2).reverse ++ xs
def lbN (e : Int) (n m : Nat) : Nat := if letOk e n m then 35 + m else 0
def lbL (e : Int) (xs ys : List Int) : List Int := if letOk e xs.length ys.length then headL e xs ++ ys else []
theorem fitN_two {e : Int} (h : 0 ≤ e) : fitN e 2 = 2 := by simp [fitN, fitB, h]
theorem fitL_length (e : Int) : (fitL e 2).length = fitN e 2 := littleL_length _ _
theorem headL_length (e : Int) (xs : List Int) : (headL e xs).length = headN e xs.length := by
  rw [headL, headN, List.length_append, List.length_append, List.length_reverse, fitL_length]
  rfl
theorem in_one' (w : World) (ty B : Nat) (h : w.heap.size = B) : BytesIn (w.alloc (.cells #[.int .u8 1] ty)) (some ⟨B, 0, none⟩) 1 [1] := by
  subst h
  intro _
  refine ⟨w.heap.size, 0, rfl, fun i hi => ?_⟩
  obtain rfl : i = 0 := by omega
  rw [cell_of_row _ _ _ _ _ _ (heap_alloc_new w _)]
  rfl
theorem in_allocL {w : World} {p : Option Addr} {n : Nat} {xs : List Int} (h : BytesIn w p n xs) (o : Obj) : BytesIn (w.alloc o) p n xs := in_below h ((Below.refl _ _).alloc (Nat.le_refl _) _)
theorem below_allocL {a w : World} (h : Below a.heap.size a w) (o : Obj) : Below a.heap.size a (w.alloc o) := h.alloc h.size o
theorem below_drewL {a w : World} (h : Below a.heap.size a w) : Below a.heap.size a w.drew := h.drew
theorem in_drewL {w : World} {p : Option Addr} {n : Nat} {xs : List Int} (h : BytesIn w p n xs) : BytesIn w.drew p n xs := in_below h (Below.refl _ _).drew
theorem concat3 (p0 p1 p2 : Option Addr) (n0 n1 n2 c0 c1 c2 : Nat) (xs0 xs1 xs2 : List Int) (w w0 : World) (hx0 : xs0.length = n0) (hx1 : xs1.length = n1) (hx2 : xs2.length = n2) (h0 : 0 < n0 + n1 + n2) (hs1 : n0 + n1 + n2 ≤ 1073741824) (hw : Below w.heap.size w w0)
    (i0 : BytesIn w0 p0 n0 xs0) (i1 : BytesIn w0 p1 n1 xs1) (i2 : BytesIn w0 p2 n2 xs2) (gr : Nat) (hgr : w0.heap.size = gr) :
    Calls Tryz.prog 68 #[.slice (some ⟨gr, 0, none⟩) 3 3] (w0.alloc (.cells #[.slice p0 n0 c0, .slice p1 n1 c1, .slice p2 n2 c2] 22)) fun e w' =>
      ∃ p' c', e = .returned (.slice p' (n0 + n1 + n2) c') ∧ Own 5 w' w.heap.size w'.heap.size (.slice p' (n0 + n1 + n2) c') (n0 + n1 + n2) (xs0 ++ xs1 ++ xs2) ∧ Below w.heap.size w w' := by
  subst hgr
  have ba : Below w0.heap.size w0 (w0.alloc (.cells #[.slice p0 n0 c0, .slice p1 n1 c1, .slice p2 n2 c2] 22)) := (Below.refl _ _).alloc (Nat.le_refl _) _
  have hs : sumN (fun k => match k with | 0 => n0 | 1 => n1 | _ => n2) 3 = n0 + n1 + n2 := by simp [sumN]
  have hc : catL (fun k => match k with | 0 => xs0 | 1 => xs1 | _ => xs2) 3 = xs0 ++ xs1 ++ xs2 := by simp [catL]
  have h := concat_any w0.heap.size 3 (fun k => match k with | 0 => p0 | 1 => p1 | _ => p2) (fun k => match k with | 0 => n0 | 1 => n1 | _ => n2) (fun k => match k with | 0 => c0 | 1 => c1 | _ => c2) (fun k => match k with | 0 => xs0 | 1 => xs1 | _ => xs2)
    (w0.alloc (.cells #[.slice p0 n0 c0, .slice p1 n1 c1, .slice p2 n2 c2] 22)) (by decide)
    (fun k hk => by
      rw [cell_of_row _ _ k _ _ _ (heap_alloc_new w0 _)]
      match k, hk with
      | 0, _ => rfl
      | 1, _ => rfl
      | 2, _ => rfl)
    (fun k hk => by
      match k, hk with
      | 0, _ => exact hx0
      | 1, _ => exact hx1
      | 2, _ => exact hx2)
    (fun k hk => by
      match k, hk with
      | 0, _ => exact in_below i0 ba
      | 1, _ => exact in_below i1 ba
      | 2, _ => exact in_below i2 ba)
    (by rw [hs]; omega) (by rw [hs]; omega)
  rw [hs, hc] at h
  refine h.mono ?_
  rintro e w' ⟨p', c', rfl, r, b⟩
  have hsz := hw.size
  exact ⟨p', c', rfl, ⟨owns_mono r.1 (by simp; omega), r.2⟩, below_on (below_on hw ba) b⟩
set_option maxHeartbeats 4000000 in
theorem letterHead_any (e : Int) (p q : Option Addr) (n c m d : Nat) (xs : List Int) (w : World) (he : e ≤ 9223372036854775807) (hn : n ≤ 1048576) (hx : xs.length = n) (h : BytesIn w p n xs) :
    Calls Tryz.prog 39 #[.agg #[.int .i64 e, .slice p n c, .slice q m d]] w fun z w' => ∃ p' c', z = .returned (.slice p' (headN e n) c') ∧ Own 5 w' w.heap.size w'.heap.size (.slice p' (headN e n) c') (headN e n) (headL e xs) ∧ Below w.heap.size w w' := by
  unfold headN headL
  have hF := fitN_le e 2
  have hFl : ((fitL e 2).reverse).length = fitN e 2 := by rw [List.length_reverse, fitL_length]
  have C := fun w => implGreat_any e 2 w he
  generalize (fitL e 2).reverse = FL at C hFl ⊢
  generalize fitN e 2 = F at C hFl hF ⊢
  obtain ⟨W, hW⟩ : ∃ W, W = w.alloc (.cells #[.int .i64 e, .slice p n c, .slice q m d] 27) := ⟨_, rfl⟩
  have kA : Below w.heap.size w W := by rw [hW]; exact made_below _ _ (Below.refl _ _)
  have CA : Cells W w.heap.size #[.int .i64 e, .slice p n c, .slice q m d] := by rw [hW]; exact Cells.made _ _ _
  have HK : ∀ X, Below W.heap.size W X → X.cell? ⟨w.heap.size, 0, none⟩ = some (.int .i64 e) ∧ X.cell? ⟨w.heap.size, 1, none⟩ = some (.slice p n c) := fun X hX => ⟨((CA.on hX).2 0).1, ((CA.on hX).2 1).1⟩
  have hh := in_below h kA
  have kB := fun (X : World) (hX : Below W.heap.size W X) => below_on kA hX
  replace hW : Hid (w.alloc (.cells #[.int .i64 e, .slice p n c, .slice q m d] 27) = W) := hW.symm
  clear CA
  obtain ⟨TL, hTL⟩ : ∃ TL, TL = [1] ++ FL ++ xs := ⟨_, rfl⟩
  obtain ⟨TN, hTN⟩ : ∃ TN, TN = 1 + F + n := ⟨_, rfl⟩
  rw [← hTL, ← hTN]
  have CC := fun (p0 p1 : Option Addr) (c0 c1 : Nat) (w0 : World) (hw : Below W.heap.size W w0) (i0 : BytesIn w0 p0 1 [1]) (i1 : BytesIn w0 p1 F FL) (i2 : BytesIn w0 p n xs) (gr : Nat) (hgr : w0.heap.size = gr) => concat3 p0 p1 p 1 F n c0 c1 c [1] FL xs W w0 rfl hFl hx (by omega) (by omega) hw i0 i1 i2 gr hgr
  rw [← hTL, ← hTN] at CC
  clear hTL hTN
  go_enter Tryz.func39, Tryz.ntmps39
  go_wp2_with (rw [hW.out])
  go_region_held3 (fun w' => w'.cell? ⟨w.heap.size, 0, none⟩ = some (.int .i64 e) ∧ w'.cell? ⟨w.heap.size, 1, none⟩ = some (.slice p n c)) (exact HK _ (by repeat (with_reducible (first | exact Below.refl _ _ | exact bk | refine below_allocL ?_ _ | refine below_drewL ?_ | refine below_on ?_ bg)))) (first | (go_at_call 57; refine (C _).mono ?_; rintro z wg ⟨pg, cg, rfl, rg, bg⟩) | (go_at_call 68; refine (CC _ _ _ _ _ (by repeat (with_reducible (first | exact Below.refl _ _ | refine below_allocL ?_ _ | refine below_drewL ?_ | refine below_on ?_ bg))) (by repeat (with_reducible (first | exact rg.bytes | exact in_one' _ _ _ (by simp) | exact hh | refine in_allocL ?_ _ | refine in_drewL ?_ | refine in_below ?_ bg))) (by repeat (with_reducible (first | exact rg.bytes | exact in_one' _ _ _ (by simp) | exact hh | refine in_allocL ?_ _ | refine in_drewL ?_ | refine in_below ?_ bg))) (by repeat (with_reducible (first | exact rg.bytes | exact in_one' _ _ _ (by simp) | exact hh | refine in_allocL ?_ _ | refine in_drewL ?_ | refine in_below ?_ bg))) _ (by simp)).mono ?_; rintro z wk ⟨pk, ck, rfl, rk, bk⟩))
  all_goals
    go_wp2
    go_ret
    exact ⟨_, _, rfl, ⟨owns_mono rk.1 kA.size, rk.2⟩, kB _ bk⟩
end Go.Proofs.YtnpffnhiefgglaaGreatDoor
namespace Go.Proofs.YtnpffnhiefgglaaGreatDoor
open Go Go.Conc Go.RowKit
set_option maxRecDepth 100000
def wroteOk (ss ts : List Int) (n m k : Nat) (e : Int) : Prop := agOk ss ts n m ∧ k ≤ 200 ∧ 0 ≤ e ∧ e ≤ 65535
instance (ss ts : List Int) (n m k : Nat) (e : Int) : Decidable (wroteOk ss ts n m k e) := by unfold wroteOk; infer_instance
def frL (ss : List Int) (n : Nat) : List Int := oneL (ptZ ss baseL) n
def wkyL (ss ts : List Int) (n m : Nat) : List Int := kyL (agL ss ts n m) (frL ss n) ts
def wncL (ss ts : List Int) (n m : Nat) : List Int := ncL (agL ss ts n m) (frL ss n) ts
def boxL (ss ts xs : List Int) (n m : Nat) (e : Int) : List Int := seaL (wkyL ss ts n m) (wncL ss ts n m) (headL e (frL ss n)) (noteL xs)
def wrE (ss ts : List Int) (n m k : Nat) (e : Int) : Int := if wroteOk ss ts n m k e then e else 0
def wrF (ss ts : List Int) (n m k : Nat) (e : Int) : Nat := if wroteOk ss ts n m k e then 32 else 0
def wrB (ss ts : List Int) (n m k : Nat) (e : Int) : Nat := if wroteOk ss ts n m k e then noteN k + 16 else 0
def wrFl (ss ts _xs : List Int) (n m k : Nat) (e : Int) : List Int := if wroteOk ss ts n m k e then frL ss n else []
def wrBl (ss ts xs : List Int) (n m k : Nat) (e : Int) : List Int := if wroteOk ss ts n m k e then boxL ss ts xs n m e else []
theorem wrF_le (ss ts : List Int) (n m k : Nat) (e : Int) : wrF ss ts n m k e ≤ 32 := by unfold wrF; split <;> omega
theorem wrB_le (ss ts : List Int) (n m k : Nat) (e : Int) : wrB ss ts n m k e ≤ 313 := by
  unfold wrB
  have := noteN_le k
  split <;> omega
def LetIs (lo : Nat) (w' : World) (v : Value) (e : Int) (fn bn : Nat) (fs bs : List Int) : Prop := ∃ p c q d mid, v = .agg #[.int .i64 e, .slice p fn c, .slice q bn d] ∧ Own 5 w' lo mid (.slice p fn c) fn fs ∧ Own 5 w' mid w'.heap.size (.slice q bn d) bn bs ∧ lo ≤ mid ∧ mid ≤ w'.heap.size
theorem nil_own (w : World) (lo hi : Nat) : Own 5 w lo hi (.slice none 0 0) 0 [] := ⟨⟨rfl, .inl ⟨rfl, rfl⟩⟩, fun g h => by cases h⟩
theorem letIs_none (lo : Nat) (w' : World) (h : lo ≤ w'.heap.size) : LetIs lo w' (.agg #[.int .i64 0, .slice none 0 0, .slice none 0 0]) 0 0 0 [] [] := ⟨_, _, _, _, lo, rfl, nil_own _ _ _, nil_own _ _ _, Nat.le_refl _, h⟩
section
variable {ss ts xs : List Int} {n m k : Nat} {e : Int} {lo : Nat} {w' : World} {v : Value}
theorem letIs_yes (hok : wroteOk ss ts n m k e) (h : LetIs lo w' v e 32 (noteN k + 16) (frL ss n) (boxL ss ts xs n m e)) : LetIs lo w' v (wrE ss ts n m k e) (wrF ss ts n m k e) (wrB ss ts n m k e) (wrFl ss ts xs n m k e) (wrBl ss ts xs n m k e) := by
  simp only [wrE, wrF, wrB, wrFl, wrBl, if_pos hok]
  exact h
theorem letIs_no (hok : ¬ wroteOk ss ts n m k e) (h : LetIs lo w' v 0 0 0 [] []) : LetIs lo w' v (wrE ss ts n m k e) (wrF ss ts n m k e) (wrB ss ts n m k e) (wrFl ss ts xs n m k e) (wrBl ss ts xs n m k e) := by
  simp only [wrE, wrF, wrB, wrFl, wrBl, if_neg hok]
  exact h
theorem frL_length (hn : n = 32) : (frL ss n).length = 32 := by
  subst hn
  rw [frL, oneL_length]
  rfl
theorem frL_byte : ∀ x ∈ frL ss n, 0 ≤ x ∧ x < 256 := oneL_byte _ _
end
theorem fitW_byte (e : Int) : ∀ x ∈ fitL e 2, 0 ≤ x ∧ x < 256 := fun x hx => by
  simp only [fitL, littleL, List.mem_map, List.mem_range] at hx
  obtain ⟨i, _, rfl⟩ := hx
  omega
theorem headL_byte {e : Int} {xs : List Int} (hb : ∀ x ∈ xs, 0 ≤ x ∧ x < 256) : ∀ x ∈ headL e xs, 0 ≤ x ∧ x < 256 := fun x hx => by
  simp only [headL, List.mem_append, List.mem_singleton, List.mem_reverse] at hx
  rcases hx with (rfl | hx) | hx
  · decide
  · exact fitW_byte e x hx
  · exact hb x hx
theorem one_ownW (w : World) : (w.alloc (.cells #[.int .u8 1] 5)).ownsRow w.heap.size 5 1 (.slice (some ⟨w.heap.size, 0, none⟩) 1 1) 1 (([1] : List Int).map (Value.int .u8)) := by
  have h := heap_made w (.cells #[.int .u8 1] 5)
  refine ⟨by simp, .inr ⟨w.heap.size, 1, _, rfl, Nat.le_refl _, h, Nat.le_refl _, by unfold maxLen; omega, by simp, by simp⟩⟩
end Go.Proofs.YtnpffnhiefgglaaGreatDoor
