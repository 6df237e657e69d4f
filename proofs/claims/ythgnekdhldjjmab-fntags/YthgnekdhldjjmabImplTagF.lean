/-
  The program's numbers of a tag: their 16 bytes in a row that the call made; and r of a key's first half. Conditions: small parts; bytes.
-/
import Derived.Test.YthgnekdhldjjmabImplTagE
namespace Go.Proofs.Ythgnekdhldjjmab
open Go.RowKit

def bytesV (V : Nat) : List Int := (List.range 16).map fun i => ((V / 256 ^ i % 256 : Nat) : Int)
theorem bytesV_length (V : Nat) : (bytesV V).length = 16 := by simp [bytesV]
theorem bytesV_get (V i : Nat) (h : i < 16) : (bytesV V).getD i 0 = ((V / 256 ^ i % 256 : Nat) : Int) := by simp [bytesV, h]

set_option maxRecDepth 100000 in
set_option maxHeartbeats 2400000 in
theorem numBytes_any (lo g V : Nat) (w : World) (h : NumIs w lo g (digL V)) :
    Calls Try.prog 21 #[.pointer (some ⟨g, 0, none⟩)] w fun e w' => ∃ p' c', e = .returned (.slice p' 16 c') ∧ Own 5 w' w.heap.size w'.heap.size (.slice p' 16 c') 16 (bytesV V) ∧ Below w.heap.size w w' := by
  obtain ⟨i0, hi, hz0, hz1, hz2⟩ := info_parts infoByte
  have HB : Hid (∀ X, Below w.heap.size w X → ∀ p : Nat, p < 16 → Calls Try.prog 31 #[.pointer (some ⟨g, 0, none⟩), .int .i64 (p : Int)] X fun e w' => e = .returned (.int .u8 ((V / 256 ^ p % 256 : Nat) : Int)) ∧ w' = X) := fun X hX p hp => byteAt_same lo g V p X hp (h.below hX)
  have hx := bytesV_length V
  have HG : Hid (∀ k, k < 16 → ((V / 256 ^ k % 256 : Nat) : Int) = (bytesV V).getD k 0) := fun k hk => (bytesV_get V k hk).symm
  clear h
  generalize bytesV V = xs at hx HG ⊢
  go_enter Try.func21, Try.ntmps21
  go_wp2_with (at_make; refine wpList_make_full _ rfl _ _ 22 rfl w.heap.size 5 i0 (.int .u8 0) 1 Try.underlying22 hi hz0 hz1 _ _ _ _ 16 rfl rfl rfl rfl (by rw [hz2]; omega) (by unfold maxLen; omega) (Nat.le_refl _) ?_)
  intro w1 hown hgrow
  rw [fill_start xs 16] at hown
  have hbel : Below w.heap.size w w1 := (Below.refl _ _).grown hgrow (Nat.le_refl _) (fun _ h => by cases h)
  clear hgrow
  go_wp2
  go_loopw [8] (fun i wr => ∃ k : Nat, k ≤ 16 ∧ i = .int .i64 k ∧ wr.ownsRow w.heap.size 5 1 (.slice (some ⟨w.heap.size, 0, none⟩) 16 16) 16 ((xs.take k ++ List.replicate (16 - k) 0).map (Value.int .u8)) ∧ Below w.heap.size w wr)
    (fun i _ => 16 - (intOf i).toNat)
  case atStart => exact ⟨0, Nat.zero_le _, rfl, hown, hbel⟩
  case round =>
    clear hown hbel
    obtain ⟨k, hk, rfl, hown, hbel⟩ := hrel
    by_cases hlt : k < 16
    · have hlt' : (k : Int) < 16 := by omega
      have C := HB.out wr hbel k hlt
      have hu := HG.out k hlt
      generalize ((V / 256 ^ k % 256 : Nat) : Int) = u at C hu
      have hold : wr.cell? ⟨w.heap.size, k, none⟩ = some (.int .u8 0) := by
        rw [hown.cellAt k (by omega)]; exact fill_old xs 16 k hlt hx
      have hfz := hown.frozenAt k
      have hst := hown.stored k (.int .u8 u)
      rw [fill_step xs 16 k u hu hlt hx] at hst
      have hbel' := hbel.setCell (p := ⟨w.heap.size, k, none⟩) (Nat.le_refl _) (.int .u8 u)
      clear hu hown
      go_wp2_with (fail)
      refine C.mono ?_
      rintro e w2 ⟨rfl, rfl⟩
      clear C
      go_wp2
      go_roundw
      case rel => exact ⟨k + 1, by omega, by go_num, hst.1, hbel'⟩
      case measure => simp [intOf]; omega
    · have hkn : k = 16 := by omega
      subst hkn
      go_wp2
      go_ret
      rw [fill_end xs 16 hx] at hown
      exact ⟨_, _, rfl, .of hown, hbel⟩

theorem and_15b (v : Nat) (hv : v < 256) : bits .and .u8 (v : Int) 15 = ((v % 16 : Nat) : Int) := by
  have e : bits .and .u8 (v : Int) 15 = IntKind.u8.wrap ((BitVec.ofInt 8 (v : Int) &&& BitVec.ofInt 8 15).toNat : Int) := rfl
  have e1 : (BitVec.ofInt 8 (v : Int)).toNat = v := by rw [BitVec.toNat_ofInt]; omega
  have e2 : (BitVec.ofInt 8 15).toNat = 2 ^ 4 - 1 := rfl
  rw [e, BitVec.toNat_and, e1, e2, Nat.and_two_pow_sub_one_eq_mod, IntKind.wrap_u8]
  omega
theorem and_252b (v : Nat) (hv : v < 256) : bits .and .u8 (v : Int) 252 = ((v / 4 * 4 : Nat) : Int) := by
  have e : bits .and .u8 (v : Int) 252 = IntKind.u8.wrap ((BitVec.ofInt 8 (v : Int) &&& BitVec.ofInt 8 252).toNat : Int) := rfl
  have e1 : (BitVec.ofInt 8 (v : Int)).toNat = v := by rw [BitVec.toNat_ofInt]; omega
  have e2 : (BitVec.ofInt 8 252).toNat = 252 := rfl
  rw [e, BitVec.toNat_and, e1, e2, nat_252 v hv, IntKind.wrap_u8]
  omega

theorem dL_less {f g : Nat → Nat} (h : dL f 17 = dL g 17) : dL f 16 = dL g 16 := by
  rw [← dL_step, ← dL_step] at h
  exact List.append_inj_left h (by simp [dL])
theorem dL_bytes {B : List Int} (hl : B.length = 16) (hb : ∀ x ∈ B, 0 ≤ x ∧ x < 256) : B = dL (numD B 16 0) 16 := by
  apply List.ext_getElem
  · simp [dL, hl]
  · intro i h1 h2
    have e := byN_cast hb i
    simp only [List.getD_eq_getElem?_getD, List.getElem?_eq_getElem h1, Option.getD_some] at e
    simp only [dL, List.getElem_map, List.getElem_range, numD, if_pos (show i < 16 by omega)]
    exact e
theorem byN_dL (f : Nat → Nat) (n i : Nat) (hi : i < n) : byN (dL f n) i = f i := by simp [byN, dL, hi]

set_option maxRecDepth 100000 in
set_option maxHeartbeats 2400000 in
theorem tagFactor_any (B : List Int) (w : World) (hl : B.length = 16) (hb : ∀ x ∈ B, 0 ≤ x ∧ x < 256) :
    Calls Try.prog 14 #[.agg (B.map (Value.int .u8)).toArray] w fun e w' => ∃ g, e = .returned (.pointer (some ⟨g, 0, none⟩)) ∧ NumIs w' w.heap.size g (digL (valN (keyD B) 17)) ∧ Below w.heap.size w w' := by
  have HB : Hid (∀ i, numD B 16 0 i < 256) := numD_lt hb (by decide)
  have hown : (w.alloc (.cells (B.map (Value.int .u8)).toArray 35)).ownsRow w.heap.size 35 1 (.slice (some ⟨w.heap.size, 0, none⟩) 16 16) 16 (B.map (Value.int .u8)) :=
    ⟨by simpa using hl, .inr ⟨w.heap.size, 16, _, rfl, Nat.le_refl _, heap_alloc_new w _, Nat.le_refl _, by unfold maxLen; omega, by simp [hl], by rw [List.take_of_length_le (by simp [hl])]⟩⟩
  rw [show B.map (Value.int .u8) = (dL (key1 B 0) 16).map (Value.int .u8) from by rw [← dL_less (key1_start B)]; exact congrArg _ (dL_bytes hl hb)] at hown ⊢
  have HV : Hid (∀ i, keyD B i < 256) := keyD_lt hb
  generalize ((dL (key1 B 0) 16).map (Value.int .u8)).toArray = A at hown
  have bel : Below w.heap.size w (w.alloc (.cells A 35)) := (Below.refl _ _).alloc (Nat.le_refl _) _
  go_enter Try.func14, Try.ntmps14
  go_wp2_with (fail)
  go_loopw [3] (fun i wr => ∃ k : Nat, k ≤ 4 ∧ i = .int .i64 ((3 + 4 * k : Nat) : Int) ∧ wr.ownsRow w.heap.size 35 1 (.slice (some ⟨w.heap.size, 0, none⟩) 16 16) 16 ((dL (key1 B k) 16).map (Value.int .u8)) ∧ Below w.heap.size w wr)
    (fun i _ => 20 - (intOf i).toNat)
  case atStart => exact ⟨0, by omega, rfl, hown, bel⟩
  case round =>
    clear hown bel
    obtain ⟨k, hk, rfl, hown, bel⟩ := hrel
    by_cases hlt : k < 4
    · obtain ⟨j, hj⟩ : ∃ j : Nat, j = 3 + 4 * k := ⟨_, rfl⟩
      have hgk := key1_get B k
      have st0 := hown.stored (3 + 4 * k) (.int .u8 ((numD B 16 0 (3 + 4 * k) % 16 : Nat) : Int))
      rw [← List.map_set, dL_set, dL_less (key1_step B k)] at st0
      have e1 : wr.cell? ⟨w.heap.size, 3 + 4 * k, none⟩ = some (.int .u8 ((numD B 16 0 (3 + 4 * k) : Nat) : Int)) := by
        rw [hown.cellAt _ (by omega), List.getElem?_map]
        simp [dL, hgk, show 3 + 4 * k < 16 by omega]
      have hfr := hown.frozenAt (3 + 4 * k)
      have hv := HB.out (3 + 4 * k)
      have hj4 : ((3 + 4 * (k + 1) : Nat) : Int) = (j : Int) + 4 := by omega
      rw [← hj] at st0 e1 hfr hv ⊢
      have lj : (j : Int) < 16 := by omega
      generalize numD B 16 0 j = v at st0 e1 hv
      obtain ⟨v', hv'⟩ : ∃ v' : Nat, v' = v % 16 := ⟨_, rfl⟩
      have ea := and_15b v (by omega)
      rw [← hv'] at ea st0
      have st' := st0.1
      have hb' := bel.grown st0.2 bel.size (fun k hk => by cases hk; exact Nat.le_refl _)
      have hm : j < 20 := by omega
      clear st0 hown hj hgk hv'
      go_wp2_with (fail)
      go_roundw
      case rel => exact ⟨k + 1, by omega, by rw [hj4], st', hb'⟩
      case measure => simp [intOf]; omega
    · obtain rfl : k = 4 := by omega
      rw [dL_less (key2_start B)] at hown
      go_wp2_with (fail)
      go_loopw [4] (fun i wr => ∃ k : Nat, k ≤ 3 ∧ i = .int .i64 ((4 + 4 * k : Nat) : Int) ∧ wr.ownsRow w.heap.size 35 1 (.slice (some ⟨w.heap.size, 0, none⟩) 16 16) 16 ((dL (key2 B k) 16).map (Value.int .u8)) ∧ Below w.heap.size w wr)
        (fun i _ => 20 - (intOf i).toNat)
      case atStart => exact ⟨0, by omega, rfl, hown, bel⟩
      case round =>
        clear hown bel
        obtain ⟨k, hk, rfl, hown, bel⟩ := hrel
        by_cases hlt : k < 3
        · obtain ⟨j, hj⟩ : ∃ j : Nat, j = 4 + 4 * k := ⟨_, rfl⟩
          have hgk := key2_get B k
          have st0 := hown.stored (4 + 4 * k) (.int .u8 ((numD B 16 0 (4 + 4 * k) / 4 * 4 : Nat) : Int))
          rw [← List.map_set, dL_set, dL_less (key2_step B k)] at st0
          have e1 : wr.cell? ⟨w.heap.size, 4 + 4 * k, none⟩ = some (.int .u8 ((numD B 16 0 (4 + 4 * k) : Nat) : Int)) := by
            rw [hown.cellAt _ (by omega), List.getElem?_map]
            simp [dL, hgk, show 4 + 4 * k < 16 by omega]
          have hfr := hown.frozenAt (4 + 4 * k)
          have hv := HB.out (4 + 4 * k)
          have hj4 : ((4 + 4 * (k + 1) : Nat) : Int) = (j : Int) + 4 := by omega
          rw [← hj] at st0 e1 hfr hv ⊢
          have lj : (j : Int) < 16 := by omega
          generalize numD B 16 0 j = v at st0 e1 hv
          obtain ⟨v', hv'⟩ : ∃ v' : Nat, v' = v / 4 * 4 := ⟨_, rfl⟩
          have ea := and_252b v hv
          rw [← hv'] at ea st0
          have st' := st0.1
          have hb' := bel.grown st0.2 bel.size (fun k hk => by cases hk; exact Nat.le_refl _)
          have hm : j < 20 := by omega
          clear st0 hown hj hgk hv'
          go_wp2_with (fail)
          go_roundw
          case rel => exact ⟨k + 1, by omega, by rw [hj4], st', hb'⟩
          case measure => simp [intOf]; omega
        · obtain rfl : k = 3 := by omega
          rw [dL_less (key2_end B)] at hown
          have hin : BytesIn wr (some ⟨w.heap.size, 0, none⟩) 16 (dL (keyD B) 16) := owns_in hown
          have hsz := (hown.lt _ rfl).2
          obtain ⟨wn, hwn⟩ : ∃ wn, wn = wr.alloc (.cells #[.int .u64 0, .int .u64 0, .int .u64 0, .int .u64 0, .int .u64 0] 38) := ⟨_, rfl⟩
          have bz : Below wr.heap.size wr wn := by rw [hwn]; exact (Below.refl _ _).alloc (Nat.le_refl _) _
          have nz : NumIs wn wr.heap.size wr.heap.size zero5 := by rw [hwn]; exact NumIs.made wr 0 0 0 0 0
          have hbk : ∀ x ∈ dL (keyD B) 16, 0 ≤ x ∧ x < 256 := by
            intro x hx
            simp only [dL, List.mem_map] at hx
            obtain ⟨i, _, rfl⟩ := hx
            have := HV.out i
            omega
          have CP := put_any wr.heap.size wr.heap.size zero5 (some ⟨w.heap.size, 0, none⟩) 16 16 (dL (keyD B) 16) wn (zero5_less.mono (by decide)) (by omega) hbk (in_below hin bz) (fun a ha => by cases ha; exact Nat.ne_of_lt hsz) nz
          have hPl : lessP 9223372036854775808 (putsP zero5 (byN (dL (keyD B) 16)) 16) := (putsP_less zero5_less (byN_lt hbk) 16).mono (by decide)
          have hPv : Hid (val5 (putsP zero5 (byN (dL (keyD B) 16)) 16) = valN (keyD B) 17) := by
            rw [Hid, (putsP_val (byN (dL (keyD B) 16)) rfl 16 (by decide)).2, val5_zero, Nat.zero_add, valN_congr (g := keyD B) (fun i hi => byN_dL _ _ _ hi)]
            show _ = valN (keyD B) 16 + keyD B 16 * 256 ^ 16
            rw [show keyD B 16 = 0 from rfl, Nat.zero_mul, Nat.add_zero]
          generalize putsP zero5 (byN (dL (keyD B) 16)) 16 = P0 at CP hPl hPv
          clear hin hown hbk
          go_wp2_with (fail)
          rw [← hwn]
          refine CP.mono ?_
          rintro e w4 ⟨rfl, n4, g4⟩
          have CA := carry_any _ _ _ _ hPl n4
          rw [hPv.out] at CA
          have b4 : Below wr.heap.size wr w4 := bz.grown g4 bz.size (fun k hk => by cases hk; exact Nat.le_refl _)
          clear CP nz hwn bz n4 g4
          go_wp2_with (fail)
          refine CA.mono ?_
          rintro e w5 ⟨rfl, n5, g5⟩
          have b5 : Below wr.heap.size wr w5 := b4.grown g5 b4.size (fun k hk => by cases hk; exact Nat.le_refl _)
          clear CA
          go_wp2_with (fail)
          go_ret
          exact ⟨_, rfl, n5.mono bel.size, below_on bel b5⟩

end Go.Proofs.Ythgnekdhldjjmab
