/-
  FnNumbers returns true for any code, and writes nothing that was there, where the table of tens holds what its text says and the library's variable MaxLen holds some int.
-/
import Derived.Test.YtjcombfcilbafaeDoorDrawNums
import Derived.Test.YtjcombfcilbafaeDoorNumberCore
import Derived.Test.YtjcombfcilbafaeDoorSplitW
import Derived.Test.YtjcombfcilbafaeDoorJoin
namespace Go.Proofs.YtjcombfcilbafaeDoor
open Go.RowKit

theorem big_small (p : Option Addr) (n c : Nat) (w : World) (hn : n ≤ 1048576) : Calls Tryd.prog 4 #[.slice p n c] w fun e w' => e = .returned (.bool false) ∧ Below w.heap.size w w' := by
  have hd : decide ((1048576 : Int) < (n : Int)) = false := by simp; omega
  go_enter Tryd.func4, Tryd.ntmps4
  go_wp2
  go_ret
  refine ⟨?_, Below.refl _ _⟩
  first | rfl | (congr 2)

theorem big_great (p : Option Addr) (n c : Nat) (w : World) (hn : ¬ n ≤ 1048576) : Calls Tryd.prog 4 #[.slice p n c] w fun e w' => e = .returned (.bool true) ∧ Below w.heap.size w w' := by
  have hd : decide ((1048576 : Int) < (n : Int)) = true := by simp; omega
  go_enter Tryd.func4, Tryd.ntmps4
  go_wp2
  go_ret
  refine ⟨?_, Below.refl _ _⟩
  first | rfl | (congr 2)

set_option maxHeartbeats 8000000 in
theorem fnNumbers_small (p : Option Addr) (n c : Nat) (xs : List Int) (w : World) (hn : n ≤ 1048576) (hx : xs.length = n) (h : BytesIn w p n xs) (hr : ∀ x ∈ xs, 0 ≤ x ∧ x < 256)
    (htab : Lib.TabIs Tryd.prog w "internal/strconv.uint64pow10" .u64 Lib.pow10Tab) (hmax : MaxIs w) :
    Calls Tryd.prog 3 #[.slice p n c] w fun e w' => e = .returned (.bool true) ∧ Below w.heap.size w w' := by
  go_enter Tryd.func3, Tryd.ntmps3
  go_wp2_with (fail)
  refine (big_small p n c _ hn).mono ?_
  rintro e w1 ⟨rfl, b1⟩
  have k1 : Below w.heap.size w w1 := below_on (Below.refl _ _) b1
  go_wp2_with (fail)
  refine (drawDigits_any p n c xs _ hn hx (in_below h k1) hr).mono ?_
  rintro e w2 ⟨D, rfl, hD0, hD1, b2⟩
  have k2 : Below w.heap.size w w2 := below_on k1 b2
  go_wp2_with (fail)
  refine (drawNumber_any p n c xs _ hn hx (in_below h k2) hr).mono ?_
  rintro e w3 ⟨s, rfl, hs, b3⟩
  have k3 : Below w.heap.size w w3 := below_on k2 b3
  go_wp2_with (fail)
  refine (implNumber_any s _ (by omega) (Joins.tab_stays gPow htab k3 (Nat.le_refl _))).mono ?_
  rintro e w4 ⟨rfl, b4⟩
  have k4 : Below w.heap.size w w4 := below_on k3 b4
  go_wp2_with (fail)
  refine (specNumber_any s _ (by omega)).mono ?_
  rintro e w5 ⟨rfl, b5⟩
  have k5 : Below w.heap.size w w5 := below_on k4 b5
  go_wp2_with (fail)
  refine (drawSplit_any p n c xs _ hn hx (in_below h k5) hr).mono ?_
  rintro e w6 ⟨t, B, rfl, ht, hB0, hB1, b6⟩
  have k6 : Below w.heap.size w w6 := below_on k5 b6
  go_wp2_with (fail)
  refine (implSplitW t B _ (by omega) hB0 hB1 (max_on hmax k6)).mono ?_
  rintro e w7 ⟨pp, cp, rfl, r7, b7⟩
  have k7 : Below w.heap.size w w7 := below_on k6 b7
  have hSpec := fun w => specSplit_any t B w (by omega) hB0 hB1
  have hall : Hid (backT (partsL t.data.toList (UInt8.ofNat B.toNat)) (UInt8.ofNat B.toNat) (partsL t.data.toList (UInt8.ofNat B.toNat)).length = t.data.toList) := backT_all _ _
  have hlen := parts_len t.data.toList (UInt8.ofNat B.toNat)
  have hpos := parts_pos t.data.toList (UInt8.ofNat B.toNat)
  have hl : t.data.toList.length = t.size := (Lib.size_eq t).symm
  obtain ⟨T, hT⟩ : ∃ T, T = partsL t.data.toList (UInt8.ofNat B.toNat) := ⟨_, rfl⟩
  rw [← hT] at hall hlen hpos r7 ⊢
  simp only [← hT] at hSpec
  clear hT
  obtain ⟨N, hN⟩ : ∃ N, T.length = N := ⟨_, rfl⟩
  rw [hN] at hall hlen hpos r7 ⊢
  simp only [hN] at hSpec
  clear hN
  have hN9 : N ≤ 7 := by omega
  obtain ⟨gp, op, rfl, hcell⟩ := r7.texts hpos
  have hgp := World.block_lt_of_cell? w7 ⟨gp, op + 0, none⟩ (hcell 0 hpos)
  simp only at hgp
  clear r7 hlen
  go_wp2_with (fail)
  refine (implDigits_any D _ hD0 hD1 (Joins.tab_stays gPow htab k7 (Nat.le_refl _))).mono ?_
  rintro e w8 ⟨rfl, b8⟩
  have k8 : Below w.heap.size w w8 := below_on k7 b8
  go_wp2_with (fail)
  refine (specDigits_any D _ hD0 hD1).mono ?_
  rintro e w9 ⟨rfl, b9⟩
  have k9 : Below w.heap.size w w9 := below_on k8 b9
  have b79 : Below w7.heap.size w7 w9 := below_on b8 b9
  obtain ⟨V, hV⟩ : ∃ V, V = numV s := ⟨_, rfl⟩
  obtain ⟨Y, hY⟩ : ∃ Y, Y = numB s := ⟨_, rfl⟩
  rw [← hV, ← hY]
  obtain ⟨X, hX⟩ : ∃ X : ByteArray, X = ⟨(Lib.itoa D).toArray⟩ := ⟨_, rfl⟩
  rw [← hX]
  clear hX
  cases Y
  · clear hV hY
    have b7x : Below w7.heap.size w7 w9 := b79
    have hgW : gp < w9.heap.size := Nat.lt_of_lt_of_le hgp b7x.size
    have hcellW : ∀ i, i < N → w9.cell? ⟨gp, op + i, none⟩ = some (.string (T.getD i ByteArray.empty)) := fun i hi => by rw [b7x.cell (p := ⟨gp, op + i, none⟩) hgp]; exact hcell i hi
    clear hcell
    go_wp2_with (fail)
    go_loopw [12, 13] (fun q r wr => ∃ (k : Nat) (O : ByteArray), k ≤ N ∧ q = .string O ∧ r = .int .i64 k ∧ O.size ≤ 6 ∧ Hid (O.data.toList = backT T (UInt8.ofNat B.toNat) k) ∧ Below w9.heap.size w9 wr) (fun _ r _ => N - (intOf r).toNat)
    case atStart => exact ⟨0, ByteArray.empty, Nat.zero_le _, rfl, rfl, by decide, by simp [Hid, backT, backL], Below.refl _ _⟩
    case round =>
      obtain ⟨k, O, hk, rfl, rfl, hO, hback, hbel⟩ := hrel
      have hsz := hbel.size
      by_cases hlt : k < N
      · have hc1 : wr.cell? ⟨gp, op + k, none⟩ = some (.string (T.getD k ByteArray.empty)) := by rw [hbel.cell (p := ⟨gp, op + k, none⟩) hgW]; exact hcellW k hlt
        have hstep := backT_succ T (UInt8.ofNat B.toNat) k
        have hfit : (backT T (UInt8.ofNat B.toNat) (k + 1)).length ≤ 6 := by
          have h1 := backT_le T (UInt8.ofNat B.toNat) (show k + 1 ≤ N by omega)
          rw [hall.out] at h1
          omega
        obtain ⟨U, hU⟩ : ∃ U, U = T.getD k ByteArray.empty := ⟨_, rfl⟩
        rw [← hU] at hc1 hstep
        clear hU
        by_cases hk0 : k = 0
        · have d0 : ¬ (0 : Int) < (k : Int) := by omega
          have hnext : Hid ((O ++ U).data.toList = backT T (UInt8.ofNat B.toNat) (k + 1)) := by
            show _ = _
            rw [hstep, ← hback.out, if_pos hk0]
            simp
          have hsize : (O ++ U).size ≤ 6 := by
            rw [Lib.size_eq, hnext.out]
            exact hfit
          have hU6 : U.size ≤ 6 := by rw [ByteArray.size_append] at hsize; omega
          clear hstep hfit hback hk0
          go_wp2
          go_roundw
          case rel => exact ⟨k + 1, _, by omega, rfl, by go_num, hsize, hnext, hbel⟩
          case measure => simp [intOf]; omega
        · have d0 : (0 : Int) < (k : Int) := by omega
          have g1 := conv1 wr B
          have hs1 := size1 B
          have hc2 : (wr.alloc (.cells #[.int .u8 B] 5)).cell? ⟨gp, op + k, none⟩ = some (.string U) := by
            rw [((Below.refl wr.heap.size wr).alloc (Nat.le_refl _) (.cells #[.int .u8 B] 5)).cell (p := ⟨gp, op + k, none⟩) (Nat.lt_of_lt_of_le hgW hsz)]
            exact hc1
          have hnext : Hid ((O ++ strOfNums [B] ++ U).data.toList = backT T (UInt8.ofNat B.toNat) (k + 1)) := by
            show _ = _
            rw [hstep, ← hback.out, if_neg hk0]
            simp [strOfNums]
          have hsize : (O ++ strOfNums [B] ++ U).size ≤ 6 := by
            rw [Lib.size_eq, hnext.out]
            exact hfit
          have hU6 : U.size ≤ 6 := by rw [ByteArray.size_append] at hsize; omega
          have hO2 : (O ++ strOfNums [B]).size ≤ 7 := by rw [ByteArray.size_append, hs1]; omega
          clear hstep hfit hback hc1
          go_wp2
          go_roundw
          case rel => exact ⟨k + 1, _, by omega, rfl, by go_num, hsize, hnext, hbel.alloc hsz _⟩
          case measure => simp [intOf]; omega
      · obtain rfl : k = N := by omega
        have hOt : O = t := by
          have e : O.data.toList = t.data.toList := by rw [hback.out, hall.out]
          cases O
          cases t
          simpa using e
        subst hOt
        clear hall hback hcellW
        go_wp2_with (fail)
        refine (hSpec _).mono ?_
        rintro e wz ⟨pz, cz, rfl, rz, bz⟩
        go_wp2_with (fail)
        go_ret
        exact ⟨rfl, below_on (below_on k9 hbel) bz⟩
  · have hn := (num_iff s).1 hY.symm
    have hb := val_bound hn.1
    have hVv : V = val s s.size := by rw [hV, numV, if_pos hY.symm]
    have hE : ByteArray.mk (Lib.itoa V).toArray = s := by rw [hVv]; exact hn.2.2
    have hV0 : -9223372036854775808 ≤ V := by omega
    have hV1 : V ≤ 9223372036854775807 := by omega
    have C := implDigits_any V w9 hV0 hV1 (Joins.tab_stays gPow htab k9 (Nat.le_refl _))
    rw [hE] at C
    clear hV hY hn hb hVv hE
    go_wp2_with (fail)
    refine C.mono ?_
    rintro e w10 ⟨rfl, b10⟩
    have k10 : Below w.heap.size w w10 := below_on k9 b10
    have b710 : Below w7.heap.size w7 w10 := below_on b79 b10
    clear C
    have b7x : Below w7.heap.size w7 w10 := b710
    have hgW : gp < w10.heap.size := Nat.lt_of_lt_of_le hgp b7x.size
    have hcellW : ∀ i, i < N → w10.cell? ⟨gp, op + i, none⟩ = some (.string (T.getD i ByteArray.empty)) := fun i hi => by rw [b7x.cell (p := ⟨gp, op + i, none⟩) hgp]; exact hcell i hi
    clear hcell
    go_wp2_with (fail)
    go_loopw [12, 13] (fun q r wr => ∃ (k : Nat) (O : ByteArray), k ≤ N ∧ q = .string O ∧ r = .int .i64 k ∧ O.size ≤ 6 ∧ Hid (O.data.toList = backT T (UInt8.ofNat B.toNat) k) ∧ Below w10.heap.size w10 wr) (fun _ r _ => N - (intOf r).toNat)
    case atStart => exact ⟨0, ByteArray.empty, Nat.zero_le _, rfl, rfl, by decide, by simp [Hid, backT, backL], Below.refl _ _⟩
    case round =>
      obtain ⟨k, O, hk, rfl, rfl, hO, hback, hbel⟩ := hrel
      have hsz := hbel.size
      by_cases hlt : k < N
      · have hc1 : wr.cell? ⟨gp, op + k, none⟩ = some (.string (T.getD k ByteArray.empty)) := by rw [hbel.cell (p := ⟨gp, op + k, none⟩) hgW]; exact hcellW k hlt
        have hstep := backT_succ T (UInt8.ofNat B.toNat) k
        have hfit : (backT T (UInt8.ofNat B.toNat) (k + 1)).length ≤ 6 := by
          have h1 := backT_le T (UInt8.ofNat B.toNat) (show k + 1 ≤ N by omega)
          rw [hall.out] at h1
          omega
        obtain ⟨U, hU⟩ : ∃ U, U = T.getD k ByteArray.empty := ⟨_, rfl⟩
        rw [← hU] at hc1 hstep
        clear hU
        by_cases hk0 : k = 0
        · have d0 : ¬ (0 : Int) < (k : Int) := by omega
          have hnext : Hid ((O ++ U).data.toList = backT T (UInt8.ofNat B.toNat) (k + 1)) := by
            show _ = _
            rw [hstep, ← hback.out, if_pos hk0]
            simp
          have hsize : (O ++ U).size ≤ 6 := by
            rw [Lib.size_eq, hnext.out]
            exact hfit
          have hU6 : U.size ≤ 6 := by rw [ByteArray.size_append] at hsize; omega
          clear hstep hfit hback hk0
          go_wp2
          go_roundw
          case rel => exact ⟨k + 1, _, by omega, rfl, by go_num, hsize, hnext, hbel⟩
          case measure => simp [intOf]; omega
        · have d0 : (0 : Int) < (k : Int) := by omega
          have g1 := conv1 wr B
          have hs1 := size1 B
          have hc2 : (wr.alloc (.cells #[.int .u8 B] 5)).cell? ⟨gp, op + k, none⟩ = some (.string U) := by
            rw [((Below.refl wr.heap.size wr).alloc (Nat.le_refl _) (.cells #[.int .u8 B] 5)).cell (p := ⟨gp, op + k, none⟩) (Nat.lt_of_lt_of_le hgW hsz)]
            exact hc1
          have hnext : Hid ((O ++ strOfNums [B] ++ U).data.toList = backT T (UInt8.ofNat B.toNat) (k + 1)) := by
            show _ = _
            rw [hstep, ← hback.out, if_neg hk0]
            simp [strOfNums]
          have hsize : (O ++ strOfNums [B] ++ U).size ≤ 6 := by
            rw [Lib.size_eq, hnext.out]
            exact hfit
          have hU6 : U.size ≤ 6 := by rw [ByteArray.size_append] at hsize; omega
          have hO2 : (O ++ strOfNums [B]).size ≤ 7 := by rw [ByteArray.size_append, hs1]; omega
          clear hstep hfit hback hc1
          go_wp2
          go_roundw
          case rel => exact ⟨k + 1, _, by omega, rfl, by go_num, hsize, hnext, hbel.alloc hsz _⟩
          case measure => simp [intOf]; omega
      · obtain rfl : k = N := by omega
        have hOt : O = t := by
          have e : O.data.toList = t.data.toList := by rw [hback.out, hall.out]
          cases O
          cases t
          simpa using e
        subst hOt
        clear hall hback hcellW
        go_wp2_with (fail)
        refine (hSpec _).mono ?_
        rintro e wz ⟨pz, cz, rfl, rz, bz⟩
        go_wp2_with (fail)
        go_ret
        exact ⟨rfl, below_on (below_on k10 hbel) bz⟩

set_option maxHeartbeats 2000000 in
theorem fnNumbers_great (p : Option Addr) (n c : Nat) (w : World) (hn : ¬ n ≤ 1048576) :
    Calls Tryd.prog 3 #[.slice p n c] w fun e w' => e = .returned (.bool true) ∧ Below w.heap.size w w' := by
  have B := big_great p n c w hn
  go_enter Tryd.func3, Tryd.ntmps3
  go_wp2_with (fail)
  refine B.mono ?_
  rintro e w1 ⟨rfl, b1⟩
  go_wp2_with (fail)
  go_ret
  exact ⟨rfl, b1⟩

theorem fnNumbers_any (p : Option Addr) (n c : Nat) (xs : List Int) (w : World) (hx : xs.length = n) (h : BytesIn w p n xs) (hr : ∀ x ∈ xs, 0 ≤ x ∧ x < 256)
    (htab : Lib.TabIs Tryd.prog w "internal/strconv.uint64pow10" .u64 Lib.pow10Tab) (hmax : MaxIs w) :
    Calls Tryd.prog 3 #[.slice p n c] w fun e w' => e = .returned (.bool true) ∧ Below w.heap.size w w' := by
  by_cases hn : n ≤ 1048576
  · exact fnNumbers_small p n c xs w hn hx h hr htab hmax
  · exact fnNumbers_great p n c w hn

end Go.Proofs.YtjcombfcilbafaeDoor
