/-
  What the laws' helpers over texts do: eqStringS compares, markStringS lays its marks, heldStringS finds them; conditions: at most 2^40 texts, marks from 1 to 2^40.
-/
import Derived.Test.YtjcombfcilbafajDoorPlainS
import Derived.Test.YtjcombfcilbafajDoorInfo
import Derived.Deep.RegionHeld3
namespace Go.Proofs.YtjcombfcilbafajDoor
open Go.RowKit

theorem infoStr : (Tryd.prog.info? 9).map (fun i => (i.zero, i.size, i.bytes)) = some (some (.string ByteArray.empty), 1, 16) := by kernel_rfl

theorem eqS_len (p q : Option Addr) (n m c d : Nat) (w : World) (hne : n ≠ m) :
    Calls Tryd.prog 6 #[.slice p n c, .slice q m d] w fun e w' => e = .returned (.bool false) ∧ Below w.heap.size w w' := by
  have hd : ((n : Int) != (m : Int)) = true := by simp; omega
  go_enter Tryd.func6, Tryd.ntmps6
  go_wp2
  go_ret
  exact ⟨rfl, Below.refl _ _⟩

set_option maxHeartbeats 1000000 in
theorem eqS_same (p q : Option Addr) (n c d : Nat) (xs ys : List ByteArray) (w : World) (hn : n ≤ 9223372036854775807) (hx : xs.length = n) (hy : ys.length = n) (h : StrsIn w p n xs) (h' : StrsIn w q n ys) :
    Calls Tryd.prog 6 #[.slice p n c, .slice q n d] w fun e w' => e = .returned (.bool (decide (xs = ys))) ∧ Below w.heap.size w w' := by
  have hd : ((n : Int) != (n : Int)) = false := by simp
  go_enter Tryd.func6, Tryd.ntmps6
  go_wp2
  go_loopw [5] (fun i wr => ∃ k : Nat, k ≤ n ∧ i = .int .i64 k ∧ Hid (xs.take k = ys.take k) ∧ ∃ m, wr = w.drewN m) (fun i _ => n - (intOf i).toNat)
  case atStart => exact ⟨0, Nat.zero_le _, rfl, by simp [Hid], 0, rfl⟩
  case round =>
    obtain ⟨k, hk, rfl, hsame, m, rfl⟩ := hrel
    by_cases hlt : k < n
    · obtain ⟨b, o, rfl, hc⟩ := h (by omega)
      obtain ⟨b', o', rfl, hc'⟩ := h' (by omega)
      have h1 := hc k hlt
      have h2 := hc' k hlt
      obtain ⟨u, hu⟩ : ∃ u, u = xs.getD k ByteArray.empty := ⟨_, rfl⟩
      obtain ⟨v, hv⟩ : ∃ v, v = ys.getD k ByteArray.empty := ⟨_, rfl⟩
      rw [← hu] at h1
      rw [← hv] at h2
      clear hc hc' h h'
      by_cases huv : u = v
      · subst huv
        have hmore : Hid (xs.take (k + 1) = ys.take (k + 1)) := take_moreS hx hy hlt hsame (by rw [← hu, ← hv])
        clear hu hv hsame
        go_wp2
        go_quiet (fail)
        go_wp2
        go_roundw
        case rel => exact ⟨k + 1, by omega, by go_num, hmore, _, rfl⟩
        case measure => simp [intOf]; omega
      · have hd2 := text_ne huv
        have hne : Hid (decide (xs = ys) = false) := by
          have : xs ≠ ys := fun e => huv (by rw [hu, hv, e])
          simpa [Hid] using this
        clear hu hv hsame huv
        go_wp2
        go_quiet (fail)
        go_wp2
        go_ret
        rw [hne.out, World.drewN_drewN]
        exact ⟨rfl, below_drewN (Below.refl _ _) _⟩
    · have hkn : k = n := by omega
      subst hkn
      have hall : Hid (decide (xs = ys) = true) := by simpa [Hid] using take_allS hx hy hsame
      clear hsame
      go_wp2
      go_ret
      rw [hall.out]
      exact ⟨rfl, below_drewN (Below.refl _ _) _⟩

theorem eqStringS_any (p q : Option Addr) (n m c d : Nat) (xs ys : List ByteArray) (w : World) (hn : n ≤ 9223372036854775807) (hx : xs.length = n) (hy : ys.length = m) (h : StrsIn w p n xs) (h' : StrsIn w q m ys) :
    Calls Tryd.prog 6 #[.slice p n c, .slice q m d] w fun e w' => e = .returned (.bool (decide (xs = ys))) ∧ Below w.heap.size w w' := by
  by_cases hnm : n = m
  · subst hnm
    exact eqS_same p q n c d xs ys w hn hx hy h h'
  · have : decide (xs = ys) = false := by
      simp only [decide_eq_false_iff_not]
      intro e
      subst e
      omega
    rw [this]
    exact eqS_len p q n m c d w hnm

theorem conv1 (w : World) (X : Int) : (convert 29 9 (.slice (some ⟨w.heap.size, 0, none⟩) 1 1)).run Tryd.prog (w.alloc (.cells #[.int .u8 X] 5)) = .ok (.string (strOfNums [X])) (w.alloc (.cells #[.int .u8 X] 5)) := by
  refine text_of (xs := [X]) (fun _ => ⟨w.heap.size, 0, rfl, fun i hi => ?_⟩) rfl 1 29 5 9 Tryd.underlying29 Tryd.underlying5 Tryd.underlying9
  obtain rfl : i = 0 := by simp at hi; omega
  rw [cell_of_row _ _ _ _ _ _ (heap_alloc_new w _)]
  rfl
theorem size1 (X : Int) : (strOfNums [X]).size = 1 := strOfNums_size [X]
theorem str_eq {O : ByteArray} {l : List UInt8} (h : O.data.toList = l) : O = ⟨l.toArray⟩ := by
  cases O; subst h; simp
theorem pow_step {u v k : Nat} (h : v * 10 ^ k ≤ u) : v / 10 * 10 ^ (k + 1) ≤ u := by
  refine Nat.le_trans ?_ h
  rw [Nat.pow_succ, Nat.mul_comm (10 ^ k) 10, ← Nat.mul_assoc]
  exact Nat.mul_le_mul_right _ (by omega)
theorem pow_less {u v k : Nat} (h : v * 10 ^ k ≤ u) (hk : k ≤ 20) (hv : v ≠ 0) (hu : u < 10 ^ 20) : k < 20 := by
  rcases Nat.lt_or_ge k 20 with h' | h'
  · exact h'
  · exfalso
    obtain rfl : k = 20 := by omega
    have : v * 10 ^ 20 ≥ 1 * 10 ^ 20 := Nat.mul_le_mul_right _ (by omega)
    omega
theorem told_data (X : Int) (O : ByteArray) : (strOfNums [X] ++ O).data.toList = UInt8.ofNat X.toNat :: O.data.toList := by
  simp [strOfNums]
theorem told_step {u v : Nat} {l : List UInt8} (h : (if v = 0 then l else Lib.decDigits v ++ l) = Lib.decDigits u) (hv : v ≠ 0) :
    (if v / 10 = 0 then UInt8.ofNat (48 + v % 10) :: l else Lib.decDigits (v / 10) ++ (UInt8.ofNat (48 + v % 10) :: l)) = Lib.decDigits u := by
  rw [if_neg hv] at h
  rw [← h]
  by_cases h10 : v < 10
  · rw [if_pos (by omega), Lib.decDigits, dif_pos h10, show v % 10 = v by omega]
    rfl
  · rw [if_neg (by omega)]
    conv => rhs; rw [Lib.decDigits, dif_neg h10]
    simp

set_option maxHeartbeats 2000000 in
theorem markText_any (u : Nat) (w : World) (h1 : 1 ≤ u) (h2 : u ≤ 9223372036854775807) :
    Calls Tryd.prog 10 #[.int .i64 u] w fun e w' => e = .returned (.string (mt u)) ∧ Below w.heap.size w w' := by
  have c1 : ¬ (u : Int) ≤ 0 := by omega
  go_enter Tryd.func10, Tryd.ntmps10
  go_wp2
  go_loopw [0, 3] (fun q t wr => ∃ (v k : Nat) (O : ByteArray), v ≤ u ∧ q = .int .i64 v ∧ t = .string O ∧ O.size ≤ k ∧ v * 10 ^ k ≤ u ∧ k ≤ 20 ∧ Hid ((if v = 0 then O.data.toList else Lib.decDigits v ++ O.data.toList) = Lib.decDigits u) ∧ Below w.heap.size w wr)
    (fun q _ _ => (intOf q).toNat)
  case atStart => exact ⟨u, 0, ByteArray.empty, Nat.le_refl _, rfl, rfl, by decide, by omega, by omega, by rw [if_neg (by omega)]; simp [Hid], Below.refl _ _⟩
  case round =>
    obtain ⟨v, k, O, hv, rfl, rfl, hO, hvk, hk, htold, hbel⟩ := hrel
    have hsz := hbel.size
    by_cases hz : v = 0
    · subst hz
      have hO2 : Hid (O = ⟨(Lib.decDigits u).toArray⟩) := str_eq (by have := htold.out; simpa using this)
      clear htold
      have d0 : ¬ (0 : Int) < ((0 : Nat) : Int) := by omega
      go_wp2
      go_ret
      rw [hO2.out]
      refine ⟨?_, hbel⟩
      congr 2
    · have d0 : (0 : Int) < (v : Int) := by omega
      have g := fun X => conv1 wr X
      have hs1 := size1
      have hk19 := pow_less hvk hk hz (by omega)
      have hnext : Hid ((if v / 10 = 0 then (strOfNums [48 + (v : Int) % 10] ++ O).data.toList else Lib.decDigits (v / 10) ++ (strOfNums [48 + (v : Int) % 10] ++ O).data.toList) = Lib.decDigits u) := by
        have := told_step htold.out hz
        rw [told_data, show (48 + (v : Int) % 10).toNat = 48 + v % 10 by omega]
        exact this
      have hsize : (strOfNums [48 + (v : Int) % 10] ++ O).size ≤ k + 1 := by rw [ByteArray.size_append, size1]; omega
      have hpow := pow_step hvk
      clear htold hvk
      go_wp2
      go_roundw
      case rel => exact ⟨v / 10, k + 1, _, by omega, by go_num, rfl, hsize, hpow, by omega, hnext, hbel.alloc hsz _⟩
      case measure => simp [intOf]; omega

set_option maxHeartbeats 1000000 in
theorem markStringS_own (lo hi : Nat) (p : Option Addr) (n c : Nat) (xs : List ByteArray) (k : Nat) (w : World) (hn : n ≤ 1099511627776) (hk : 1 ≤ k) (hk2 : k ≤ 1099511627776)
    (h : OwnS 9 w lo hi (.slice p n c) n xs) :
    Calls Tryd.prog 7 #[.slice p n c, .int .i64 k] w fun e w' => e = .returned (.int .i64 ((k : Int) + n)) ∧
      OwnS 9 w' lo hi (.slice p n c) n (marksS k n) ∧ w.grownBy w' (Value.ownBlock (.slice p n c)) := by
  have hx := h.len
  obtain ⟨hown0, hhi⟩ := h
  go_enter Tryd.func7, Tryd.ntmps7
  go_wp2
  go_loopw [1, 5] (fun q i wr => ∃ j : Nat, j ≤ n ∧ i = .int .i64 j ∧ q = .int .i64 ((k : Int) + j) ∧ wr.ownsRow lo 9 1 (.slice p n c) n ((marksS k j ++ xs.drop j).map Value.string) ∧ w.grownBy wr (Value.ownBlock (.slice p n c)))
    (fun _ i _ => n - (intOf i).toNat)
  case atStart => exact ⟨0, Nat.zero_le _, rfl, by simp, by simpa [marksS] using hown0, World.grownBy.refl _ _⟩
  case round =>
    clear hown0
    obtain ⟨j, hj, rfl, rfl, hown, hgr⟩ := hrel
    by_cases hlt : j < n
    · obtain ⟨g, rfl⟩ := owns_at hown (by omega)
      go_wp2_with (fail)
      rw [show ((k : Int) + (j : Int)) = ((k + j : Nat) : Int) from by omega]
      refine (markText_any (k + j) _ (by omega) (by omega)).mono ?_
      rintro e w1 ⟨rfl, b1⟩
      have hown1 := owns_below hown b1
      obtain ⟨v, hv⟩ := marksS_old k xs n j hlt hx
      have hold : w1.cell? ⟨g, j, none⟩ = some (.string v) := by
        rw [hown1.cellAt j (by omega)]; exact hv
      have hfz := hown1.frozenAt j
      have hst := hown1.stored j (.string (mt (k + j)))
      rw [marksS_step k xs n j hlt hx] at hst
      have hgr1 : w.grownBy w1 (Value.ownBlock (.slice (some ⟨g, 0, none⟩) n c)) := grown_trans hgr ⟨b1.os, b1.tape, b1.output, b1.size, fun i hi _ => b1.block i hi⟩
      clear hv
      rw [show ((k + j : Nat) : Int) = (k : Int) + (j : Int) from by omega]
      go_wp2_with (fail)
      go_roundw
      case rel => exact ⟨j + 1, by omega, by go_num, by go_num, hst.1, grown_trans hgr1 hst.2⟩
      case measure => simp [intOf]; omega
    · have hjn : j = n := by omega
      subst hjn
      rw [marksS_end k xs j hx] at hown
      go_wp2
      go_ret
      exact ⟨rfl, ⟨hown, hhi⟩, hgr⟩

set_option maxHeartbeats 1000000 in
theorem heldStringS_any (p : Option Addr) (n c k : Nat) (w : World) (hn : n ≤ 1099511627776) (hk : 1 ≤ k) (hk2 : k ≤ 1099511627776) (h : StrsIn w p n (marksS k n)) :
    Calls Tryd.prog 8 #[.slice p n c, .int .i64 k] w fun e w' => e = .returned (.int .i64 ((k : Int) + n)) ∧ Below w.heap.size w w' := by
  go_enter Tryd.func8, Tryd.ntmps8
  go_wp2
  go_loopw [1, 5] (fun q i wr => ∃ j : Nat, j ≤ n ∧ i = .int .i64 j ∧ q = .int .i64 ((k : Int) + j) ∧ Below w.heap.size w wr) (fun _ i _ => n - (intOf i).toNat)
  case atStart => exact ⟨0, Nat.zero_le _, rfl, by simp, Below.refl _ _⟩
  case round =>
    obtain ⟨j, hj, rfl, rfl, hbel⟩ := hrel
    by_cases hlt : j < n
    · obtain ⟨b, o, rfl, hc⟩ := h (by omega)
      have h0 := hc j hlt
      rw [marksS_getD k n j hlt] at h0
      have hblt := World.block_lt_of_cell? w ⟨b, o + j, none⟩ h0
      have h1 : wr.cell? ⟨b, o + j, none⟩ = some (.string (mt (k + j))) := by rw [hbel.cell (p := ⟨b, o + j, none⟩) hblt]; exact h0
      have hC := fun w' => markText_any (k + j) w' (by omega) (by omega)
      rw [show ((k + j : Nat) : Int) = (k : Int) + (j : Int) by omega] at hC
      have hsz := hbel.size
      have hblt2 : b < wr.heap.size := Nat.lt_of_lt_of_le hblt hsz
      clear hc h h0
      go_wp2
      go_region_held3 (fun w' => w'.cell? ⟨b, o + j, none⟩ = some (.string (mt (k + j)))) (first | assumption | exact h1) (first | (go_at_call 10; refine (hC _).mono ?_; rintro e w2 ⟨rfl, b2⟩; have hkeep := (b2.cell (p := ⟨b, o + j, none⟩) hblt2).trans h1))
      all_goals
        go_wp2
        go_roundw
        case rel => exact ⟨j + 1, by omega, by go_num, by go_num, below_on hbel.drew b2⟩
        case measure => simp [intOf]; omega
    · have hjn : j = n := by omega
      subst hjn
      go_wp2
      go_ret
      exact ⟨rfl, hbel⟩

end Go.Proofs.YtjcombfcilbafajDoor
