/-
  What spec.Number and impl.Number answer at every text of at most 1048576 signs, where the table of tens holds what its text says.
-/
import Derived.Test.YtjcombfcilbafaeDoorImplDigits
import Derived.Lib.OthersKept
namespace Go.Proofs.YtjcombfcilbafaeDoor
open Go.RowKit

/-- The byte of a text at a place. -/
def ch (s : ByteArray) (i : Nat) : Int := (s.data.toList.getD i 0).toNat
theorem ch_at (s : ByteArray) (i : Nat) (pf : i < s.size) : ((s[i]'pf).toNat : Int) = ch s i := by
  unfold ch
  rw [List.getD_eq_getElem?_getD, List.getElem?_eq_getElem (by simpa using pf)]
  rfl
theorem ch_lt (s : ByteArray) (i : Nat) : 0 ≤ ch s i ∧ ch s i < 256 := by
  unfold ch
  have := (s.data.toList.getD i 0).toNat_lt
  omega

/-- The number of the first k signs. -/
def val (s : ByteArray) : Nat → Int
  | 0 => 0
  | k + 1 => 10 * val s k + (ch s k - 48)
def digB (s : ByteArray) (j : Nat) : Bool := decide (48 ≤ ch s j ∧ ch s j ≤ 57)
def numB (s : ByteArray) : Bool := (List.range s.size).all (digB s) && decide (val s s.size ≤ 999999) && decide (ByteArray.mk (Lib.itoa (val s s.size)).toArray = s)
def numV (s : ByteArray) : Int := if numB s = true then val s s.size else 0

theorem val_bound {s : ByteArray} {k : Nat} (h : ∀ j, j < k → digB s j = true) : 0 ≤ val s k ∧ val s k < 10 ^ k := by
  induction k with
  | zero => simp [val]
  | succ k ih =>
    have h1 := ih fun j hj => h j (by omega)
    have h2 := h k (by omega)
    simp only [digB, decide_eq_true_eq] at h2
    simp only [val, Int.pow_succ]
    omega
theorem val_mono {s : ByteArray} {k m : Nat} (hkm : k ≤ m) (h : ∀ j, j < m → digB s j = true) : val s k ≤ val s m := by
  induction m with
  | zero => obtain rfl : k = 0 := by omega
            exact Int.le_refl _
  | succ m ih =>
    rcases Nat.lt_or_ge m k with hlt | hge
    · obtain rfl : k = m + 1 := by omega
      exact Int.le_refl _
    · have h1 := ih hge fun j hj => h j (by omega)
      have h2 := h m (by omega)
      have h3 := val_bound (s := s) (k := m) fun j hj => h j (by omega)
      simp only [digB, decide_eq_true_eq] at h2
      simp only [val]
      omega

theorem num_iff (s : ByteArray) : numB s = true ↔ (∀ j, j < s.size → digB s j = true) ∧ val s s.size ≤ 999999 ∧ ByteArray.mk (Lib.itoa (val s s.size)).toArray = s := by
  simp [numB, and_assoc]
theorem num_bad {s : ByteArray} {j : Nat} (hj : j < s.size) (h : digB s j = false) : numB s = false := by
  rw [Bool.eq_false_iff]
  intro hg
  rw [((num_iff s).1 hg).1 j hj] at h
  cases h
theorem num_great {s : ByteArray} {k : Nat} (hk : k ≤ s.size) (h : 999999 < val s k) : numB s = false := by
  rw [Bool.eq_false_iff]
  intro hg
  have h1 := (num_iff s).1 hg
  have := val_mono hk h1.1
  omega
theorem num_other {s : ByteArray} (h : ByteArray.mk (Lib.itoa (val s s.size)).toArray ≠ s) : numB s = false := by
  rw [Bool.eq_false_iff]
  intro hg
  exact h ((num_iff s).1 hg).2.2
theorem nDigits_le (k : Nat) : ∀ u : Nat, u < 10 ^ (k + 1) → Lib.nDigits u ≤ k + 1 := by
  induction k with
  | zero => intro u hu; rw [Lib.nDigits_small (by omega)]; omega
  | succ k ih =>
    intro u hu
    by_cases h : u < 10
    · rw [Lib.nDigits_small h]; omega
    · rw [Lib.nDigits_big h]
      have := ih (u / 10) (by rw [Nat.pow_succ] at hu; omega)
      omega
theorem num_len {s : ByteArray} (h : s.size < 1 ∨ 6 < s.size) : numB s = false := by
  rw [Bool.eq_false_iff]
  intro hg
  obtain ⟨h1, h2, h3⟩ := (num_iff s).1 hg
  have hb := val_bound h1
  obtain ⟨u, hu⟩ : ∃ u : Nat, val s s.size = u := ⟨(val s s.size).toNat, by omega⟩
  rw [hu, Lib.itoa_nonneg] at h3
  have hl : s.size = Lib.nDigits u := by
    rw [← Lib.decDigits_length, ← h3]
    simp [ByteArray.size]
  have h6 := nDigits_le 5 u (by omega)
  have h0 := Lib.nDigits_pos u
  omega

theorem pow6 (k : Nat) (h : k ≤ 6) : (10 : Int) ^ k ≤ 1000000 := by
  have all : ∀ k : Fin 7, (10 : Int) ^ k.val ≤ 1000000 := by decide
  exact all ⟨k, by omega⟩
theorem str_ne {l : List UInt8} {s : ByteArray} (h : ByteArray.mk l.toArray ≠ s) : (l == s.toList) = false := by
  rw [beq_eq_false_iff_ne]
  intro e
  rw [ByteArray.toList_eq] at e
  apply h
  cases s
  subst e
  simp

theorem no_end {s : ByteArray} (hb : numB s = false) : Ending.returned (.tuple #[.int .i64 0, .bool false]) = .returned (.tuple #[.int .i64 (numV s), .bool (numB s)]) := by
  rw [show numV s = 0 by simp [numV, hb], hb]
theorem yes_end {s : ByteArray} (hb : numB s = true) : Ending.returned (.tuple #[.int .i64 (val s s.size), .bool true]) = .returned (.tuple #[.int .i64 (numV s), .bool (numB s)]) := by
  rw [show numV s = val s s.size by simp [numV, hb], hb]

theorem ch_int (s : ByteArray) (i : Nat) (n : Int) (h : n = (i : Int)) (pf : n.toNat < s.size) : ((s[n.toNat]'pf).toNat : Int) = ch s i := by
  subst h
  exact ch_at s i pf

set_option maxHeartbeats 2000000 in
theorem specNumber_any (s : ByteArray) (w : World) (hs : s.size ≤ 1048576) :
    Calls Tryd.prog 8 #[.string s] w fun e w' => e = .returned (.tuple #[.int .i64 (numV s), .bool (numB s)]) ∧ Below w.heap.size w w' := by
  by_cases h1 : s.size < 1
  · have hB : Hid (numB s = false) := num_len (.inl h1)
    have c1 : (s.size : Int) < 1 := by omega
    go_enter Tryd.func8, Tryd.ntmps8
    go_wp2
    go_ret2
    exact ⟨no_end hB.out, Below.refl _ _⟩
  · by_cases h6 : 6 < s.size
    · have hB : Hid (numB s = false) := num_len (.inr h6)
      have c1 : ¬ (s.size : Int) < 1 := by omega
      have c2 : (6 : Int) < (s.size : Int) := by omega
      go_enter Tryd.func8, Tryd.ntmps8
      go_wp2
      go_ret2
      exact ⟨no_end hB.out, Below.refl _ _⟩
    · have c1 : ¬ (s.size : Int) < 1 := by omega
      have c2 : ¬ (6 : Int) < (s.size : Int) := by omega
      go_enter Tryd.func8, Tryd.ntmps8
      go_wp2
      go_loop [4, 5] (fun q i => ∃ k : Nat, k ≤ s.size ∧ i = .int .i64 k ∧ q = .int .i64 (val s k) ∧ Hid (∀ j, j < k → digB s j = true)) (fun _ i => s.size - (intOf i).toNat)
      case atStart => exact ⟨0, Nat.zero_le _, rfl, rfl, fun j hj => by omega⟩
      case round =>
        obtain ⟨k, hk, rfl, rfl, hgood⟩ := hrel
        have hb := val_bound hgood.out
        have hb2 : val s k ≤ 999999 := by
          have h10 := pow6 k (by omega)
          omega
        by_cases hlt : k < s.size
        · have i2 : (k : Int) < (s.size : Int) := by omega
          have ex := ch_at s k hlt
          have hc := ch_lt s k
          by_cases d1 : ch s k < 48
          · have hB : Hid (numB s = false) := num_bad hlt (by simp [digB]; omega)
            clear hgood
            go_wp2
            go_ret2
            exact ⟨no_end hB.out, Below.refl _ _⟩
          · by_cases d2 : 57 < ch s k
            · have hB : Hid (numB s = false) := num_bad hlt (by simp [digB]; omega)
              clear hgood
              go_wp2
              go_ret2
              exact ⟨no_end hB.out, Below.refl _ _⟩
            · have hG : Hid (∀ j, j < k + 1 → digB s j = true) := by
                intro j hj
                rcases Nat.lt_or_ge j k with h | h
                · exact hgood.out j h
                · obtain rfl : j = k := by omega
                  simp [digB]; omega
              have hV : Hid (10 * val s k + ch s k - 48 = val s (k + 1)) := by show _ = 10 * val s k + (ch s k - 48); omega
              clear hgood
              obtain ⟨hb0, hb1⟩ := hb
              go_wp2
              go_round
              case rel => exact ⟨k + 1, by omega, by go_num, by rw [hV.out], hG⟩
              case measure => simp [intOf]; omega
        · obtain rfl : k = s.size := by omega
          go_wp2_with (fail)
          refine (specDigits_any (val s s.size) _ (by omega) (by omega)).mono ?_
          rintro e w1 ⟨rfl, b1⟩
          by_cases hE : ByteArray.mk (Lib.itoa (val s s.size)).toArray = s
          · have hB : Hid (numB s = true) := (num_iff s).2 ⟨hgood.out, hb2, hE⟩
            rw [hE]
            clear hgood hE
            go_wp2_with (fail)
            go_ret2
            exact ⟨yes_end hB.out, b1⟩
          · have hB : Hid (numB s = false) := num_other hE
            have hne := str_ne hE
            clear hgood hE
            go_wp2_with (fail)
            go_ret2
            exact ⟨no_end hB.out, b1⟩

theorem dig_rune (s : ByteArray) (pos : Nat) (h : pos < s.size) : ∃ R wd : Nat, Utf8.decode s pos = (R, wd) ∧ (48 ≤ (R : Int) ∧ (R : Int) ≤ 57 → (R : Int) = ch s pos ∧ wd = 1) ∧ (¬ (48 ≤ (R : Int) ∧ (R : Int) ≤ 57) → digB s pos = false) ∧ R ≤ 2147483647 := by
  have e := ch_at s pos h
  have hle := decode_le s pos
  by_cases ha : (s[pos]'h).toNat < 128
  · refine ⟨_, _, decode_ascii s pos h ha, fun _ => ⟨e, rfl⟩, fun hl => ?_, by omega⟩
    rw [digB, ← e]; simpa using hl
  · have hh := decode_high s pos h (by omega)
    refine ⟨(Utf8.decode s pos).1, (Utf8.decode s pos).2, rfl, fun hl => ?_, fun _ => ?_, hle⟩
    · omega
    · rw [digB, ← e]; simp; omega

set_option maxHeartbeats 2000000 in
theorem implNumber_any (s : ByteArray) (w : World) (_hs : s.size ≤ 1048576) (htab : Lib.TabIs Tryd.prog w "internal/strconv.uint64pow10" .u64 Lib.pow10Tab) :
    Calls Tryd.prog 7 #[.string s] w fun e w' => e = .returned (.tuple #[.int .i64 (numV s), .bool (numB s)]) ∧ Below w.heap.size w w' := by
  go_enter Tryd.func7, Tryd.ntmps7
  go_wp2
  go_loopw [4] (fun q wr => ∃ pos : Nat, pos ≤ s.size ∧ q = .int .i64 (val s pos) ∧ Hid (∀ j, j < pos → digB s j = true) ∧ val s pos ≤ 999999 ∧ wr.heap[w.heap.size]? = some (.stringIter s pos) ∧ Below w.heap.size w wr)
    (fun _ wr => s.size - wr.iterPos w.heap.size)
  case atStart => exact ⟨0, Nat.zero_le _, rfl, (fun j hj => by omega), by simp [val], World.iter_heap w s 0, (Below.refl _ _).alloc (Nat.le_refl _) _⟩
  case round =>
    obtain ⟨pos, hpos, rfl, hgood, hv, hit, hbel⟩ := hrel
    have hb := (val_bound hgood.out).1
    by_cases hlt : pos < s.size
    · have hnx : ∀ ty, (Instr.next (.pointer (some ⟨w.heap.size, 0, none⟩)) true ty).run Tryd.prog wr = _ := fun ty => Lib.run_next_any_at wr w.heap.size s pos ty hit hlt
      obtain ⟨R, wd, hdec, hr1, hr2, hr3⟩ := dig_rune s pos hlt
      simp only [hdec] at hnx
      clear hdec
      have hit2 := Lib.iterAt_heap wr w.heap.size s pos (pos + wd) hit
      have hbel2 := Lib.below_iterAt hbel (Nat.le_refl _) s (pos + wd)
      by_cases d1 : (R : Int) < 48
      · have hB : Hid (numB s = false) := num_bad hlt (hr2 (by omega))
        clear hgood hr1 hr2
        go_wp2
        go_ret2
        exact ⟨no_end hB.out, hbel2⟩
      · by_cases d2 : 57 < (R : Int)
        · have hB : Hid (numB s = false) := num_bad hlt (hr2 (by omega))
          clear hgood hr1 hr2
          go_wp2
          go_ret2
          exact ⟨no_end hB.out, hbel2⟩
        · obtain ⟨hRc, rfl⟩ := hr1 (by omega)
          have hG : Hid (∀ j, j < pos + 1 → digB s j = true) := by
            intro j hj
            rcases Nat.lt_or_ge j pos with h | h
            · exact hgood.out j h
            · obtain rfl : j = pos := by omega
              simp [digB]; omega
          have hV : val s pos * 10 + ((R : Int) - 48) = val s (pos + 1) := by show _ = 10 * val s pos + (ch s pos - 48); omega
          have hV' : Hid (val s pos * 10 + ((R : Int) - 48) = val s (pos + 1)) := hV
          by_cases hbig : 999999 < val s (pos + 1)
          · have hB : Hid (numB s = false) := num_great (k := pos + 1) (by omega) hbig
            have hbig2 : 999999 < val s pos * 10 + ((R : Int) - 48) := by omega
            clear hgood hr1 hr2 hV hRc
            go_wp2
            go_ret2
            exact ⟨no_end hB.out, hbel2⟩
          · have hbig2 : ¬ 999999 < val s pos * 10 + ((R : Int) - 48) := by omega
            clear hgood hr1 hr2 hV hRc
            go_wp2
            go_roundw
            case rel => exact ⟨pos + 1, by omega, by rw [hV'.out], hG, by omega, hit2, hbel2⟩
            case measure => rw [World.iterPos, World.iterPos, hit2, hit]; simp; omega
    · obtain rfl : pos = s.size := by omega
      have hnx : ∀ ty, (Instr.next (.pointer (some ⟨w.heap.size, 0, none⟩)) true ty).run Tryd.prog wr = _ := fun ty => Lib.run_next_end_at wr w.heap.size s s.size ty hit hlt
      go_wp2_with (fail)
      refine (implDigits_any (val s s.size) _ (by omega) (by omega) (Joins.tab_stays gPow htab hbel (Nat.le_refl _))).mono ?_
      rintro e w1 ⟨rfl, b1⟩
      have k1 := below_on hbel b1
      by_cases hE : ByteArray.mk (Lib.itoa (val s s.size)).toArray = s
      · have hB : Hid (numB s = true) := (num_iff s).2 ⟨hgood.out, hv, hE⟩
        rw [hE]
        clear hgood hE
        go_wp2_with (fail)
        go_ret2
        exact ⟨yes_end hB.out, k1⟩
      · have hB : Hid (numB s = false) := num_other hE
        have hne := str_ne hE
        clear hgood hE
        go_wp2_with (fail)
        go_ret2
        exact ⟨no_end hB.out, k1⟩

end Go.Proofs.YtjcombfcilbafaeDoor
