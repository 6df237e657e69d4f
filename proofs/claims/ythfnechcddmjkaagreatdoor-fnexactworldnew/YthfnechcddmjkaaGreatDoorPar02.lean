/-
  The byte's row of the program's table of types.
  What the laws' helper eqByteS does, whatever bytes it is given: it compares; no condition but that a length is an int's.
  What the laws' helper toByteS does, whatever bytes it is given: it copies them; condition: at most 1048576 bytes.
  What the laws' helpers that mark bytes do: markByteS lays its marks, heldByteS finds them; conditions: at most 2^40 bytes, marks from 0 to 2^40.
  What spec.Same and impl.Same answer, whatever bytes they are given; no condition.
  FnExactUnhex: what spec.Unhex and impl.Unhex answer; conditions: at most 1048576 signs.
  What spec.Little and impl.Little answer at every argument; no condition but that n is an int.
  What slices.Reverse does to a row of bytes that the call owns, whatever its block's type; condition: at most 2^40 bytes.
  What spec.Great and impl.Great answer at every argument; no condition but that n is an int.
  A row of bytes 0 that is made; the beginning of a row.
  Numbers for words of 32 bits: what is left by 2^32 and by 32 as the masks tell it, and a word turned left, as the two or's of its parts tell it; each at its own bounds.
  What the program's greatNumber answers of at most four bytes: the number that they are, great; condition: they are bytes.
  Slices of slices of bytes; what lies there. No conditions beyond each fact's own.
  FnExactHex: what spec.Hex and impl.Hex answer; conditions: at most 1048576 bytes.
-/
import Derived.Test.YthfnechcddmjkaaGreatDoorPar01
import Derived.Test.YthfnechcddmjkaaGreatDoorChecked
import Derived.Deep.QuietTactic
import Derived.BigQuiet
namespace Go.Proofs.YthfnechcddmjkaaGreatDoor
open Go.RowKit
set_option maxRecDepth 100000

theorem infoByte : (Tryz.prog.info? 5).map (fun i => (i.zero, i.size, i.bytes)) = some (some (.int .u8 0), 1, 1) := by kernel_rfl

end Go.Proofs.YthfnechcddmjkaaGreatDoor

namespace Go.Proofs.YthfnechcddmjkaaGreatDoor
open Go.RowKit
set_option maxRecDepth 100000

theorem eq_len (p q : Option Addr) (n m c d : Nat) (w : World) (hne : n ≠ m) :
    Calls Tryz.prog 9 #[.slice p n c, .slice q m d] w fun e w' => e = .returned (.bool false) ∧ Below w.heap.size w w' := by
  have hd : ((n : Int) != (m : Int)) = true := by simp; omega
  go_enter Tryz.func9, Tryz.ntmps9
  go_wp2
  go_ret
  exact ⟨rfl, Below.refl _ _⟩

set_option maxHeartbeats 1000000 in
theorem eq_same (p q : Option Addr) (n c d : Nat) (xs ys : List Int) (w : World) (hn : n ≤ 9223372036854775807) (hx : xs.length = n) (hy : ys.length = n) (h : BytesIn w p n xs) (h' : BytesIn w q n ys) :
    Calls Tryz.prog 9 #[.slice p n c, .slice q n d] w fun e w' => e = .returned (.bool (decide (xs = ys))) ∧ Below w.heap.size w w' := by
  have hd : ((n : Int) != (n : Int)) = false := by simp
  go_enter Tryz.func9, Tryz.ntmps9
  go_wp2
  go_loopw [5] (fun i wr => ∃ k : Nat, k ≤ n ∧ i = .int .i64 k ∧ Hid (xs.take k = ys.take k) ∧ ∃ m, wr = w.drewN m) (fun i _ => n - (intOf i).toNat)
  case atStart => exact ⟨0, Nat.zero_le _, rfl, by simp [Hid], 0, rfl⟩
  case round =>
    obtain ⟨k, hk, rfl, hsame, m, rfl⟩ := hrel
    by_cases hlt : k < n
    · obtain ⟨b, o, rfl, hc⟩ := h (by omega)
      obtain ⟨b', o', rfl, hc'⟩ := h' (by omega)
      have h1 := hc k hlt
      have h2 := hc' k hlt
      obtain ⟨u, hu⟩ : ∃ u, u = xs.getD k 0 := ⟨_, rfl⟩
      obtain ⟨v, hv⟩ : ∃ v, v = ys.getD k 0 := ⟨_, rfl⟩
      rw [← hu] at h1
      rw [← hv] at h2
      clear hc hc' h h'
      by_cases huv : u = v
      · subst huv
        have hd2 : (u != u) = false := by simp
        have hmore : Hid (xs.take (k + 1) = ys.take (k + 1)) := take_more hx hy hlt hsame (by rw [← hu, ← hv])
        clear hu hv hsame
        go_wp2
        go_quiet (fail)
        go_wp2
        go_roundw
        case rel => exact ⟨k + 1, by omega, by go_num, hmore, _, rfl⟩
        case measure => simp [intOf]; omega
      · have hd2 : (u != v) = true := by simpa using huv
        have hne : Hid (decide (xs = ys) = false) := by have := take_less (k := k) (xs := xs) (ys := ys) (by rw [← hu, ← hv]; exact huv); simpa [Hid] using this
        clear hu hv hsame huv
        go_wp2
        go_quiet (fail)
        go_wp2
        go_ret
        rw [hne.out, World.drewN_drewN]
        exact ⟨rfl, below_drewN (Below.refl _ _) _⟩
    · have hkn : k = n := by omega
      subst hkn
      have hall : Hid (decide (xs = ys) = true) := by simpa [Hid] using take_all hx hy hsame
      clear hsame
      go_wp2
      go_ret
      rw [hall.out]
      exact ⟨rfl, below_drewN (Below.refl _ _) _⟩

theorem eqByteS_any (p q : Option Addr) (n m c d : Nat) (xs ys : List Int) (w : World) (hn : n ≤ 9223372036854775807) (hx : xs.length = n) (hy : ys.length = m) (h : BytesIn w p n xs) (h' : BytesIn w q m ys) :
    Calls Tryz.prog 9 #[.slice p n c, .slice q m d] w fun e w' => e = .returned (.bool (decide (xs = ys))) ∧ Below w.heap.size w w' := by
  by_cases hnm : n = m
  · subst hnm
    exact eq_same p q n c d xs ys w hn hx hy h h'
  · have : decide (xs = ys) = false := by
      simp only [decide_eq_false_iff_not]
      intro e
      subst e
      omega
    rw [this]
    exact eq_len p q n m c d w hnm

end Go.Proofs.YthfnechcddmjkaaGreatDoor

namespace Go.Proofs.YthfnechcddmjkaaGreatDoor
open Go.RowKit
set_option maxRecDepth 100000

set_option maxHeartbeats 1000000 in
theorem toByteS_any (p : Option Addr) (n c : Nat) (xs : List Int) (w : World) (hn : n ≤ 1048576) (hx : xs.length = n) (h : BytesIn w p n xs) :
    Calls Tryz.prog 6 #[.slice p n c] w fun e w' => e = .returned (.slice (some ⟨w.heap.size, 0, none⟩) n n) ∧
      w'.ownsRow w.heap.size 5 1 (.slice (some ⟨w.heap.size, 0, none⟩) n n) n (xs.map (Value.int .u8)) ∧ Below w.heap.size w w' := by
  obtain ⟨i0, hi, hz0, hz1, hz2⟩ := info_parts infoByte
  go_enter Tryz.func6, Tryz.ntmps6
  go_wp2_with (at_make; refine wpList_make_full _ rfl _ _ 22 rfl w.heap.size 5 i0 (.int .u8 0) 1 Tryz.underlying22 hi hz0 hz1 _ _ _ _ n rfl rfl rfl rfl ?b2 ?b3 ?b4 ?_)
  case b2 => rw [hz2]; omega
  case b3 => unfold maxLen; omega
  case b4 => exact Nat.le_refl _
  intro w1 hown hgrow
  rw [fill_start xs n] at hown
  have hbel : Below w.heap.size w w1 := (Below.refl _ _).grown hgrow (Nat.le_refl _) (fun _ h => by cases h)
  clear hgrow
  go_wp2
  go_loopw [4] (fun i wr => ∃ k : Nat, k ≤ n ∧ i = .int .i64 k ∧ wr.ownsRow w.heap.size 5 1 (.slice (some ⟨w.heap.size, 0, none⟩) n n) n ((xs.take k ++ List.replicate (n - k) 0).map (Value.int .u8)) ∧ Below w.heap.size w wr)
    (fun i _ => n - (intOf i).toNat)
  case atStart => exact ⟨0, Nat.zero_le _, rfl, hown, hbel⟩
  case round =>
    clear hown hbel
    obtain ⟨k, hk, rfl, hown, hbel⟩ := hrel
    by_cases hlt : k < n
    · obtain ⟨b, o, rfl, hc⟩ := h (by omega)
      obtain ⟨u, hu⟩ : ∃ u, u = xs.getD k 0 := ⟨_, rfl⟩
      have hcx : wr.cell? ⟨b, o + k, none⟩ = some (.int .u8 u) := by
        rw [hbel.cell (p := ⟨b, o + k, none⟩) (World.block_lt_of_cell? w ⟨b, o + k, none⟩ (hc k hlt)), hu]
        exact hc k hlt
      have hold : wr.cell? ⟨w.heap.size, k, none⟩ = some (.int .u8 0) := by
        rw [hown.cellAt k (by omega)]; exact fill_old xs n k hlt hx
      have hfz := hown.frozenAt k
      have hst := hown.stored k (.int .u8 u)
      rw [fill_step xs n k u hu hlt hx] at hst
      have hbel' := hbel.setCell (p := ⟨w.heap.size, k, none⟩) (Nat.le_refl _) (.int .u8 u)
      clear hc h hu
      go_wp2
      go_roundw
      case rel => exact ⟨k + 1, by omega, by go_num, hst.1, hbel'⟩
      case measure => simp [intOf]; omega
    · have hkn : k = n := by omega
      subst hkn
      go_wp2
      go_ret
      rw [fill_end xs k hx] at hown
      exact ⟨rfl, hown, hbel⟩

theorem toByteS_own (p : Option Addr) (n c : Nat) (xs : List Int) (w : World) (hn : n ≤ 1048576) (hx : xs.length = n) (h : BytesIn w p n xs) :
    Calls Tryz.prog 6 #[.slice p n c] w fun e w' => ∃ p' c', e = .returned (.slice p' n c') ∧ Own 5 w' w.heap.size w'.heap.size (.slice p' n c') n xs ∧ Below w.heap.size w w' :=
  (toByteS_any p n c xs w hn hx h).mono fun _ _ ⟨h1, h2, h3⟩ => ⟨_, _, h1, .of h2, h3⟩

end Go.Proofs.YthfnechcddmjkaaGreatDoor

namespace Go.Proofs.YthfnechcddmjkaaGreatDoor
open Go.RowKit
set_option maxRecDepth 100000

set_option maxHeartbeats 1000000 in
theorem markByteS_any (base : Nat) (p : Option Addr) (n c : Nat) (xs : List Int) (k : Int) (w : World) (hn : n ≤ 1099511627776) (hk : 0 ≤ k) (hk2 : k ≤ 1099511627776)
    (h : w.ownsRow base 5 1 (.slice p n c) n (xs.map (Value.int .u8))) :
    Calls Tryz.prog 10 #[.slice p n c, .int .i64 k] w fun e w' => e = .returned (.int .i64 (k + n)) ∧
      w'.ownsRow base 5 1 (.slice p n c) n ((marks k n).map (Value.int .u8)) ∧ w.grownBy w' (Value.ownBlock (.slice p n c)) := by
  have hx := owns_len h
  go_enter Tryz.func10, Tryz.ntmps10
  go_wp2
  go_loopw [1, 5] (fun q i wr => ∃ j : Nat, j ≤ n ∧ i = .int .i64 j ∧ q = .int .i64 (k + j) ∧ wr.ownsRow base 5 1 (.slice p n c) n ((marks k j ++ xs.drop j).map (Value.int .u8)) ∧ w.grownBy wr (Value.ownBlock (.slice p n c)))
    (fun _ i _ => n - (intOf i).toNat)
  case atStart => exact ⟨0, Nat.zero_le _, rfl, by simp, by simpa [marks] using h, World.grownBy.refl _ _⟩
  case round =>
    clear h
    obtain ⟨j, hj, rfl, rfl, hown, hgr⟩ := hrel
    by_cases hlt : j < n
    · obtain ⟨g, rfl⟩ := owns_at hown (by omega)
      obtain ⟨v, hv⟩ := marks_old k xs n j hlt hx
      have hold : wr.cell? ⟨g, j, none⟩ = some (.int .u8 v) := by
        rw [hown.cellAt j (by omega)]; exact hv
      have hfz := hown.frozenAt j
      clear hv
      have hst := hown.stored j (.int .u8 ((k + (j : Int)) % 256))
      rw [marks_step k xs n j _ rfl hlt hx] at hst
      go_wp2
      go_roundw
      case rel => exact ⟨j + 1, by omega, by go_num, by go_num, hst.1, grown_trans hgr hst.2⟩
      case measure => simp [intOf]; omega
    · have hjn : j = n := by omega
      subst hjn
      rw [marks_end k xs j hx] at hown
      go_wp2
      go_ret
      exact ⟨rfl, hown, hgr⟩

set_option maxHeartbeats 1000000 in
theorem heldByteS_any (p : Option Addr) (n c : Nat) (k : Int) (w : World) (hn : n ≤ 1099511627776) (hk : 0 ≤ k) (hk2 : k ≤ 1099511627776)
    (h : BytesIn w p n (marks k n)) :
    Calls Tryz.prog 17 #[.slice p n c, .int .i64 k] w fun e w' => e = .returned (.int .i64 (k + n)) ∧ Below w.heap.size w w' := by
  go_enter Tryz.func17, Tryz.ntmps17
  go_wp2
  go_loop [1, 5] (fun q i => ∃ j : Nat, j ≤ n ∧ i = .int .i64 j ∧ q = .int .i64 (k + j)) (fun _ i => n - (intOf i).toNat)
  case atStart => exact ⟨0, Nat.zero_le _, rfl, by simp⟩
  case round =>
    obtain ⟨j, hj, rfl, rfl⟩ := hrel
    by_cases hlt : j < n
    · obtain ⟨b, o, rfl, hc⟩ := h (by omega)
      have h1 := hc j hlt
      rw [marks_getD k n j hlt] at h1
      have hd : ((k + (j : Int)) % 256 != (k + (j : Int)) % 256) = false := by simp
      clear hc h
      go_wp2
      go_round
      case rel => exact ⟨j + 1, by omega, by go_num, by go_num⟩
      case measure => simp [intOf]; omega
    · have hjn : j = n := by omega
      subst hjn
      go_wp2
      go_ret
      exact ⟨rfl, Below.refl _ _⟩

theorem markByteS_own (lo hi : Nat) (p : Option Addr) (n c : Nat) (xs : List Int) (k : Int) (w : World) (hn : n ≤ 1099511627776) (hk : 0 ≤ k) (hk2 : k ≤ 1099511627776)
    (h : Own 5 w lo hi (.slice p n c) n xs) :
    Calls Tryz.prog 10 #[.slice p n c, .int .i64 k] w fun e w' => e = .returned (.int .i64 (k + n)) ∧
      Own 5 w' lo hi (.slice p n c) n (marks k n) ∧ w.grownBy w' (Value.ownBlock (.slice p n c)) :=
  (markByteS_any lo p n c xs k w hn hk hk2 h.1).mono fun _ _ ⟨h1, h2, h3⟩ => ⟨h1, ⟨h2, h.2⟩, h3⟩

end Go.Proofs.YthfnechcddmjkaaGreatDoor

namespace Go.Proofs.YthfnechcddmjkaaGreatDoor
open Go.RowKit
set_option maxRecDepth 100000

theorem specSame_any (p q : Option Addr) (n m c d : Nat) (xs ys : List Int) (w : World) (hx : xs.length = n) (hy : ys.length = m) (h : BytesIn w p n xs) (h' : BytesIn w q m ys) :
    Calls Tryz.prog 91 #[.slice p n c, .slice q m d] w fun e w' => e = .returned (.bool ((strOfNums xs).toList == (strOfNums ys).toList)) ∧ Below w.heap.size w w' := by
  have g := text_of (P := Tryz.prog) h hx c 22 5 9 Tryz.underlying22 Tryz.underlying5 Tryz.underlying9
  have g' := text_of (P := Tryz.prog) h' hy d 22 5 9 Tryz.underlying22 Tryz.underlying5 Tryz.underlying9
  go_enter Tryz.func91, Tryz.ntmps91
  go_wp2
  go_ret
  exact ⟨rfl, Below.refl _ _⟩

end Go.Proofs.YthfnechcddmjkaaGreatDoor

namespace Go.Proofs.YthfnechcddmjkaaGreatDoor
open Go.RowKit
set_option maxRecDepth 100000

def hv (c : Int) : Int := if 48 ≤ c ∧ c ≤ 57 then c - 48 else if 97 ≤ c ∧ c ≤ 102 then c - 87 else -1
theorem hv_le (c : Int) : -1 ≤ hv c ∧ hv c < 16 := by unfold hv; split <;> (try split) <;> omega
theorem hv_high (c : Int) (h : 103 ≤ c) : hv c = -1 := by unfold hv; rw [if_neg (by omega), if_neg (by omega)]

def ch (s : ByteArray) (i : Nat) : Int := (s.data.toList.getD i 0).toNat
theorem ch_at (s : ByteArray) (i : Nat) (pf : i < s.size) : ((s[i]'pf).toNat : Int) = ch s i := by
  unfold ch
  rw [List.getD_eq_getElem?_getD, List.getElem?_eq_getElem (by simpa using pf)]
  rfl
theorem ch_lt (s : ByteArray) (i : Nat) : 0 ≤ ch s i ∧ ch s i < 256 := by
  unfold ch
  have := (s.data.toList.getD i 0).toNat_lt
  omega

def outL (s : ByteArray) (k : Nat) : List Int := (List.range k).map fun (j : Nat) => 16 * hv (ch s (2 * j)) + hv (ch s (2 * j + 1))
theorem outL_step (s : ByteArray) (k : Nat) : outL s k ++ [16 * hv (ch s (2 * k)) + hv (ch s (2 * k + 1))] = outL s (k + 1) := by simp [outL, List.range_succ]

def goodB (s : ByteArray) : Bool := s.size % 2 == 0 && (List.range s.size).all fun (j : Nat) => decide (0 ≤ hv (ch s j))
theorem good_iff (s : ByteArray) : goodB s = true ↔ s.size % 2 = 0 ∧ ∀ j, j < s.size → 0 ≤ hv (ch s j) := by simp [goodB]
theorem good_not {s : ByteArray} {j : Nat} (hj : j < s.size) (h : hv (ch s j) < 0) : goodB s = false := by
  rw [Bool.eq_false_iff]
  intro hg
  have := ((good_iff s).1 hg).2 j hj
  omega
theorem good_odd {s : ByteArray} (h : ¬ s.size % 2 = 0) : goodB s = false := by
  rw [Bool.eq_false_iff]
  intro hg
  exact h ((good_iff s).1 hg).1
def unN (s : ByteArray) : Nat := if goodB s = true then s.size / 2 else 0
def unL (s : ByteArray) : List Int := if goodB s = true then outL s (s.size / 2) else []

theorem l1Sign_any (c : Int) (w : World) (h0 : 0 ≤ c) (h1 : c < 256) : Calls Tryz.prog 150 #[.int .u8 c] w fun e w' => e = .returned (.int .i64 (hv c)) ∧ w' = w := by
  by_cases a1 : 48 ≤ c
  · by_cases a2 : c ≤ 57
    · have e : hv c = c - 48 := by unfold hv; rw [if_pos ⟨a1, a2⟩]
      rw [e]
      go_enter Tryz.func150, Tryz.ntmps150
      go_wp2
      go_ret
      exact ⟨rfl, rfl⟩
    · by_cases a3 : 97 ≤ c
      · by_cases a4 : c ≤ 102
        · have e : hv c = c - 87 := by unfold hv; rw [if_neg (by omega), if_pos ⟨a3, a4⟩]
          rw [e]
          go_enter Tryz.func150, Tryz.ntmps150
          go_wp2
          go_ret
          exact ⟨rfl, rfl⟩
        · rw [hv_high c (by omega)]
          go_enter Tryz.func150, Tryz.ntmps150
          go_wp2
          go_ret
          exact ⟨rfl, rfl⟩
      · have e : hv c = -1 := by unfold hv; rw [if_neg (by omega), if_neg (by omega)]
        rw [e]
        go_enter Tryz.func150, Tryz.ntmps150
        go_wp2
        go_ret
        exact ⟨rfl, rfl⟩
  · have e : hv c = -1 := by unfold hv; rw [if_neg (by omega), if_neg (by omega)]
    rw [e]
    have a3 : ¬ 97 ≤ c := by omega
    go_enter Tryz.func150, Tryz.ntmps150
    go_wp2
    go_ret
    exact ⟨rfl, rfl⟩

theorem hexHalf_good (r : Int) (w : World) (h : 0 ≤ hv r) : Calls Tryz.prog 183 #[.int .i32 r] w fun e w' => e = .returned (.tuple #[.int .u8 (hv r), .bool true]) ∧ w' = w := by
  by_cases a1 : 48 ≤ r ∧ r ≤ 57
  · have e : hv r = r - 48 := by unfold hv; rw [if_pos a1]
    rw [e]
    obtain ⟨a1, a2⟩ := a1
    clear h
    go_enter Tryz.func183, Tryz.ntmps183
    go_wp2
    go_ret2
    exact ⟨rfl, rfl⟩
  · by_cases a3 : 97 ≤ r ∧ r ≤ 102
    · have e : hv r = r - 87 := by unfold hv; rw [if_neg a1, if_pos a3]
      rw [e]
      obtain ⟨a3, a4⟩ := a3
      have a2 : ¬ r ≤ 57 := by omega
      have a5 : 48 ≤ r := by omega
      clear h a1
      go_enter Tryz.func183, Tryz.ntmps183
      go_wp2
      go_ret2
      refine ⟨?_, rfl⟩
      congr 3
      go_num
    · exfalso
      unfold hv at h
      rw [if_neg a1, if_neg a3] at h
      omega

theorem hexHalf_bad (r : Int) (w : World) (h : hv r < 0) : Calls Tryz.prog 183 #[.int .i32 r] w fun e w' => e = .returned (.tuple #[.int .u8 0, .bool false]) ∧ w' = w := by
  have h1 : ¬ (48 ≤ r ∧ r ≤ 57) := fun a => by unfold hv at h; rw [if_pos a] at h; omega
  have h2 : ¬ (97 ≤ r ∧ r ≤ 102) := fun a => by unfold hv at h; rw [if_neg h1, if_pos a] at h; omega
  clear h
  by_cases a1 : 48 ≤ r
  · have a2 : ¬ r ≤ 57 := fun h => h1 ⟨a1, h⟩
    by_cases a3 : 97 ≤ r
    · have a4 : ¬ r ≤ 102 := fun h => h2 ⟨a3, h⟩
      clear h1 h2
      go_enter Tryz.func183, Tryz.ntmps183
      go_wp2
      go_ret2
      exact ⟨rfl, rfl⟩
    · clear h1 h2
      go_enter Tryz.func183, Tryz.ntmps183
      go_wp2
      go_ret2
      exact ⟨rfl, rfl⟩
  · have a3 : ¬ 97 ≤ r := by omega
    clear h1 h2
    go_enter Tryz.func183, Tryz.ntmps183
    go_wp2
    go_ret2
    exact ⟨rfl, rfl⟩

theorem l1Sign_ch (s : ByteArray) (i : Nat) (w : World) : Calls Tryz.prog 150 #[.int .u8 (ch s i)] w fun e w' => e = .returned (.int .i64 (hv (ch s i))) ∧ w' = w := l1Sign_any _ w (ch_lt s i).1 (ch_lt s i).2

theorem ch_int (s : ByteArray) (i : Nat) (n : Int) (h : n = (i : Int)) (pf : n.toNat < s.size) : ((s[n.toNat]'pf).toNat : Int) = ch s i := by
  subst h
  exact ch_at s i pf

theorem bad_end {s : ByteArray} {w W : World} {p : Option Addr} {c : Nat} (hb : goodB s = false) (ho : W.ownsRow w.heap.size 5 1 (.slice p 0 c) 0 []) (hbel : Below w.heap.size w W) :
    ∃ p' c', Ending.returned (.tuple #[.slice p 0 c, .bool false]) = .returned (.tuple #[.slice p' (unN s) c', .bool (goodB s)]) ∧ Own 5 W w.heap.size W.heap.size (.slice p' (unN s) c') (unN s) (unL s) ∧ Below w.heap.size w W := by
  have e1 : unN s = 0 := by simp [unN, hb]
  have e2 : unL s = [] := by simp [unL, hb]
  rw [e1, e2, hb]
  exact ⟨p, c, rfl, .of ho, hbel⟩

theorem good_end {s : ByteArray} {w W : World} {k : Nat} {v : Value} (h2 : s.size % 2 = 0) (hk : k = s.size / 2) (hg : ∀ j, j < s.size → 0 ≤ hv (ch s j)) (ho : W.ownsRow w.heap.size 5 1 v k ((outL s k).map (Value.int .u8))) (hbel : Below w.heap.size w W) :
    ∃ p' c', Ending.returned (.tuple #[v, .bool true]) = .returned (.tuple #[.slice p' (unN s) c', .bool (goodB s)]) ∧ Own 5 W w.heap.size W.heap.size (.slice p' (unN s) c') (unN s) (unL s) ∧ Below w.heap.size w W := by
  have hb : goodB s = true := (good_iff s).2 ⟨h2, hg⟩
  have e1 : unN s = k := by simp [unN, hb, hk]
  have e2 : unL s = outL s k := by simp [unL, hb, hk]
  rw [e1, e2, hb]
  obtain ⟨p, c, rfl⟩ := owns_form ho
  exact ⟨p, c, rfl, .of ho, hbel⟩

theorem good_more {s : ByteArray} {k : Nat} (h : ∀ j, j < 2 * k → 0 ≤ hv (ch s j)) (hx : ¬ hv (ch s (2 * k)) < 0) (hy : ¬ hv (ch s (2 * k + 1)) < 0) : ∀ j, j < 2 * (k + 1) → 0 ≤ hv (ch s j) := by
  intro j hj
  rcases Nat.lt_or_ge j (2 * k) with h1 | h1
  · exact h j h1
  · rcases Nat.lt_or_ge j (2 * k + 1) with h2 | h2
    · obtain rfl : j = 2 * k := by omega
      omega
    · obtain rfl : j = 2 * k + 1 := by omega
      omega

set_option maxHeartbeats 2000000 in
theorem specUnhex_any (s : ByteArray) (w : World) (hs : s.size ≤ 1048576) :
    Calls Tryz.prog 121 #[.string s] w fun e w' => ∃ p c, e = .returned (.tuple #[.slice p (unN s) c, .bool (goodB s)]) ∧ Own 5 w' w.heap.size w'.heap.size (.slice p (unN s) c) (unN s) (unL s) ∧ Below w.heap.size w w' := by
  obtain ⟨i0, hi, hz0, hz1, hz2⟩ := info_parts infoByte
  go_enter Tryz.func121, Tryz.ntmps121
  go_wp2
  go_loopw [4, 5] (fun v i wr => ∃ k : Nat, 2 * k ≤ s.size ∧ i = .int .i64 (2 * k) ∧ Hid (∀ j, j < 2 * k → 0 ≤ hv (ch s j)) ∧ wr.ownsRow w.heap.size 5 1 v k ((outL s k).map (Value.int .u8)) ∧ Below w.heap.size w wr)
    (fun _ i _ => s.size - (intOf i).toNat)
  case atStart => exact ⟨0, Nat.zero_le _, rfl, fun j hj => by omega, World.ownsRow_made w #[] 0 (Nat.le_refl _) (by unfold maxLen; omega) rfl, (Below.refl _ _).alloc (Nat.le_refl _) _⟩
  case round =>
    obtain ⟨k, hk, rfl, hgood, hown, hbel⟩ := hrel
    have hsz := hbel.size
    by_cases hlt : 2 * k + 1 < s.size
    · have i1 : (0 : Int) ≤ 2 * (k : Int) := by omega
      have i2 : 2 * (k : Int) < (s.size : Int) := by omega
      have i3 : (0 : Int) ≤ 2 * (k : Int) + 1 := by omega
      have i4 : 2 * (k : Int) + 1 < (s.size : Int) := by omega
      have ex := ch_int s (2 * k) (2 * (k : Int)) (by omega)
      have ey := ch_int s (2 * k + 1) (2 * (k : Int) + 1) (by omega)
      have l1 := hv_le (ch s (2 * k))
      have l2 := hv_le (ch s (2 * k + 1))
      by_cases hX : hv (ch s (2 * k)) < 0
      · have hB : Hid (goodB s = false) := good_not (j := 2 * k) (by omega) hX
        go_wp2
        go_quiet ((go_at_call 150; exact Calls.quiet_of_same (l1Sign_ch _ _ _)))
        go_wp2
        go_ret2
        refine bad_end hB.out (World.ownsRow_made _ #[] 0 ?_ (by unfold maxLen; omega) rfl) ?_
        · exact hsz
        · exact (below_drewN hbel _).alloc hsz _
      · by_cases hY : hv (ch s (2 * k + 1)) < 0
        · have hB : Hid (goodB s = false) := good_not (j := 2 * k + 1) (by omega) hY
          go_wp2
          go_quiet ((go_at_call 150; exact Calls.quiet_of_same (l1Sign_ch _ _ _)))
          go_wp2
          go_ret2
          refine bad_end hB.out (World.ownsRow_made _ #[] 0 ?_ (by unfold maxLen; omega) rfl) ?_
          · exact hsz
          · exact (below_drewN hbel _).alloc hsz _
        · have hG : Hid (∀ j, j < 2 * (k + 1) → 0 ≤ hv (ch s j)) := good_more hgood hX hY
          have HN : Hid (outL s k ++ [16 * hv (ch s (2 * k)) + hv (ch s (2 * k + 1))] = outL s (k + 1)) := outL_step s k
          go_wp2
          go_quiet ((go_at_call 150; exact Calls.quiet_of_same (l1Sign_ch _ _ _)))
          go_wp2_with (at_builtin; refine list_push hi hz0 hz1 hz2 (.tmp 32) (.tmp 38) 22 Tryz.underlying22 _ hown (by omega) hsz (by rfl) (by rfl) (by rfl) (by rfl) ?_; intro g cap w1 ho1 hb1; rw [HN.out] at ho1)
          go_wp2
          go_roundw
          case rel => exact ⟨k + 1, by omega, by go_num, hG, ho1, (below_drewN hbel _).trans hb1⟩
          case measure => simp [intOf]; omega
    · by_cases h2 : s.size % 2 = 0
      · have hd : ((s.size : Int) % 2 != 0) = false := by simp; omega
        have hE : Hid (∀ j, j < s.size → 0 ≤ hv (ch s j)) := fun j hj => hgood.out j (by omega)
        have h2' : Hid (s.size % 2 = 0) := h2
        clear hgood h2
        go_wp2
        go_ret2
        exact good_end h2'.out (by have := h2'.out; omega) hE.out hown hbel
      · have hd : ((s.size : Int) % 2 != 0) = true := by simp; omega
        have hB : Hid (goodB s = false) := good_odd h2
        clear hgood h2
        go_wp2
        go_ret2
        exact bad_end hB.out (World.ownsRow_made _ #[] 0 hsz (by unfold maxLen; omega) rfl) (hbel.alloc hsz _)

theorem or16 (x y : Int) (hx : 0 ≤ x ∧ x < 16) (hy : 0 ≤ y ∧ y < 16) : bits BinOp.or IntKind.u8 (x * 16) y = 16 * x + y := by
  have all : ∀ a b : Fin 16, bits BinOp.or IntKind.u8 (((a.val : Nat) : Int) * 16) ((b.val : Nat) : Int) = 16 * ((a.val : Nat) : Int) + ((b.val : Nat) : Int) := by decide +kernel
  have := all ⟨x.toNat, by omega⟩ ⟨y.toNat, by omega⟩
  simp only [Int.toNat_of_nonneg hx.1, Int.toNat_of_nonneg hy.1] at this
  exact this

theorem rune_at (s : ByteArray) (pos : Nat) (h : pos < s.size) : ∃ R wd : Nat, Utf8.decode s pos = (R, wd) ∧ (0 ≤ hv R → (R : Int) = ch s pos ∧ wd = 1) ∧ (hv R < 0 → hv (ch s pos) < 0) := by
  have e := ch_at s pos h
  by_cases ha : (s[pos]'h).toNat < 128
  · refine ⟨_, _, decode_ascii s pos h ha, fun _ => ⟨e, rfl⟩, fun hl => ?_⟩
    rw [← e]; exact hl
  · have hh := decode_high s pos h (by omega)
    refine ⟨(Utf8.decode s pos).1, (Utf8.decode s pos).2, rfl, fun hl => ?_, fun _ => ?_⟩
    · rw [hv_high _ (by omega)] at hl; omega
    · rw [hv_high _ (by omega)]; omega

theorem good_one {s : ByteArray} {pos : Nat} (h : ∀ j, j < pos → 0 ≤ hv (ch s j)) (hx : 0 ≤ hv (ch s pos)) : ∀ j, j < pos + 1 → 0 ≤ hv (ch s j) := by
  intro j hj
  rcases Nat.lt_or_ge j pos with h1 | h1
  · exact h j h1
  · obtain rfl : j = pos := by omega
    exact hx

set_option maxHeartbeats 2000000 in
theorem implUnhex_even (s : ByteArray) (w : World) (hs : s.size ≤ 1048576) (h2 : s.size % 2 = 0) :
    Calls Tryz.prog 151 #[.string s] w fun e w' => ∃ p c, e = .returned (.tuple #[.slice p (unN s) c, .bool (goodB s)]) ∧ Own 5 w' w.heap.size w'.heap.size (.slice p (unN s) c) (unN s) (unL s) ∧ Below w.heap.size w w' := by
  obtain ⟨i0, hi, hz0, hz1, hz2⟩ := info_parts infoByte
  have hd : ((s.size : Int) % 2 != 0) = false := by simp; omega
  have h2' : Hid (s.size % 2 = 0) := h2
  clear h2
  go_enter Tryz.func151, Tryz.ntmps151
  go_wp2_with (at_make; refine wpList_make_own _ rfl _ _ 22 rfl w.heap.size 5 i0 (.int .u8 0) 1 Tryz.underlying22 hi hz0 hz1 _ _ _ (s.size / 2) rfl rfl ?b1 ?b2 ?b3 ?b4 ?_)
  case b1 => omega
  case b2 => rw [hz2]; omega
  case b3 => unfold maxLen; omega
  case b4 => exact Nat.le_refl _
  intro w1 hown hgrow
  have hbel : Below w.heap.size w w1 := (Below.refl _ _).grown hgrow (Nat.le_refl _) (fun _ h => by cases h)
  have hsz1 := hbel.size
  clear hgrow
  go_wp2
  go_loopw [4, 5] (fun v q wr => ∃ (pos : Nat) (H : Int), pos ≤ s.size ∧ q = .int .u8 H ∧ Hid (∀ j, j < pos → 0 ≤ hv (ch s j)) ∧ Hid (pos % 2 = 1 → H = hv (ch s (pos - 1))) ∧ wr.heap[w1.heap.size]? = some (.stringIter s pos) ∧
      wr.ownsRow w.heap.size 5 1 v (pos / 2) ((outL s (pos / 2)).map (Value.int .u8)) ∧ Below w.heap.size w wr)
    (fun _ _ wr => s.size - wr.iterPos w1.heap.size)
  case atStart => exact ⟨0, 0, Nat.zero_le _, rfl, fun j hj => by omega, fun h => by omega, World.iter_heap w1 s 0, hown.alloc (.stringIter s 0), hbel.alloc hsz1 _⟩
  case round =>
    clear hown hbel
    obtain ⟨pos, H, hpos, rfl, hgood, hH, hit, hown, hbel⟩ := hrel
    have hsz := hbel.size
    by_cases hlt : pos < s.size
    · have hnx : ∀ ty, (Instr.next (.pointer (some ⟨w1.heap.size, 0, none⟩)) true ty).run Tryz.prog wr = _ := fun ty => Lib.run_next_any_at wr w1.heap.size s pos ty hit hlt
      obtain ⟨R, wd, hdec, hr1, hr2⟩ := rune_at s pos hlt
      simp only [hdec] at hnx
      clear hdec
      have hown2 := owns_iter hown hit (pos + wd)
      have hit2 := Lib.iterAt_heap wr w1.heap.size s pos (pos + wd) hit
      have hbel2 := Lib.below_iterAt hbel hsz1 s (pos + wd)
      by_cases hR : hv (R : Int) < 0
      · have hB : Hid (goodB s = false) := good_not (j := pos) hlt (hr2 hR)
        clear hr1 hr2 hgood hH
        go_wp2_with (go_at_call 183; refine (hexHalf_bad _ _ hR).mono ?_; rintro e w' ⟨rfl, rfl⟩)
        go_ret2
        exact bad_end hB.out (World.ownsRow_nil _ _ _ _) hbel2
      · have hR0 : 0 ≤ hv (R : Int) := by omega
        obtain ⟨hRc, rfl⟩ := hr1 hR0
        have hl := hv_le (R : Int)
        have hG : Hid (∀ j, j < pos + 1 → 0 ≤ hv (ch s j)) := good_one hgood (by rw [← hRc]; exact hR0)
        have hRc' : Hid ((R : Int) = ch s pos) := hRc
        clear hr1 hr2 hRc hR
        by_cases hp : pos % 2 = 0
        · have hd2 : ((pos : Int) % 2 == 0) = true := by simp; omega
          have hp' : Hid (pos % 2 = 0) := hp
          clear hp hgood hH
          go_wp2_with (go_at_call 183; refine (hexHalf_good _ _ hR0).mono ?_; rintro e w' ⟨rfl, rfl⟩)
          go_roundw
          case rel => exact ⟨pos + 1, hv (R : Int), by omega, rfl, hG, fun _ => by rw [hRc'.out]; rfl, hit2, by have := hp'.out; rw [show (pos + 1) / 2 = pos / 2 by omega]; exact hown2, hbel2⟩
          case measure => rw [World.iterPos, World.iterPos, hit2, hit]; simp; omega
        · have hp1 : pos % 2 = 1 := by omega
          have hd2 : ((pos : Int) % 2 == 0) = false := by simp; omega
          have hHe := hH.out hp1
          have hHl := hv_le (ch s (pos - 1))
          have hH0 := hgood.out (pos - 1) (by omega)
          rw [← hHe] at hHl hH0
          have hH1 : H < 16 := hHl.2
          have hor := or16 H (hv (R : Int)) ⟨hH0, hH1⟩ ⟨hR0, hl.2⟩
          have HN : Hid (outL s (pos / 2) ++ [bits BinOp.or IntKind.u8 (H * 16) (hv (R : Int))] = outL s (pos / 2 + 1)) := by
            have := outL_step s (pos / 2)
            rw [show 2 * (pos / 2) + 1 = pos by omega, show 2 * (pos / 2) = pos - 1 by omega, ← hHe, ← hRc'.out, ← hor] at this
            exact this
          have hq : Hid ((pos + 1) / 2 = pos / 2 + 1 ∧ (pos + 1) % 2 = 0) := by show (pos + 1) / 2 = pos / 2 + 1 ∧ (pos + 1) % 2 = 0; omega
          have hsz2 : w.heap.size ≤ (wr.iterAt w1.heap.size s (pos + 1)).heap.size := by rw [Lib.iterAt_size]; omega
          have hno := iter_not_own hown2 hit2
          have hlt2 : w1.heap.size < (wr.iterAt w1.heap.size s (pos + 1)).heap.size := (Array.getElem?_eq_some_iff.1 hit2).1
          clear hor hHe hHl hH hgood hp hp1
          go_wp2_with (first | (go_at_call 183; refine (hexHalf_good _ _ hR0).mono ?_; rintro e w' ⟨rfl, rfl⟩) | (at_builtin; refine list_pushK hi hz0 hz1 hz2 (.tmp 35) (.tmp 40) 22 Tryz.underlying22 _ hown2 (by omega) hsz2 (by rfl) (by rfl) (by rfl) (by rfl) ?_; intro g cap w2 ho1 hb1 hkk; rw [HN.out] at ho1))
          have hit3 : w2.heap[w1.heap.size]? = some (.stringIter s (pos + 1)) := (hkk _ hlt2 hno).trans hit2
          go_roundw
          case rel => exact ⟨pos + 1, H, by omega, rfl, hG, fun h => by have := hq.out.2; omega, hit3, by rw [hq.out.1]; exact ho1, hbel2.trans hb1⟩
          case measure => rw [World.iterPos, World.iterPos, hit3, hit]; simp; omega
    · have hnx : ∀ ty, (Instr.next (.pointer (some ⟨w1.heap.size, 0, none⟩)) true ty).run Tryz.prog wr = _ := fun ty => Lib.run_next_end_at wr w1.heap.size s pos ty hit hlt
      have hps : Hid (pos = s.size) := by show pos = s.size; omega
      have hE : Hid (∀ j, j < s.size → 0 ≤ hv (ch s j)) := fun j hj => hgood.out j (by omega)
      clear hgood hH
      go_wp2
      go_ret2
      exact good_end h2'.out (by have := hps.out; omega) hE.out hown hbel

theorem implUnhex_any (s : ByteArray) (w : World) (hs : s.size ≤ 1048576) :
    Calls Tryz.prog 151 #[.string s] w fun e w' => ∃ p c, e = .returned (.tuple #[.slice p (unN s) c, .bool (goodB s)]) ∧ Own 5 w' w.heap.size w'.heap.size (.slice p (unN s) c) (unN s) (unL s) ∧ Below w.heap.size w w' := by
  by_cases h2 : s.size % 2 = 0
  · exact implUnhex_even s w hs h2
  · have hd : ((s.size : Int) % 2 != 0) = true := by simp; omega
    have hB : Hid (goodB s = false) := good_odd h2
    clear h2
    go_enter Tryz.func151, Tryz.ntmps151
    go_wp2
    go_ret2
    exact bad_end hB.out (World.ownsRow_nil _ _ _ _) (Below.refl _ _)

end Go.Proofs.YthfnechcddmjkaaGreatDoor

namespace Go.Proofs.YthfnechcddmjkaaGreatDoor
open Go.RowKit
set_option maxRecDepth 100000

def littleL (n : Int) (k : Nat) : List Int := (List.range k).map fun (i : Nat) => n / (256 ^ i : Nat) % 256

def fitB (n many : Int) : Bool := decide (0 ≤ n ∧ 1 ≤ many ∧ many ≤ 8)
def fitN (n many : Int) : Nat := if fitB n many = true then many.toNat else 0
def fitL (n many : Int) : List Int := littleL n (fitN n many)

end Go.Proofs.YthfnechcddmjkaaGreatDoor

namespace Go.Proofs.YthfnechcddmjkaaGreatDoor
open Go.RowKit
set_option maxRecDepth 100000

def revK (xs : List Int) (n k : Nat) : List Int := (List.range n).map fun (i : Nat) => if i < k ∨ n ≤ i + k then xs.getD (n - 1 - i) 0 else xs.getD i 0

end Go.Proofs.YthfnechcddmjkaaGreatDoor

namespace Go.Proofs.YthfnechcddmjkaaGreatDoor
open Go.RowKit
set_option maxRecDepth 100000

end Go.Proofs.YthfnechcddmjkaaGreatDoor

namespace Go.Proofs.YthfnechcddmjkaaGreatDoor
open Go.RowKit
set_option maxRecDepth 100000

theorem Own.take {e : Nat} {w : World} {lo hi : Nat} {p : Option Addr} {n c k : Nat} {xs : List Int} (h : Own e w lo hi (.slice p n c) n xs) (hk : k ≤ n) : Own e w lo hi (.slice p k c) k (xs.take k) := by
  have hl := h.len
  refine ⟨⟨by simp; omega, ?_⟩, fun j hj => h.2 j (by cases p with | none => cases hj | some a => exact hj)⟩
  rcases h.1.2 with ⟨hv, h0⟩ | ⟨g, cap, cur, hv, hb, hg, hnc, hcm, hcs, ht⟩
  · simp only [Value.slice.injEq] at hv
    obtain ⟨rfl, _, rfl⟩ := hv
    obtain rfl : k = 0 := by omega
    exact .inl ⟨rfl, rfl⟩
  · simp only [Value.slice.injEq] at hv
    obtain ⟨rfl, _, rfl⟩ := hv
    refine .inr ⟨g, c, cur, rfl, hb, hg, by omega, hcm, hcs, ?_⟩
    rw [List.map_take, ← ht, List.take_take]
    congr 1
    omega

end Go.Proofs.YthfnechcddmjkaaGreatDoor

namespace Go.Proofs.YthfnechcddmjkaaGreatDoor
open Go.RowKit
set_option maxRecDepth 100000

def turnN (x m : Nat) : Nat := 2 ^ m * (x % 2 ^ (32 - m)) + x / 2 ^ (32 - m)

def wordN (n : Int) : Nat := (n % 4294967296).toNat
def countN (k : Int) : Nat := (k % 32).toNat
def turnI (n k : Int) : Int := ((turnN (wordN n) (countN k) : Nat) : Int)

end Go.Proofs.YthfnechcddmjkaaGreatDoor

namespace Go.Proofs.YthfnechcddmjkaaGreatDoor
open Go.RowKit
set_option maxRecDepth 100000

def gN (xs : List Int) : Nat := xs.foldl (fun a x => a * 256 + x.toNat) 0

end Go.Proofs.YthfnechcddmjkaaGreatDoor

namespace Go.Proofs.YthfnechcddmjkaaGreatDoor
open Go.RowKit
set_option maxRecDepth 100000

end Go.Proofs.YthfnechcddmjkaaGreatDoor

namespace Go.Proofs.YthfnechcddmjkaaGreatDoor
open Go.RowKit
set_option maxRecDepth 100000

def sg (i : Int) : Int := (([48, 49, 50, 51, 52, 53, 54, 55, 56, 57, 97, 98, 99, 100, 101, 102] : List UInt8).getD i.toNat 0).toNat

def hexL (xs : List Int) : List Int := xs.flatMap fun u => [sg (u / 16), sg (bits BinOp.and IntKind.u8 u 15)]

end Go.Proofs.YthfnechcddmjkaaGreatDoor
