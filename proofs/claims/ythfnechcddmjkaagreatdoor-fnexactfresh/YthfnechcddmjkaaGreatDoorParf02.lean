/-
  The byte's row of the program's table of types.
  What the laws' helper eqByteS does, whatever bytes it is given: it compares; no condition but that a length is an int's.
  What the laws' helper toByteS does, whatever bytes it is given: it copies them; condition: at most 1048576 bytes.
  What the laws' helpers that mark bytes do: markByteS lays its marks, heldByteS finds them; conditions: at most 2^40 bytes, marks from 0 to 2^40.
  Numbers for words of 32 bits: what is left by 2^32 and by 32 as the masks tell it, and a word turned left, as the two or's of its parts tell it; each at its own bounds.
  What spec.Word and impl.Word answer at every int: what is left by 2^32; no condition.
  What bits.RotateLeft32, spec.Turn and impl.Turn answer at every two ints: the word turned left by what is left of k by 32; no condition.
  Numbers for a hash: the mixes of a word, the choice and the majority as and, or and xor tell them, a round of the eight words, the words that a block is spread to; each at its own bounds.
  What the mixes, the choice and the majority of words answer, and the specification's l3Mix; condition: words.
  What the specification's Turn and l3Mix answer at a word, in each of the four ways in which they are called: they only read; condition: a word.
  What slices.Reverse does to a row of bytes that the call owns, whatever its block's type; condition: at most 2^40 bytes.
  What impl.readWord answers at any four bytes: the number that they are, great or little; condition: they are bytes.
  The int's row of the program's table of types.
  'append(out, x)' of one int, out a row that the call owns, as one step of a region that draws its order, in whatever world the int lies; it says besides that the row's old cells stay as they were. Conditions: each fact's own.
  What spec.Little and impl.Little answer at every argument; no condition but that n is an int.
  What spec.Great and impl.Great answer at every argument; no condition but that n is an int.
  What spec.WordBytes and impl.WordBytes answer, whatever ints they are given: each one's word as four bytes, great or little; condition: at most 2^30 ints.
  What the specification's and the program's HashStart answer: the eight numbers, in memory of their own; no condition.
  FnExactXor: what spec.Xor and impl.Xor answer, and the law's road; no condition beyond at most 1048576 bytes.
-/
import Derived.Test.YthfnechcddmjkaaGreatDoorParf01
import Derived.Test.YthfnechcddmjkaaGreatDoorChecked
import Derived.Deep.QuietTactic
import Derived.BigQuiet
import Derived.Deep.AppendLies
import Derived.Deep.RegionLaw
namespace Go.Proofs.YthfnechcddmjkaaGreatDoor
open Go.RowKit
set_option maxRecDepth 100000

theorem infoByte : (Tryz.prog.info? 5).map (fun i => (i.zero, i.size, i.bytes)) = some (some (.int .u8 0), 1, 1) := by kernel_rfl

end Go.Proofs.YthfnechcddmjkaaGreatDoor

namespace Go.Proofs.YthfnechcddmjkaaGreatDoor
open Go.RowKit
set_option maxRecDepth 100000

theorem eq_len (p q : Option Addr) (n m c d : Nat) (w : World) (hne : n ≠ m) :
    Calls Tryz.prog 9 #[.slice p n c, .slice q m d] w fun e w' => e = .returned (.bool false) ∧ Below w.heap.size w w' := by
  have hd : ((n : Int) != (m : Int)) = true := by simp; omega
  go_enter Tryz.func9, Tryz.ntmps9
  go_wp2
  go_ret
  exact ⟨rfl, Below.refl _ _⟩

set_option maxHeartbeats 1000000 in
theorem eq_same (p q : Option Addr) (n c d : Nat) (xs ys : List Int) (w : World) (hn : n ≤ 9223372036854775807) (hx : xs.length = n) (hy : ys.length = n) (h : BytesIn w p n xs) (h' : BytesIn w q n ys) :
    Calls Tryz.prog 9 #[.slice p n c, .slice q n d] w fun e w' => e = .returned (.bool (decide (xs = ys))) ∧ Below w.heap.size w w' := by
  have hd : ((n : Int) != (n : Int)) = false := by simp
  go_enter Tryz.func9, Tryz.ntmps9
  go_wp2
  go_loopw [5] (fun i wr => ∃ k : Nat, k ≤ n ∧ i = .int .i64 k ∧ Hid (xs.take k = ys.take k) ∧ ∃ m, wr = w.drewN m) (fun i _ => n - (intOf i).toNat)
  case atStart => exact ⟨0, Nat.zero_le _, rfl, by simp [Hid], 0, rfl⟩
  case round =>
    obtain ⟨k, hk, rfl, hsame, m, rfl⟩ := hrel
    by_cases hlt : k < n
    · obtain ⟨b, o, rfl, hc⟩ := h (by omega)
      obtain ⟨b', o', rfl, hc'⟩ := h' (by omega)
      have h1 := hc k hlt
      have h2 := hc' k hlt
      obtain ⟨u, hu⟩ : ∃ u, u = xs.getD k 0 := ⟨_, rfl⟩
      obtain ⟨v, hv⟩ : ∃ v, v = ys.getD k 0 := ⟨_, rfl⟩
      rw [← hu] at h1
      rw [← hv] at h2
      clear hc hc' h h'
      by_cases huv : u = v
      · subst huv
        have hd2 : (u != u) = false := by simp
        have hmore : Hid (xs.take (k + 1) = ys.take (k + 1)) := take_more hx hy hlt hsame (by rw [← hu, ← hv])
        clear hu hv hsame
        go_wp2
        go_quiet (fail)
        go_wp2
        go_roundw
        case rel => exact ⟨k + 1, by omega, by go_num, hmore, _, rfl⟩
        case measure => simp [intOf]; omega
      · have hd2 : (u != v) = true := by simpa using huv
        have hne : Hid (decide (xs = ys) = false) := by have := take_less (k := k) (xs := xs) (ys := ys) (by rw [← hu, ← hv]; exact huv); simpa [Hid] using this
        clear hu hv hsame huv
        go_wp2
        go_quiet (fail)
        go_wp2
        go_ret
        rw [hne.out, World.drewN_drewN]
        exact ⟨rfl, below_drewN (Below.refl _ _) _⟩
    · have hkn : k = n := by omega
      subst hkn
      have hall : Hid (decide (xs = ys) = true) := by simpa [Hid] using take_all hx hy hsame
      clear hsame
      go_wp2
      go_ret
      rw [hall.out]
      exact ⟨rfl, below_drewN (Below.refl _ _) _⟩

theorem eqByteS_any (p q : Option Addr) (n m c d : Nat) (xs ys : List Int) (w : World) (hn : n ≤ 9223372036854775807) (hx : xs.length = n) (hy : ys.length = m) (h : BytesIn w p n xs) (h' : BytesIn w q m ys) :
    Calls Tryz.prog 9 #[.slice p n c, .slice q m d] w fun e w' => e = .returned (.bool (decide (xs = ys))) ∧ Below w.heap.size w w' := by
  by_cases hnm : n = m
  · subst hnm
    exact eq_same p q n c d xs ys w hn hx hy h h'
  · have : decide (xs = ys) = false := by
      simp only [decide_eq_false_iff_not]
      intro e
      subst e
      omega
    rw [this]
    exact eq_len p q n m c d w hnm

end Go.Proofs.YthfnechcddmjkaaGreatDoor

namespace Go.Proofs.YthfnechcddmjkaaGreatDoor
open Go.RowKit
set_option maxRecDepth 100000

set_option maxHeartbeats 1000000 in
theorem toByteS_any (p : Option Addr) (n c : Nat) (xs : List Int) (w : World) (hn : n ≤ 1048576) (hx : xs.length = n) (h : BytesIn w p n xs) :
    Calls Tryz.prog 6 #[.slice p n c] w fun e w' => e = .returned (.slice (some ⟨w.heap.size, 0, none⟩) n n) ∧
      w'.ownsRow w.heap.size 5 1 (.slice (some ⟨w.heap.size, 0, none⟩) n n) n (xs.map (Value.int .u8)) ∧ Below w.heap.size w w' := by
  obtain ⟨i0, hi, hz0, hz1, hz2⟩ := info_parts infoByte
  go_enter Tryz.func6, Tryz.ntmps6
  go_wp2_with (at_make; refine wpList_make_full _ rfl _ _ 22 rfl w.heap.size 5 i0 (.int .u8 0) 1 Tryz.underlying22 hi hz0 hz1 _ _ _ _ n rfl rfl rfl rfl ?b2 ?b3 ?b4 ?_)
  case b2 => rw [hz2]; omega
  case b3 => unfold maxLen; omega
  case b4 => exact Nat.le_refl _
  intro w1 hown hgrow
  rw [fill_start xs n] at hown
  have hbel : Below w.heap.size w w1 := (Below.refl _ _).grown hgrow (Nat.le_refl _) (fun _ h => by cases h)
  clear hgrow
  go_wp2
  go_loopw [4] (fun i wr => ∃ k : Nat, k ≤ n ∧ i = .int .i64 k ∧ wr.ownsRow w.heap.size 5 1 (.slice (some ⟨w.heap.size, 0, none⟩) n n) n ((xs.take k ++ List.replicate (n - k) 0).map (Value.int .u8)) ∧ Below w.heap.size w wr)
    (fun i _ => n - (intOf i).toNat)
  case atStart => exact ⟨0, Nat.zero_le _, rfl, hown, hbel⟩
  case round =>
    clear hown hbel
    obtain ⟨k, hk, rfl, hown, hbel⟩ := hrel
    by_cases hlt : k < n
    · obtain ⟨b, o, rfl, hc⟩ := h (by omega)
      obtain ⟨u, hu⟩ : ∃ u, u = xs.getD k 0 := ⟨_, rfl⟩
      have hcx : wr.cell? ⟨b, o + k, none⟩ = some (.int .u8 u) := by
        rw [hbel.cell (p := ⟨b, o + k, none⟩) (World.block_lt_of_cell? w ⟨b, o + k, none⟩ (hc k hlt)), hu]
        exact hc k hlt
      have hold : wr.cell? ⟨w.heap.size, k, none⟩ = some (.int .u8 0) := by
        rw [hown.cellAt k (by omega)]; exact fill_old xs n k hlt hx
      have hfz := hown.frozenAt k
      have hst := hown.stored k (.int .u8 u)
      rw [fill_step xs n k u hu hlt hx] at hst
      have hbel' := hbel.setCell (p := ⟨w.heap.size, k, none⟩) (Nat.le_refl _) (.int .u8 u)
      clear hc h hu
      go_wp2
      go_roundw
      case rel => exact ⟨k + 1, by omega, by go_num, hst.1, hbel'⟩
      case measure => simp [intOf]; omega
    · have hkn : k = n := by omega
      subst hkn
      go_wp2
      go_ret
      rw [fill_end xs k hx] at hown
      exact ⟨rfl, hown, hbel⟩

theorem toByteS_own (p : Option Addr) (n c : Nat) (xs : List Int) (w : World) (hn : n ≤ 1048576) (hx : xs.length = n) (h : BytesIn w p n xs) :
    Calls Tryz.prog 6 #[.slice p n c] w fun e w' => ∃ p' c', e = .returned (.slice p' n c') ∧ Own 5 w' w.heap.size w'.heap.size (.slice p' n c') n xs ∧ Below w.heap.size w w' :=
  (toByteS_any p n c xs w hn hx h).mono fun _ _ ⟨h1, h2, h3⟩ => ⟨_, _, h1, .of h2, h3⟩

end Go.Proofs.YthfnechcddmjkaaGreatDoor

namespace Go.Proofs.YthfnechcddmjkaaGreatDoor
open Go.RowKit
set_option maxRecDepth 100000

set_option maxHeartbeats 1000000 in
theorem markByteS_any (base : Nat) (p : Option Addr) (n c : Nat) (xs : List Int) (k : Int) (w : World) (hn : n ≤ 1099511627776) (hk : 0 ≤ k) (hk2 : k ≤ 1099511627776)
    (h : w.ownsRow base 5 1 (.slice p n c) n (xs.map (Value.int .u8))) :
    Calls Tryz.prog 10 #[.slice p n c, .int .i64 k] w fun e w' => e = .returned (.int .i64 (k + n)) ∧
      w'.ownsRow base 5 1 (.slice p n c) n ((marks k n).map (Value.int .u8)) ∧ w.grownBy w' (Value.ownBlock (.slice p n c)) := by
  have hx := owns_len h
  go_enter Tryz.func10, Tryz.ntmps10
  go_wp2
  go_loopw [1, 5] (fun q i wr => ∃ j : Nat, j ≤ n ∧ i = .int .i64 j ∧ q = .int .i64 (k + j) ∧ wr.ownsRow base 5 1 (.slice p n c) n ((marks k j ++ xs.drop j).map (Value.int .u8)) ∧ w.grownBy wr (Value.ownBlock (.slice p n c)))
    (fun _ i _ => n - (intOf i).toNat)
  case atStart => exact ⟨0, Nat.zero_le _, rfl, by simp, by simpa [marks] using h, World.grownBy.refl _ _⟩
  case round =>
    clear h
    obtain ⟨j, hj, rfl, rfl, hown, hgr⟩ := hrel
    by_cases hlt : j < n
    · obtain ⟨g, rfl⟩ := owns_at hown (by omega)
      obtain ⟨v, hv⟩ := marks_old k xs n j hlt hx
      have hold : wr.cell? ⟨g, j, none⟩ = some (.int .u8 v) := by
        rw [hown.cellAt j (by omega)]; exact hv
      have hfz := hown.frozenAt j
      clear hv
      have hst := hown.stored j (.int .u8 ((k + (j : Int)) % 256))
      rw [marks_step k xs n j _ rfl hlt hx] at hst
      go_wp2
      go_roundw
      case rel => exact ⟨j + 1, by omega, by go_num, by go_num, hst.1, grown_trans hgr hst.2⟩
      case measure => simp [intOf]; omega
    · have hjn : j = n := by omega
      subst hjn
      rw [marks_end k xs j hx] at hown
      go_wp2
      go_ret
      exact ⟨rfl, hown, hgr⟩

set_option maxHeartbeats 1000000 in
theorem heldByteS_any (p : Option Addr) (n c : Nat) (k : Int) (w : World) (hn : n ≤ 1099511627776) (hk : 0 ≤ k) (hk2 : k ≤ 1099511627776)
    (h : BytesIn w p n (marks k n)) :
    Calls Tryz.prog 17 #[.slice p n c, .int .i64 k] w fun e w' => e = .returned (.int .i64 (k + n)) ∧ Below w.heap.size w w' := by
  go_enter Tryz.func17, Tryz.ntmps17
  go_wp2
  go_loop [1, 5] (fun q i => ∃ j : Nat, j ≤ n ∧ i = .int .i64 j ∧ q = .int .i64 (k + j)) (fun _ i => n - (intOf i).toNat)
  case atStart => exact ⟨0, Nat.zero_le _, rfl, by simp⟩
  case round =>
    obtain ⟨j, hj, rfl, rfl⟩ := hrel
    by_cases hlt : j < n
    · obtain ⟨b, o, rfl, hc⟩ := h (by omega)
      have h1 := hc j hlt
      rw [marks_getD k n j hlt] at h1
      have hd : ((k + (j : Int)) % 256 != (k + (j : Int)) % 256) = false := by simp
      clear hc h
      go_wp2
      go_round
      case rel => exact ⟨j + 1, by omega, by go_num, by go_num⟩
      case measure => simp [intOf]; omega
    · have hjn : j = n := by omega
      subst hjn
      go_wp2
      go_ret
      exact ⟨rfl, Below.refl _ _⟩

theorem markByteS_own (lo hi : Nat) (p : Option Addr) (n c : Nat) (xs : List Int) (k : Int) (w : World) (hn : n ≤ 1099511627776) (hk : 0 ≤ k) (hk2 : k ≤ 1099511627776)
    (h : Own 5 w lo hi (.slice p n c) n xs) :
    Calls Tryz.prog 10 #[.slice p n c, .int .i64 k] w fun e w' => e = .returned (.int .i64 (k + n)) ∧
      Own 5 w' lo hi (.slice p n c) n (marks k n) ∧ w.grownBy w' (Value.ownBlock (.slice p n c)) :=
  (markByteS_any lo p n c xs k w hn hk hk2 h.1).mono fun _ _ ⟨h1, h2, h3⟩ => ⟨h1, ⟨h2, h.2⟩, h3⟩

end Go.Proofs.YthfnechcddmjkaaGreatDoor

namespace Go.Proofs.YthfnechcddmjkaaGreatDoor
open Go.RowKit
set_option maxRecDepth 100000

theorem i64_mask (a : Int) (e : Nat) (m : Int) (hm : m = ((2 ^ e - 1 : Nat) : Int)) (he : e ≤ 62) : bits .and .i64 a m = a % ((2 ^ e : Nat) : Int) := by
  have hp : 2 ^ e ≤ 2 ^ 62 := Nat.pow_le_pow_right (by decide) he
  have h0 : 0 < 2 ^ e := Nat.two_pow_pos e
  have eb : (BitVec.ofInt 64 m).toNat = 2 ^ e - 1 := by
    rw [BitVec.toNat_ofInt, hm]
    omega
  have ea : (BitVec.ofInt 64 a).toNat = (a % 18446744073709551616).toNat := by rw [BitVec.toNat_ofInt]; rfl
  have ed : (18446744073709551616 : Int) = ((2 ^ e : Nat) : Int) * ((2 ^ (64 - e) : Nat) : Int) := by
    rw [← Int.natCast_mul, ← Nat.pow_add, show e + (64 - e) = 64 by omega]
    rfl
  have : (BitVec.ofInt 64 a &&& BitVec.ofInt 64 m).toNat = (a % 18446744073709551616).toNat % 2 ^ e := by
    rw [BitVec.toNat_and, ea, eb, Nat.and_two_pow_sub_one_eq_mod]
  show IntKind.i64.wrap ((BitVec.ofInt 64 a &&& BitVec.ofInt 64 m).toNat : Int) = _
  have hlt : (a % 18446744073709551616).toNat % 2 ^ e < 2 ^ e := Nat.mod_lt _ h0
  have e2 : (((a % 18446744073709551616).toNat % 2 ^ e : Nat) : Int) = a % ((2 ^ e : Nat) : Int) := by
    rw [Int.natCast_emod, Int.toNat_of_nonneg (Int.emod_nonneg _ (by decide)), ed, Int.emod_emod_of_dvd _ (Int.dvd_mul_right _ _)]
  rw [this, IntKind.wrap_i64]
  rw [← e2]
  omega

theorem i64_mask32 (a : Int) : bits .and .i64 a 4294967295 = a % 4294967296 := i64_mask a 32 _ rfl (by decide)
theorem i64_mask31 (a : Int) : bits .and .i64 a 31 = a % 32 := i64_mask a 5 _ rfl (by decide)

theorem u64_mask31 (k : Int) : bits .and .u64 (IntKind.u64.wrap k) 31 = k % 32 := by
  have ew : IntKind.u64.wrap k = k % 18446744073709551616 := by rw [IntKind.wrap_u64]
  have ea : (BitVec.ofInt 64 (k % 18446744073709551616)).toNat = (k % 18446744073709551616).toNat := by rw [BitVec.toNat_ofInt]; omega
  have : (BitVec.ofInt 64 (k % 18446744073709551616) &&& BitVec.ofInt 64 31).toNat = (k % 18446744073709551616).toNat % 32 := by
    rw [BitVec.toNat_and, ea]
    show _ &&& (2 ^ 5 - 1) = _
    rw [Nat.and_two_pow_sub_one_eq_mod]
  rw [ew]
  show IntKind.u64.wrap ((BitVec.ofInt 64 (k % 18446744073709551616) &&& BitVec.ofInt 64 31).toNat : Int) = _
  rw [this, IntKind.wrap_u64]
  omega

def turnN (x m : Nat) : Nat := 2 ^ m * (x % 2 ^ (32 - m)) + x / 2 ^ (32 - m)

theorem turn_hi {x m : Nat} (hx : x < 4294967296) (hm : m < 32) : x / 2 ^ (32 - m) < 2 ^ m := by
  rw [Nat.div_lt_iff_lt_mul (Nat.two_pow_pos _), ← Nat.pow_add, show m + (32 - m) = 32 by omega]
  exact hx

theorem turn_lt {x m : Nat} (hx : x < 4294967296) (hm : m < 32) : turnN x m < 4294967296 := by
  have h1 := turn_hi hx hm
  have h2 : x % 2 ^ (32 - m) < 2 ^ (32 - m) := Nat.mod_lt _ (Nat.two_pow_pos _)
  have h3 : 2 ^ m * (x % 2 ^ (32 - m) + 1) ≤ 2 ^ m * 2 ^ (32 - m) := Nat.mul_le_mul_left _ h2
  rw [← Nat.pow_add, show m + (32 - m) = 32 by omega, Nat.mul_add] at h3
  unfold turnN
  omega

theorem turn_or {x m : Nat} (hx : x < 4294967296) (hm : m < 32) : (x * 2 ^ m % 4294967296 ||| x / 2 ^ (32 - m)) = turnN x m := by
  have e : x * 2 ^ m % 4294967296 = 2 ^ m * (x % 2 ^ (32 - m)) := by
    rw [show (4294967296 : Nat) = 2 ^ m * 2 ^ (32 - m) by rw [← Nat.pow_add, show m + (32 - m) = 32 by omega], Nat.mul_comm x, Nat.mul_mod_mul_left]
  rw [e, turnN, Nat.two_pow_add_eq_or_of_lt (turn_hi hx hm)]

theorem turn_or' {x m : Nat} (hx : x < 4294967296) (hm : m < 32) : (x * 2 ^ m ||| x / 2 ^ (32 - m)) % 4294967296 = turnN x m := by
  rw [← turn_or hx hm]
  show (_ ||| _) % 2 ^ 32 = (_ % 2 ^ 32 ||| _)
  rw [Nat.or_mod_two_pow]
  congr 1
  exact Nat.mod_eq_of_lt (Nat.lt_of_le_of_lt (Nat.div_le_self _ _) hx)

theorem bv64_nat {a : Nat} (h : a < 18446744073709551616) : (BitVec.ofInt 64 (a : Int)).toNat = a := by rw [BitVec.toNat_ofInt]; omega
theorem bv32_nat {a : Nat} (h : a < 4294967296) : (BitVec.ofInt 32 (a : Int)).toNat = a := by rw [BitVec.toNat_ofInt]; omega

theorem i64_or (a b : Nat) (h1 : a < 9223372036854775808) (h2 : b < 9223372036854775808) : bits .or .i64 (a : Int) (b : Int) = ((a ||| b : Nat) : Int) := by
  have hlt : (a ||| b) < 2 ^ 63 := Nat.or_lt_two_pow h1 h2
  have : (BitVec.ofInt 64 (a : Int) ||| BitVec.ofInt 64 (b : Int)).toNat = (a ||| b) := by rw [BitVec.toNat_or, bv64_nat (by omega), bv64_nat (by omega)]
  show IntKind.i64.wrap ((BitVec.ofInt 64 (a : Int) ||| BitVec.ofInt 64 (b : Int)).toNat : Int) = _
  rw [this, IntKind.wrap_i64]
  omega

theorem u32_or (a b : Nat) (h1 : a < 4294967296) (h2 : b < 4294967296) : bits .or .u32 (a : Int) (b : Int) = ((a ||| b : Nat) : Int) := by
  have hlt : (a ||| b) < 2 ^ 32 := Nat.or_lt_two_pow h1 h2
  have : (BitVec.ofInt 32 (a : Int) ||| BitVec.ofInt 32 (b : Int)).toNat = (a ||| b) := by rw [BitVec.toNat_or, bv32_nat h1, bv32_nat h2]
  show IntKind.u32.wrap ((BitVec.ofInt 32 (a : Int) ||| BitVec.ofInt 32 (b : Int)).toNat : Int) = _
  rw [this, IntKind.wrap_u32]
  omega

theorem turn_u32 {x m : Nat} (hx : x < 4294967296) (hm : m < 32) : bits .or .u32 ((x : Int) * 2 ^ m % 4294967296) ((x : Int) / 2 ^ (32 - m)) = ((turnN x m : Nat) : Int) := by
  have e1 : (x : Int) * 2 ^ m % 4294967296 = ((x * 2 ^ m % 4294967296 : Nat) : Int) := by simp
  have e2 : (x : Int) / 2 ^ (32 - m) = ((x / 2 ^ (32 - m) : Nat) : Int) := by simp
  rw [e1, e2, u32_or _ _ (Nat.mod_lt _ (by decide)) (Nat.lt_of_le_of_lt (Nat.div_le_self _ _) hx), turn_or hx hm]

theorem turn_i64 {x m : Nat} (hx : x < 4294967296) (hm : m < 32) : bits .or .i64 ((x : Int) * 2 ^ m) ((x : Int) / 2 ^ (32 - m)) % 4294967296 = ((turnN x m : Nat) : Int) := by
  have e1 : (x : Int) * 2 ^ m = ((x * 2 ^ m : Nat) : Int) := by simp
  have e2 : (x : Int) / 2 ^ (32 - m) = ((x / 2 ^ (32 - m) : Nat) : Int) := by simp
  have hb : x * 2 ^ m < 9223372036854775808 := by
    have h1 : 2 ^ m ≤ 2 ^ 31 := Nat.pow_le_pow_right (by decide) (by omega)
    have h2 : x * 2 ^ m ≤ 4294967295 * 2 ^ 31 := Nat.mul_le_mul (by omega) h1
    omega
  have hd : x / 2 ^ (32 - m) ≤ x := Nat.div_le_self _ _
  have e3 := turn_or' hx hm
  rw [e1, e2, i64_or _ _ hb (by omega)]
  generalize (x * 2 ^ m ||| x / 2 ^ (32 - m)) = q at e3 ⊢
  omega

theorem shl_small {x m : Nat} (hx : x < 4294967296) (hm : m < 32) : 0 ≤ (x : Int) * 2 ^ m ∧ (x : Int) * 2 ^ m ≤ 9223372036854775807 := by
  have e1 : (x : Int) * 2 ^ m = ((x * 2 ^ m : Nat) : Int) := by simp
  have h1 : 2 ^ m ≤ 2 ^ 31 := Nat.pow_le_pow_right (by decide) (by omega)
  have h2 : x * 2 ^ m ≤ 4294967295 * 2 ^ 31 := Nat.mul_le_mul (by omega) h1
  omega

def wordN (n : Int) : Nat := (n % 4294967296).toNat
theorem wordN_lt (n : Int) : wordN n < 4294967296 := by unfold wordN; omega
theorem wordN_eq (n : Int) : ((wordN n : Nat) : Int) = n % 4294967296 := by unfold wordN; omega
def countN (k : Int) : Nat := (k % 32).toNat
theorem countN_lt (k : Int) : countN k < 32 := by unfold countN; omega
theorem countN_eq (k : Int) : ((countN k : Nat) : Int) = k % 32 := by unfold countN; omega
def turnI (n k : Int) : Int := ((turnN (wordN n) (countN k) : Nat) : Int)

end Go.Proofs.YthfnechcddmjkaaGreatDoor

namespace Go.Proofs.YthfnechcddmjkaaGreatDoor
open Go.RowKit
set_option maxRecDepth 100000

theorem specWord_same (n : Int) (w : World) :
    Calls Tryz.prog 196 #[.int .i64 n] w fun e w' => e = .returned (.int .i64 (n % 4294967296)) ∧ w' = w := by
  have hm := i64_mask32 n
  go_enter Tryz.func196, Tryz.ntmps196
  go_wp2
  go_ret
  exact ⟨rfl, rfl⟩

theorem implWord_same (n : Int) (w : World) :
    Calls Tryz.prog 207 #[.int .i64 n] w fun e w' => e = .returned (.int .i64 (n % 4294967296)) ∧ w' = w := by
  go_enter Tryz.func207, Tryz.ntmps207
  go_wp2
  go_ret
  exact ⟨rfl, rfl⟩

end Go.Proofs.YthfnechcddmjkaaGreatDoor

namespace Go.Proofs.YthfnechcddmjkaaGreatDoor
open Go.RowKit
set_option maxRecDepth 100000

theorem rotate_same (x : Nat) (k : Int) (w : World) (hx : x < 4294967296) :
    Calls Tryz.prog 224 #[.int .u32 x, .int .i64 k] w fun e w' => e = .returned (.int .u32 ((turnN x (countN k) : Nat) : Int)) ∧ w' = w := by
  have hm := (u64_mask31 k).trans (countN_eq k).symm
  have hlt := countN_lt k
  generalize countN k = m at hm hlt ⊢
  have ho := turn_u32 hx hlt
  go_enter Tryz.func224, Tryz.ntmps224
  go_wp2
  go_ret
  exact ⟨rfl, rfl⟩

theorem turned_same (x : Nat) (k : Int) (w : World) (hx : x < 4294967296) :
    Calls Tryz.prog 218 #[.int .u32 x, .int .i64 k] w fun e w' => e = .returned (.int .u32 ((turnN x (countN k) : Nat) : Int)) ∧ w' = w := by
  have hr := turn_lt hx (countN_lt k)
  have hc := fun w => rotate_same x k w hx
  generalize turnN x (countN k) = r at hr hc ⊢
  go_enter Tryz.func218, Tryz.ntmps218
  go_wp2_with (fail)
  refine (hc _).mono ?_
  rintro e w1 ⟨rfl, rfl⟩
  go_wp2
  go_ret
  exact ⟨rfl, rfl⟩

end Go.Proofs.YthfnechcddmjkaaGreatDoor

namespace Go.Proofs.YthfnechcddmjkaaGreatDoor
open Go.RowKit
set_option maxRecDepth 100000

theorem u32_xor (a b : Nat) (h1 : a < 4294967296) (h2 : b < 4294967296) : bits .xor .u32 (a : Int) (b : Int) = ((a ^^^ b : Nat) : Int) := by
  have hlt : (a ^^^ b) < 2 ^ 32 := Nat.xor_lt_two_pow h1 h2
  have : (BitVec.ofInt 32 (a : Int) ^^^ BitVec.ofInt 32 (b : Int)).toNat = (a ^^^ b) := by rw [BitVec.toNat_xor, bv32_nat h1, bv32_nat h2]
  show IntKind.u32.wrap ((BitVec.ofInt 32 (a : Int) ^^^ BitVec.ofInt 32 (b : Int)).toNat : Int) = _
  rw [this, IntKind.wrap_u32]
  omega

theorem u32_and (a b : Nat) (h1 : a < 4294967296) (h2 : b < 4294967296) : bits .and .u32 (a : Int) (b : Int) = ((a &&& b : Nat) : Int) := by
  have hlt : (a &&& b) < 2 ^ 32 := Nat.and_lt_two_pow _ h2
  have : (BitVec.ofInt 32 (a : Int) &&& BitVec.ofInt 32 (b : Int)).toNat = (a &&& b) := by rw [BitVec.toNat_and, bv32_nat h1, bv32_nat h2]
  show IntKind.u32.wrap ((BitVec.ofInt 32 (a : Int) &&& BitVec.ofInt 32 (b : Int)).toNat : Int) = _
  rw [this, IntKind.wrap_u32]
  omega

theorem i64_xor (a b : Nat) (h1 : a < 4294967296) (h2 : b < 4294967296) : bits .xor .i64 (a : Int) (b : Int) = ((a ^^^ b : Nat) : Int) := by
  have hlt : (a ^^^ b) < 2 ^ 32 := Nat.xor_lt_two_pow h1 h2
  have : (BitVec.ofInt 64 (a : Int) ^^^ BitVec.ofInt 64 (b : Int)).toNat = (a ^^^ b) := by rw [BitVec.toNat_xor, bv64_nat (by omega), bv64_nat (by omega)]
  show IntKind.i64.wrap ((BitVec.ofInt 64 (a : Int) ^^^ BitVec.ofInt 64 (b : Int)).toNat : Int) = _
  rw [this, IntKind.wrap_i64]
  omega

theorem i64_and (a b : Nat) (h1 : a < 4294967296) (h2 : b < 4294967296) : bits .and .i64 (a : Int) (b : Int) = ((a &&& b : Nat) : Int) := by
  have hlt : (a &&& b) < 2 ^ 32 := Nat.and_lt_two_pow _ h2
  have : (BitVec.ofInt 64 (a : Int) &&& BitVec.ofInt 64 (b : Int)).toNat = (a &&& b) := by rw [BitVec.toNat_and, bv64_nat (by omega), bv64_nat (by omega)]
  show IntKind.i64.wrap ((BitVec.ofInt 64 (a : Int) &&& BitVec.ofInt 64 (b : Int)).toNat : Int) = _
  rw [this, IntKind.wrap_i64]
  omega

theorem xor_lt {a b : Nat} (h1 : a < 4294967296) (h2 : b < 4294967296) : a ^^^ b < 4294967296 := Nat.xor_lt_two_pow (n := 32) h1 h2
theorem and_lt {a b : Nat} (h2 : b < 4294967296) : a &&& b < 4294967296 := Nat.and_lt_two_pow (n := 32) _ h2
theorem or_lt {a b : Nat} (h1 : a < 4294967296) (h2 : b < 4294967296) : a ||| b < 4294967296 := Nat.or_lt_two_pow (n := 32) h1 h2

def greatN (x a b c : Nat) : Nat := turnN x (32 - a) ^^^ turnN x (32 - b) ^^^ turnN x (32 - c)
def smallN (x a b c : Nat) : Nat := turnN x (32 - a) ^^^ turnN x (32 - b) ^^^ x / 2 ^ c
theorem greatN_lt {x a b c : Nat} (hx : x < 4294967296) (ha : 0 < a) (hb : 0 < b) (hc : 0 < c) : greatN x a b c < 4294967296 :=
  xor_lt (xor_lt (turn_lt hx (by omega)) (turn_lt hx (by omega))) (turn_lt hx (by omega))
theorem smallN_lt {x a b c : Nat} (hx : x < 4294967296) (ha : 0 < a) (hb : 0 < b) : smallN x a b c < 4294967296 :=
  xor_lt (xor_lt (turn_lt hx (by omega)) (turn_lt hx (by omega))) (Nat.lt_of_le_of_lt (Nat.div_le_self _ _) hx)

theorem u32_xor3 (a b c : Nat) (h1 : a < 4294967296) (h2 : b < 4294967296) (h3 : c < 4294967296) : bits .xor .u32 (bits .xor .u32 (a : Int) (b : Int)) (c : Int) = ((a ^^^ b ^^^ c : Nat) : Int) := by
  rw [u32_xor a b h1 h2, u32_xor _ c (xor_lt h1 h2) h3]
theorem i64_xor3 (a b c : Nat) (h1 : a < 4294967296) (h2 : b < 4294967296) (h3 : c < 4294967296) : bits .xor .i64 (bits .xor .i64 (a : Int) (b : Int)) (c : Int) = ((a ^^^ b ^^^ c : Nat) : Int) := by
  rw [i64_xor a b h1 h2, i64_xor _ c (xor_lt h1 h2) h3]

def chN (e f g : Nat) : Nat := (e &&& f) ^^^ ((4294967295 ^^^ e) &&& g)
def majN (a b c : Nat) : Nat := (a &&& b) ^^^ (a &&& c) ^^^ (b &&& c)
theorem chN_lt {e f g : Nat} (hf : f < 4294967296) (hg : g < 4294967296) : chN e f g < 4294967296 := xor_lt (and_lt hf) (and_lt hg)
theorem majN_lt {a b c : Nat} (hb : b < 4294967296) (hc : c < 4294967296) : majN a b c < 4294967296 := xor_lt (xor_lt (and_lt hb) (and_lt hc)) (and_lt hc)

theorem ch_or {e f g : Nat} (he : e < 4294967296) : (e &&& f ||| (4294967295 ^^^ e) &&& g) = chN e f g := by
  unfold chN
  apply Nat.eq_of_testBit_eq
  intro i
  have hk : (4294967295 : Nat).testBit i = decide (i < 32) := by
    rw [show (4294967295 : Nat) = 2 ^ 32 - 1 from rfl, Nat.testBit_two_pow_sub_one]
  simp only [Nat.testBit_or, Nat.testBit_xor, Nat.testBit_and, hk]
  by_cases hi : i < 32
  · simp only [hi, decide_true]
    cases e.testBit i <;> cases f.testBit i <;> cases g.testBit i <;> rfl
  · have : e.testBit i = false := Nat.testBit_lt_two_pow (Nat.lt_of_lt_of_le (show e < 2 ^ 32 from he) (Nat.pow_le_pow_right (by decide) (by omega)))
    rw [this]
    simp

theorem maj_or (a b c : Nat) : (a &&& b ||| a &&& c ||| b &&& c) = majN a b c := by
  unfold majN
  apply Nat.eq_of_testBit_eq
  intro i
  simp only [Nat.testBit_or, Nat.testBit_xor, Nat.testBit_and]
  cases a.testBit i <;> cases b.testBit i <;> cases c.testBit i <;> rfl

theorem u32_maj {a b c : Nat} (ha : a < 4294967296) (hb : b < 4294967296) (hc : c < 4294967296) :
    bits .or .u32 (bits .or .u32 (bits .and .u32 (a : Int) (b : Int)) (bits .and .u32 (a : Int) (c : Int))) (bits .and .u32 (b : Int) (c : Int)) = ((majN a b c : Nat) : Int) := by
  rw [u32_and a b ha hb, u32_and a c ha hc, u32_and b c hb hc, u32_or _ _ (and_lt hb) (and_lt hc), u32_or _ _ (or_lt (and_lt hb) (and_lt hc)) (and_lt hc), maj_or]
theorem i64_maj {a b c : Nat} (ha : a < 4294967296) (hb : b < 4294967296) (hc : c < 4294967296) :
    bits .xor .i64 (bits .xor .i64 (bits .and .i64 (a : Int) (b : Int)) (bits .and .i64 (a : Int) (c : Int))) (bits .and .i64 (b : Int) (c : Int)) = ((majN a b c : Nat) : Int) := by
  rw [i64_and a b ha hb, i64_and a c ha hc, i64_and b c hb hc, i64_xor _ _ (and_lt hb) (and_lt hc), i64_xor _ _ (xor_lt (and_lt hb) (and_lt hc)) (and_lt hc), majN]
theorem u32_ch {e f g : Nat} (he : e < 4294967296) (hf : f < 4294967296) (hg : g < 4294967296) :
    bits .or .u32 (bits .and .u32 (e : Int) (f : Int)) (bits .and .u32 (bits .xor .u32 IntKind.u32.max (e : Int)) (g : Int)) = ((chN e f g : Nat) : Int) := by
  have h0 : bits .xor .u32 IntKind.u32.max (e : Int) = ((4294967295 ^^^ e : Nat) : Int) := u32_xor 4294967295 e (by decide) he
  rw [h0, u32_and e f he hf, u32_and _ g (xor_lt (by decide) he) hg, u32_or _ _ (and_lt hf) (and_lt hg), ch_or he]
theorem i64_ch {e f g : Nat} (he : e < 4294967296) (hf : f < 4294967296) (hg : g < 4294967296) :
    bits .xor .i64 (bits .and .i64 (e : Int) (f : Int)) (bits .and .i64 (bits .xor .i64 4294967295 (e : Int)) (g : Int)) = ((chN e f g : Nat) : Int) := by
  have h0 : bits .xor .i64 4294967295 (e : Int) = ((4294967295 ^^^ e : Nat) : Int) := i64_xor 4294967295 e (by decide) he
  rw [h0, i64_and e f he hf, i64_and _ g (xor_lt (by decide) he) hg, i64_xor _ _ (and_lt hf) (and_lt hg), chN]

structure HSt where
  a : Nat
  b : Nat
  c : Nat
  d : Nat
  e : Nat
  f : Nat
  g : Nat
  h : Nat
def HSt.ok (s : HSt) : Prop := s.a < 4294967296 ∧ s.b < 4294967296 ∧ s.c < 4294967296 ∧ s.d < 4294967296 ∧ s.e < 4294967296 ∧ s.f < 4294967296 ∧ s.g < 4294967296 ∧ s.h < 4294967296
def HSt.list (s : HSt) : List Nat := [s.a, s.b, s.c, s.d, s.e, s.f, s.g, s.h]
def t1N (s : HSt) (k w : Nat) : Nat := s.h + greatN s.e 6 11 25 + chN s.e s.f s.g + k + w
def t2N (s : HSt) : Nat := greatN s.a 2 13 22 + majN s.a s.b s.c
def stepN (s : HSt) (k w : Nat) : HSt := ⟨(t1N s k w + t2N s) % 4294967296, s.a, s.b, s.c, (s.d + t1N s k w) % 4294967296, s.e, s.f, s.g⟩
theorem stepN_ok {s : HSt} (h : s.ok) (k w : Nat) : (stepN s k w).ok := by
  obtain ⟨h1, h2, h3, h4, h5, h6, h7, h8⟩ := h
  exact ⟨Nat.mod_lt _ (by decide), h1, h2, h3, Nat.mod_lt _ (by decide), h5, h6, h7⟩

def keysL : List Nat := [0x428a2f98, 0x71374491, 0xb5c0fbcf, 0xe9b5dba5, 0x3956c25b, 0x59f111f1, 0x923f82a4, 0xab1c5ed5,
  0xd807aa98, 0x12835b01, 0x243185be, 0x550c7dc3, 0x72be5d74, 0x80deb1fe, 0x9bdc06a7, 0xc19bf174,
  0xe49b69c1, 0xefbe4786, 0x0fc19dc6, 0x240ca1cc, 0x2de92c6f, 0x4a7484aa, 0x5cb0a9dc, 0x76f988da,
  0x983e5152, 0xa831c66d, 0xb00327c8, 0xbf597fc7, 0xc6e00bf3, 0xd5a79147, 0x06ca6351, 0x14292967,
  0x27b70a85, 0x2e1b2138, 0x4d2c6dfc, 0x53380d13, 0x650a7354, 0x766a0abb, 0x81c2c92e, 0x92722c85,
  0xa2bfe8a1, 0xa81a664b, 0xc24b8b70, 0xc76c51a3, 0xd192e819, 0xd6990624, 0xf40e3585, 0x106aa070,
  0x19a4c116, 0x1e376c08, 0x2748774c, 0x34b0bcb5, 0x391c0cb3, 0x4ed8aa4a, 0x5b9cca4f, 0x682e6ff3,
  0x748f82ee, 0x78a5636f, 0x84c87814, 0x8cc70208, 0x90befffa, 0xa4506ceb, 0xbef9a3f7, 0xc67178f2]
theorem keysL_lt : ∀ k ∈ keysL, k < 4294967296 := by decide
theorem getD_lt {l : List Nat} {B : Nat} (h : ∀ k ∈ l, k < B) (hB : 0 < B) (i : Nat) : l.getD i 0 < B := by
  rw [List.getD_eq_getElem?_getD]
  cases e : l[i]? with
  | none => exact hB
  | some v => exact h v (List.mem_of_getElem? e)

def roundsN (W : List Nat) (s : HSt) : Nat → HSt
  | 0 => s
  | t + 1 => stepN (roundsN W s t) (keysL.getD t 0) (W.getD t 0)
theorem roundsN_ok (W : List Nat) {s : HSt} (h : s.ok) : ∀ t, (roundsN W s t).ok
  | 0 => h
  | t + 1 => stepN_ok (roundsN_ok W h t) _ _

def addL (xs ys : List Nat) : List Nat := (List.range 8).map fun i => (xs.getD i 0 + ys.getD i 0) % 4294967296
theorem addL_length (xs ys : List Nat) : (addL xs ys).length = 8 := by simp [addL]
theorem addL_lt (xs ys : List Nat) : ∀ x ∈ addL xs ys, x < 4294967296 := by
  intro x hx
  simp only [addL, List.mem_map] at hx
  obtain ⟨i, _, rfl⟩ := hx
  exact Nat.mod_lt _ (by decide)
def stOf (l : List Nat) : HSt := ⟨l.getD 0 0, l.getD 1 0, l.getD 2 0, l.getD 3 0, l.getD 4 0, l.getD 5 0, l.getD 6 0, l.getD 7 0⟩
theorem stOf_list {l : List Nat} (h : l.length = 8) : (stOf l).list = l := by
  match l, h with
  | [a, b, c, d, e, f, g, h], _ => rfl
theorem stOf_ok {l : List Nat} (h : ∀ x ∈ l, x < 4294967296) : (stOf l).ok :=
  ⟨getD_lt h (by decide) _, getD_lt h (by decide) _, getD_lt h (by decide) _, getD_lt h (by decide) _, getD_lt h (by decide) _, getD_lt h (by decide) _, getD_lt h (by decide) _, getD_lt h (by decide) _⟩

def nextN (l : List Nat) (t : Nat) : Nat := (smallN (l.getD (t - 2) 0) 17 19 10 + l.getD (t - 7) 0 + smallN (l.getD (t - 15) 0) 7 18 3 + l.getD (t - 16) 0) % 4294967296
def moreN (l : List Nat) : Nat → List Nat
  | 0 => l
  | n + 1 => moreN l n ++ [nextN (moreN l n) (16 + n)]
theorem moreN_length (l : List Nat) (n : Nat) : (moreN l n).length = l.length + n := by
  induction n with
  | zero => rfl
  | succ n ih => simp [moreN, ih]; omega
theorem moreN_lt {l : List Nat} (h : ∀ x ∈ l, x < 4294967296) (n : Nat) : ∀ x ∈ moreN l n, x < 4294967296 := by
  induction n with
  | zero => exact h
  | succ n ih =>
    intro x hx
    simp only [moreN, List.mem_append, List.mem_singleton] at hx
    rcases hx with hx | rfl
    · exact ih x hx
    · exact Nat.mod_lt _ (by decide)
theorem moreN_getD (l : List Nat) (n m i : Nat) (hl : l.length = 16) (hi : i < 16 + n) (hn : n ≤ m) : (moreN l m).getD i 0 = (moreN l n).getD i 0 := by
  induction m with
  | zero => rw [show n = 0 by omega]
  | succ m ih =>
    by_cases e : n = m + 1
    · rw [e]
    · rw [← ih (by omega)]
      have := moreN_length l m
      simp only [moreN, List.getD_eq_getElem?_getD]
      rw [List.getElem?_append_left (by omega)]
def spreadN (l : List Nat) : List Nat := moreN l 48
theorem spreadN_length {l : List Nat} (hl : l.length = 16) : (spreadN l).length = 64 := by rw [spreadN, moreN_length, hl]
theorem spreadN_lt {l : List Nat} (h : ∀ x ∈ l, x < 4294967296) : ∀ x ∈ spreadN l, x < 4294967296 := moreN_lt h _
theorem spreadN_first {l : List Nat} (hl : l.length = 16) (t : Nat) (ht : t < 16) : (spreadN l).getD t 0 = l.getD t 0 := moreN_getD l 0 48 t hl (by omega) (by omega)
theorem spreadN_next {l : List Nat} (hl : l.length = 16) (t : Nat) (h1 : 16 ≤ t) (h2 : t < 64) : (spreadN l).getD t 0 = nextN (spreadN l) t := by
  obtain ⟨n, rfl⟩ : ∃ n, t = 16 + n := ⟨t - 16, by omega⟩
  have e : ∀ i, i < 16 + n → (spreadN l).getD i 0 = (moreN l n).getD i 0 := fun i hi => moreN_getD l n 48 i hl hi (by omega)
  have hlen := moreN_length l n
  rw [show (spreadN l).getD (16 + n) 0 = (moreN l (n + 1)).getD (16 + n) 0 from moreN_getD l (n + 1) 48 (16 + n) hl (by omega) (by omega)]
  unfold nextN
  rw [e _ (by omega), e _ (by omega), e _ (by omega), e _ (by omega)]
  simp only [moreN, List.getD_eq_getElem?_getD]
  rw [List.getElem?_append_right (by omega), show 16 + n - (moreN l n).length = 0 by omega]
  simp [nextN, List.getD_eq_getElem?_getD]
theorem spreadN_zero : spreadN (List.replicate 16 0) = List.replicate 64 0 := by decide

def blockN (ws s : List Nat) : List Nat := addL s (roundsN (spreadN ws) (stOf s) 64).list
theorem blockN_length (ws s : List Nat) : (blockN ws s).length = 8 := addL_length _ _
theorem blockN_lt (ws s : List Nat) : ∀ x ∈ blockN ws s, x < 4294967296 := addL_lt _ _

end Go.Proofs.YthfnechcddmjkaaGreatDoor

namespace Go.Proofs.YthfnechcddmjkaaGreatDoor
open Go.RowKit
set_option maxRecDepth 100000

theorem turned_right (x : Nat) (k : Int) (m : Nat) (w : World) (hx : x < 4294967296) (hm : countN k = m) :
    Calls Tryz.prog 218 #[.int .u32 x, .int .i64 k] w fun e w' => e = .returned (.int .u32 ((turnN x m : Nat) : Int)) ∧ w' = w := by
  subst hm
  exact turned_same x k w hx

theorem greatMix1_same (x : Nat) (w : World) (hx : x < 4294967296) :
    Calls Tryz.prog 201 #[.int .u32 x] w fun e w' => e = .returned (.int .u32 ((greatN x 6 11 25 : Nat) : Int)) ∧ w' = w := by
  have c1 := fun w => turned_right x (-6) 26 w hx rfl
  have c2 := fun w => turned_right x (-11) 21 w hx rfl
  have c3 := fun w => turned_right x (-25) 7 w hx rfl
  have l1 := turn_lt (m := 26) hx (by decide)
  have l2 := turn_lt (m := 21) hx (by decide)
  have l3 := turn_lt (m := 7) hx (by decide)
  simp only [greatN, Nat.reduceSub]
  generalize turnN x 26 = r1 at c1 l1 ⊢
  generalize turnN x 21 = r2 at c2 l2 ⊢
  generalize turnN x 7 = r3 at c3 l3 ⊢
  have ho := u32_xor3 r1 r2 r3 l1 l2 l3
  go_enter Tryz.func201, Tryz.ntmps201
  go_wp2_with (fail)
  refine (c1 _).mono ?_
  rintro e w1 ⟨rfl, rfl⟩
  go_wp2_with (fail)
  refine (c2 _).mono ?_
  rintro e w1 ⟨rfl, rfl⟩
  go_wp2_with (fail)
  refine (c3 _).mono ?_
  rintro e w1 ⟨rfl, rfl⟩
  go_wp2
  go_ret
  exact ⟨rfl, rfl⟩

theorem greatMix0_same (x : Nat) (w : World) (hx : x < 4294967296) :
    Calls Tryz.prog 203 #[.int .u32 x] w fun e w' => e = .returned (.int .u32 ((greatN x 2 13 22 : Nat) : Int)) ∧ w' = w := by
  have c1 := fun w => turned_right x (-2) 30 w hx rfl
  have c2 := fun w => turned_right x (-13) 19 w hx rfl
  have c3 := fun w => turned_right x (-22) 10 w hx rfl
  have l1 := turn_lt (m := 30) hx (by decide)
  have l2 := turn_lt (m := 19) hx (by decide)
  have l3 := turn_lt (m := 10) hx (by decide)
  simp only [greatN, Nat.reduceSub]
  generalize turnN x 30 = r1 at c1 l1 ⊢
  generalize turnN x 19 = r2 at c2 l2 ⊢
  generalize turnN x 10 = r3 at c3 l3 ⊢
  have ho := u32_xor3 r1 r2 r3 l1 l2 l3
  go_enter Tryz.func203, Tryz.ntmps203
  go_wp2_with (fail)
  refine (c1 _).mono ?_
  rintro e w1 ⟨rfl, rfl⟩
  go_wp2_with (fail)
  refine (c2 _).mono ?_
  rintro e w1 ⟨rfl, rfl⟩
  go_wp2_with (fail)
  refine (c3 _).mono ?_
  rintro e w1 ⟨rfl, rfl⟩
  go_wp2
  go_ret
  exact ⟨rfl, rfl⟩

theorem smallMix1_same (x : Nat) (w : World) (hx : x < 4294967296) :
    Calls Tryz.prog 199 #[.int .u32 x] w fun e w' => e = .returned (.int .u32 ((smallN x 17 19 10 : Nat) : Int)) ∧ w' = w := by
  have c1 := fun w => turned_right x (-17) 15 w hx rfl
  have c2 := fun w => turned_right x (-19) 13 w hx rfl
  have l1 := turn_lt (m := 15) hx (by decide)
  have l2 := turn_lt (m := 13) hx (by decide)
  simp only [smallN, Nat.reduceSub, Nat.reducePow]
  generalize turnN x 15 = r1 at c1 l1 ⊢
  generalize turnN x 13 = r2 at c2 l2 ⊢
  have ho := u32_xor3 r1 r2 (x / 1024) l1 l2 (by omega)
  simp only [Int.natCast_ediv, Int.cast_ofNat_Int] at ho
  go_enter Tryz.func199, Tryz.ntmps199
  go_wp2_with (fail)
  refine (c1 _).mono ?_
  rintro e w1 ⟨rfl, rfl⟩
  go_wp2_with (fail)
  refine (c2 _).mono ?_
  rintro e w1 ⟨rfl, rfl⟩
  go_wp2
  go_ret
  exact ⟨rfl, rfl⟩

theorem smallMix0_same (x : Nat) (w : World) (hx : x < 4294967296) :
    Calls Tryz.prog 200 #[.int .u32 x] w fun e w' => e = .returned (.int .u32 ((smallN x 7 18 3 : Nat) : Int)) ∧ w' = w := by
  have c1 := fun w => turned_right x (-7) 25 w hx rfl
  have c2 := fun w => turned_right x (-18) 14 w hx rfl
  have l1 := turn_lt (m := 25) hx (by decide)
  have l2 := turn_lt (m := 14) hx (by decide)
  simp only [smallN, Nat.reduceSub, Nat.reducePow]
  generalize turnN x 25 = r1 at c1 l1 ⊢
  generalize turnN x 14 = r2 at c2 l2 ⊢
  have ho := u32_xor3 r1 r2 (x / 8) l1 l2 (by omega)
  simp only [Int.natCast_ediv, Int.cast_ofNat_Int] at ho
  go_enter Tryz.func200, Tryz.ntmps200
  go_wp2_with (fail)
  refine (c1 _).mono ?_
  rintro e w1 ⟨rfl, rfl⟩
  go_wp2_with (fail)
  refine (c2 _).mono ?_
  rintro e w1 ⟨rfl, rfl⟩
  go_wp2
  go_ret
  exact ⟨rfl, rfl⟩

theorem majority_same (a b c : Nat) (w : World) (ha : a < 4294967296) (hb : b < 4294967296) (hc : c < 4294967296) :
    Calls Tryz.prog 204 #[.int .u32 a, .int .u32 b, .int .u32 c] w fun e w' => e = .returned (.int .u32 ((majN a b c : Nat) : Int)) ∧ w' = w := by
  have ho := u32_maj ha hb hc
  generalize majN a b c = r at ho ⊢
  go_enter Tryz.func204, Tryz.ntmps204
  go_wp2
  go_ret
  exact ⟨rfl, rfl⟩

theorem choice_same (a b c : Nat) (w : World) (ha : a < 4294967296) (hb : b < 4294967296) (hc : c < 4294967296) :
    Calls Tryz.prog 202 #[.int .u32 a, .int .u32 b, .int .u32 c] w fun e w' => e = .returned (.int .u32 ((chN a b c : Nat) : Int)) ∧ w' = w := by
  have ho := u32_ch ha hb hc
  generalize chN a b c = r at ho ⊢
  go_enter Tryz.func202, Tryz.ntmps202
  go_wp2
  go_ret
  exact ⟨rfl, rfl⟩

end Go.Proofs.YthfnechcddmjkaaGreatDoor

namespace Go.Proofs.YthfnechcddmjkaaGreatDoor
open Go.RowKit
set_option maxRecDepth 100000

theorem specTurn_drew (x : Nat) (k : Int) (m : Nat) (w : World) (hx : x < 4294967296) (hm0 : countN k = m) :
    Calls Tryz.prog 216 #[.int .i64 x, .int .i64 k] w fun e w' => e = .returned (.int .i64 ((turnN x m : Nat) : Int)) ∧ ∃ n, w' = w.drewN n := by
  have he : (x : Int) % 4294967296 = (x : Int) := by omega
  have hm := (i64_mask31 k).trans (countN_eq k).symm
  have hlt := countN_lt k
  subst hm0
  generalize countN k = m at hm hlt ⊢
  have ho := turn_i64 hx hlt
  have hs := shl_small hx hlt
  generalize turnN x m = r at ho ⊢
  have c1 := fun w => specWord_same (x : Int) w
  rw [he] at c1
  clear he
  go_enter Tryz.func216, Tryz.ntmps216
  go_wp2_with (fail)
  refine (c1 _).mono ?_
  rintro e w1 ⟨rfl, rfl⟩
  clear c1
  go_wp2_with (fail)
  go_quiet ((go_at_call 196; exact Calls.quiet_of_same (specWord_same _ _)))
  go_wp2
  go_ret
  rw [ho]
  exact ⟨rfl, _, rfl⟩

theorem l3Mix_s1 (x : Nat) (w : World) (hx : x < 4294967296) :
    Calls Tryz.prog 197 #[.int .i64 x, .int .i64 17, .int .i64 19, .int .i64 10, .bool true] w fun e w' => e = .returned (.int .i64 ((smallN x 17 19 10 : Nat) : Int)) ∧ ∃ n, w' = w.drewN n := by
  have c0 := fun w => specTurn_drew x 22 22 w hx rfl
  have c1 := fun w => specTurn_drew x 15 15 w hx rfl
  have c2 := fun w => specTurn_drew x 13 13 w hx rfl
  have l0 := turn_lt (m := 22) hx (by decide)
  have l1 := turn_lt (m := 15) hx (by decide)
  have l2 := turn_lt (m := 13) hx (by decide)
  simp only [smallN, Nat.reduceSub, Nat.reducePow]
  generalize turnN x 22 = r0 at c0 l0
  generalize turnN x 15 = r1 at c1 l1 ⊢
  generalize turnN x 13 = r2 at c2 l2 ⊢
  have ho := i64_xor3 r1 r2 (x / 1024) l1 l2 (by omega)
  simp only [Int.natCast_ediv, Int.cast_ofNat_Int] at ho
  have he : (x : Int) % 4294967296 = (x : Int) := by omega
  have cw := fun w => specWord_same (x : Int) w
  rw [he] at cw
  clear he
  go_enter Tryz.func197, Tryz.ntmps197
  go_wp2_with (fail)
  refine (c0 _).mono ?_
  rintro e w1 ⟨rfl, n1, rfl⟩
  go_wp2_with (fail)
  refine (cw _).mono ?_
  rintro e w1 ⟨rfl, rfl⟩
  go_wp2_with (fail)
  refine (c1 _).mono ?_
  rintro e w1 ⟨rfl, n2, rfl⟩
  go_wp2_with (fail)
  refine (c2 _).mono ?_
  rintro e w1 ⟨rfl, n3, rfl⟩
  go_wp2
  go_ret
  exact ⟨rfl, _, rfl⟩

theorem l3Mix_s0 (x : Nat) (w : World) (hx : x < 4294967296) :
    Calls Tryz.prog 197 #[.int .i64 x, .int .i64 7, .int .i64 18, .int .i64 3, .bool true] w fun e w' => e = .returned (.int .i64 ((smallN x 7 18 3 : Nat) : Int)) ∧ ∃ n, w' = w.drewN n := by
  have c0 := fun w => specTurn_drew x 29 29 w hx rfl
  have c1 := fun w => specTurn_drew x 25 25 w hx rfl
  have c2 := fun w => specTurn_drew x 14 14 w hx rfl
  have l0 := turn_lt (m := 29) hx (by decide)
  have l1 := turn_lt (m := 25) hx (by decide)
  have l2 := turn_lt (m := 14) hx (by decide)
  simp only [smallN, Nat.reduceSub, Nat.reducePow]
  generalize turnN x 29 = r0 at c0 l0
  generalize turnN x 25 = r1 at c1 l1 ⊢
  generalize turnN x 14 = r2 at c2 l2 ⊢
  have ho := i64_xor3 r1 r2 (x / 8) l1 l2 (by omega)
  simp only [Int.natCast_ediv, Int.cast_ofNat_Int] at ho
  have he : (x : Int) % 4294967296 = (x : Int) := by omega
  have cw := fun w => specWord_same (x : Int) w
  rw [he] at cw
  clear he
  go_enter Tryz.func197, Tryz.ntmps197
  go_wp2_with (fail)
  refine (c0 _).mono ?_
  rintro e w1 ⟨rfl, n1, rfl⟩
  go_wp2_with (fail)
  refine (cw _).mono ?_
  rintro e w1 ⟨rfl, rfl⟩
  go_wp2_with (fail)
  refine (c1 _).mono ?_
  rintro e w1 ⟨rfl, n2, rfl⟩
  go_wp2_with (fail)
  refine (c2 _).mono ?_
  rintro e w1 ⟨rfl, n3, rfl⟩
  go_wp2
  go_ret
  exact ⟨rfl, _, rfl⟩

theorem l3Mix_S1 (x : Nat) (w : World) (hx : x < 4294967296) :
    Calls Tryz.prog 197 #[.int .i64 x, .int .i64 6, .int .i64 11, .int .i64 25, .bool false] w fun e w' => e = .returned (.int .i64 ((greatN x 6 11 25 : Nat) : Int)) ∧ ∃ n, w' = w.drewN n := by
  have c0 := fun w => specTurn_drew x 7 7 w hx rfl
  have c1 := fun w => specTurn_drew x 26 26 w hx rfl
  have c2 := fun w => specTurn_drew x 21 21 w hx rfl
  have l0 := turn_lt (m := 7) hx (by decide)
  have l1 := turn_lt (m := 26) hx (by decide)
  have l2 := turn_lt (m := 21) hx (by decide)
  simp only [greatN, Nat.reduceSub]
  generalize turnN x 7 = r0 at c0 l0 ⊢
  generalize turnN x 26 = r1 at c1 l1 ⊢
  generalize turnN x 21 = r2 at c2 l2 ⊢
  have ho := i64_xor3 r1 r2 r0 l1 l2 l0
  go_enter Tryz.func197, Tryz.ntmps197
  go_wp2_with (fail)
  refine (c0 _).mono ?_
  rintro e w1 ⟨rfl, n1, rfl⟩
  go_wp2_with (fail)
  refine (c1 _).mono ?_
  rintro e w1 ⟨rfl, n2, rfl⟩
  go_wp2_with (fail)
  refine (c2 _).mono ?_
  rintro e w1 ⟨rfl, n3, rfl⟩
  go_wp2
  go_ret
  exact ⟨rfl, _, rfl⟩

theorem l3Mix_S0 (x : Nat) (w : World) (hx : x < 4294967296) :
    Calls Tryz.prog 197 #[.int .i64 x, .int .i64 2, .int .i64 13, .int .i64 22, .bool false] w fun e w' => e = .returned (.int .i64 ((greatN x 2 13 22 : Nat) : Int)) ∧ ∃ n, w' = w.drewN n := by
  have c0 := fun w => specTurn_drew x 10 10 w hx rfl
  have c1 := fun w => specTurn_drew x 30 30 w hx rfl
  have c2 := fun w => specTurn_drew x 19 19 w hx rfl
  have l0 := turn_lt (m := 10) hx (by decide)
  have l1 := turn_lt (m := 30) hx (by decide)
  have l2 := turn_lt (m := 19) hx (by decide)
  simp only [greatN, Nat.reduceSub]
  generalize turnN x 10 = r0 at c0 l0 ⊢
  generalize turnN x 30 = r1 at c1 l1 ⊢
  generalize turnN x 19 = r2 at c2 l2 ⊢
  have ho := i64_xor3 r1 r2 r0 l1 l2 l0
  go_enter Tryz.func197, Tryz.ntmps197
  go_wp2_with (fail)
  refine (c0 _).mono ?_
  rintro e w1 ⟨rfl, n1, rfl⟩
  go_wp2_with (fail)
  refine (c1 _).mono ?_
  rintro e w1 ⟨rfl, n2, rfl⟩
  go_wp2_with (fail)
  refine (c2 _).mono ?_
  rintro e w1 ⟨rfl, n3, rfl⟩
  go_wp2
  go_ret
  exact ⟨rfl, _, rfl⟩

end Go.Proofs.YthfnechcddmjkaaGreatDoor

namespace Go.Proofs.YthfnechcddmjkaaGreatDoor
open Go.RowKit
set_option maxRecDepth 100000

def revK (xs : List Int) (n k : Nat) : List Int := (List.range n).map fun (i : Nat) => if i < k ∨ n ≤ i + k then xs.getD (n - 1 - i) 0 else xs.getD i 0
theorem revK_length (xs : List Int) (n k : Nat) : (revK xs n k).length = n := by simp [revK]
theorem revK_zero (xs : List Int) (n : Nat) (hx : xs.length = n) : revK xs n 0 = xs := by
  apply List.ext_getElem
  · simp [revK, hx]
  · intro i h1 h2
    simp [revK] at h1 ⊢
    rw [if_neg (by omega)]
    simp [List.getElem?_eq_getElem h2]
theorem revK_at (xs : List Int) (n k i : Nat) (hi : i < n) : (revK xs n k)[i]? = some (if i < k ∨ n ≤ i + k then xs.getD (n - 1 - i) 0 else xs.getD i 0) := by
  simp [revK, hi]
theorem revK_end (xs : List Int) (n k : Nat) (hx : xs.length = n) (h : n ≤ 2 * k + 1) : revK xs n k = xs.reverse := by
  apply List.ext_getElem
  · simp [revK, hx]
  · intro i h1 h2
    simp [revK] at h1
    simp at h2
    rw [List.getElem_reverse]
    simp only [revK, List.getElem_map, List.getElem_range, List.getD_eq_getElem?_getD]
    by_cases hc : i < k ∨ n ≤ i + k
    · rw [if_pos hc, List.getElem?_eq_getElem (by omega)]
      simp [hx]
    · rw [if_neg hc]
      have e : xs.length - 1 - i = i := by omega
      rw [List.getElem?_eq_getElem (by omega)]
      simp [e]
theorem revK_step (xs : List Int) (n k j : Nat) (hj : j + k + 1 = n) (hkj : k < j) :
    (((revK xs n k).map (Value.int .u8)).set k (.int .u8 (xs.getD j 0))).set j (.int .u8 (xs.getD k 0)) = (revK xs n (k + 1)).map (Value.int .u8) := by
  apply List.ext_getElem?
  intro i
  by_cases hi : i < n
  · rw [List.getElem?_map, revK_at xs n (k + 1) i hi]
    by_cases e1 : i = j
    · subst e1
      rw [List.getElem?_set_self (by simp [revK_length]; omega), if_pos (by omega)]
      simp [show n - 1 - i = k by omega]
    · rw [List.getElem?_set_ne (by omega)]
      by_cases e2 : i = k
      · subst e2
        rw [List.getElem?_set_self (by simp [revK_length]; omega), if_pos (by omega)]
        simp [show n - 1 - i = j by omega]
      · rw [List.getElem?_set_ne (by omega), List.getElem?_map, revK_at xs n k i hi]
        by_cases hc : i < k ∨ n ≤ i + k
        · rw [if_pos hc, if_pos (by omega)]
        · rw [if_neg hc, if_neg (by omega)]
  · rw [List.getElem?_eq_none (by simp [revK_length]; omega), List.getElem?_eq_none (by simp [revK_length]; omega)]

set_option maxHeartbeats 2000000 in
theorem reverse_any {ty : Nat} (lo hi : Nat) (p : Option Addr) (n c : Nat) (xs : List Int) (w : World) (hn : n ≤ 1099511627776) (h : Own ty w lo hi (.slice p n c) n xs) :
    Calls Tryz.prog 88 #[.slice p n c] w fun e w' => e = .returned (.tuple #[]) ∧ Own ty w' lo hi (.slice p n c) n xs.reverse ∧ w.grownBy w' (Value.ownBlock (.slice p n c)) := by
  have hx := h.len
  obtain ⟨hown0, hhi⟩ := h
  rw [← revK_zero xs n hx] at hown0
  go_enter Tryz.func88, Tryz.ntmps88
  go_wp2
  go_loopw [2, 3] (fun i q wr => ∃ k : Nat, 2 * k ≤ n + 1 ∧ i = .int .i64 k ∧ q = .int .i64 ((n : Int) - 1 - k) ∧ wr.ownsRow lo ty 1 (.slice p n c) n ((revK xs n k).map (Value.int .u8)) ∧ w.grownBy wr (Value.ownBlock (.slice p n c)))
    (fun i _ _ => n + 1 - (intOf i).toNat)
  case atStart => exact ⟨0, by omega, rfl, by go_num, hown0, World.grownBy.refl _ _⟩
  case round =>
    clear hown0
    obtain ⟨k, hk, rfl, rfl, hown, hgr⟩ := hrel
    by_cases hlt : 2 * k + 1 < n
    · obtain ⟨j, hj⟩ : ∃ j : Nat, j + k + 1 = n := ⟨n - 1 - k, by omega⟩
      have hij : ((n : Int) - 1 - (k : Int)) = (j : Int) := by omega
      have hkj : k < j := by omega
      rw [hij]
      clear hij
      obtain ⟨g, rfl⟩ := owns_at hown (by omega)
      have c1 : wr.cell? ⟨g, k, none⟩ = some (.int .u8 (xs.getD k 0)) := by
        rw [hown.cellAt k (by omega), List.getElem?_map, revK_at xs n k k (by omega), if_neg (by omega)]; rfl
      have c2 : wr.cell? ⟨g, j, none⟩ = some (.int .u8 (xs.getD j 0)) := by
        rw [hown.cellAt j (by omega), List.getElem?_map, revK_at xs n k j (by omega), if_neg (by omega)]; rfl
      have f1 := hown.frozenAt k
      have f2 := hown.frozenAt j
      have st1 := hown.stored k (.int .u8 (xs.getD j 0))
      have st2 := st1.1.stored j (.int .u8 (xs.getD k 0))
      rw [revK_step xs n k j hj hkj] at st2
      have hgr2 := grown_trans (grown_trans hgr st1.2) st2.2
      obtain ⟨u, hu⟩ : ∃ u, u = xs.getD k 0 := ⟨_, rfl⟩
      obtain ⟨v, hv⟩ : ∃ v, v = xs.getD j 0 := ⟨_, rfl⟩
      rw [← hu] at c1 st2 hgr2
      rw [← hv] at c2 st2 hgr2
      clear st1 hu hv hown hgr
      go_wp2
      go_region
      all_goals
        go_wp2
        go_roundw
        case rel => exact ⟨k + 1, by omega, by go_num, by go_num, st2.1, ⟨hgr2.os, hgr2.tape, hgr2.output, hgr2.size, hgr2.block⟩⟩
        case measure => simp [intOf]; omega
    · rw [revK_end xs n k hx (by omega)] at hown
      have c1 : ¬ (k : Int) < (n : Int) - 1 - (k : Int) := by omega
      go_wp2
      go_end0
      exact ⟨rfl, ⟨hown, hhi⟩, hgr⟩

end Go.Proofs.YthfnechcddmjkaaGreatDoor

namespace Go.Proofs.YthfnechcddmjkaaGreatDoor
open Go.RowKit

def four (x0 x1 x2 x3 : Nat) : Nat := ((x0 * 256 + x1) * 256 + x2) * 256 + x3
def fours (x0 x1 x2 x3 : Nat) : Nat → Nat
  | 0 => 0
  | 1 => x0
  | 2 => x0 * 256 + x1
  | 3 => (x0 * 256 + x1) * 256 + x2
  | _ => four x0 x1 x2 x3

theorem or_byte {q x : Nat} (hq : q < 16777216) (hx : x < 256) : bits .or .u32 ((q : Int) * 256) (x : Int) = ((q * 256 + x : Nat) : Int) := by
  have e : (q : Int) * 256 = ((q * 256 : Nat) : Int) := by omega
  rw [e, u32_or _ _ (by omega) (by omega)]
  have := Nat.two_pow_add_eq_or_of_lt (i := 8) hx q
  rw [Nat.mul_comm q]
  show ((2 ^ 8 * q ||| x : Nat) : Int) = _
  rw [← this]

set_option maxRecDepth 100000 in
set_option maxHeartbeats 1000000 in
theorem readGreat_any (w : World) (x0 x1 x2 x3 : Nat) (h0 : x0 < 256) (h1 : x1 < 256) (h2 : x2 < 256) (h3 : x3 < 256) :
    Calls Tryz.prog 217 #[.agg #[.int .u8 x0, .int .u8 x1, .int .u8 x2, .int .u8 x3], .bool true] w fun e w' => e = .returned (.int .i64 (four x0 x1 x2 x3 : Nat)) ∧ Below w.heap.size w w' := by
  have i0 : ∀ w : World, (Instr.index 266 (.agg #[.int .u8 x0, .int .u8 x1, .int .u8 x2, .int .u8 x3]) (.int .i64 0)).run Tryz.prog w = .ok (.int .u8 x0) w := fun _ => by kernel_rfl
  have i1 : ∀ w : World, (Instr.index 266 (.agg #[.int .u8 x0, .int .u8 x1, .int .u8 x2, .int .u8 x3]) (.int .i64 1)).run Tryz.prog w = .ok (.int .u8 x1) w := fun _ => by kernel_rfl
  have i2 : ∀ w : World, (Instr.index 266 (.agg #[.int .u8 x0, .int .u8 x1, .int .u8 x2, .int .u8 x3]) (.int .i64 2)).run Tryz.prog w = .ok (.int .u8 x2) w := fun _ => by kernel_rfl
  have i3 : ∀ w : World, (Instr.index 266 (.agg #[.int .u8 x0, .int .u8 x1, .int .u8 x2, .int .u8 x3]) (.int .i64 3)).run Tryz.prog w = .ok (.int .u8 x3) w := fun _ => by kernel_rfl
  go_enter Tryz.func217, Tryz.ntmps217
  go_wp2_with (fail)
  go_loop [5, 13] (fun q i => ∃ (k r : Nat), k ≤ 4 ∧ i = .int .i64 k ∧ q = .int .u32 r ∧ r = fours x0 x1 x2 x3 k) (fun _ i => 4 - (intOf i).toNat)
  case atStart => exact ⟨0, 0, by omega, rfl, rfl, rfl⟩
  case round =>
    obtain ⟨k, r, hk, rfl, rfl, hr⟩ := hrel
    have hk5 : k = 0 ∨ k = 1 ∨ k = 2 ∨ k = 3 ∨ k = 4 := by omega
    rcases hk5 with rfl | rfl | rfl | rfl | rfl
    · have hb : r < 16777216 := by simp only [fours] at hr; omega
      have ho := or_byte hb h0
      have HN : Hid (r * 256 + x0 = fours x0 x1 x2 x3 1) := by simp only [Hid, fours] at hr ⊢; omega
      clear hr
      go_wp2
      go_round
      case rel => exact ⟨1, _, by omega, rfl, by simp, HN.out⟩
      case measure => simp [intOf]
    · have hb : r < 16777216 := by simp only [fours] at hr; omega
      have ho := or_byte hb h1
      have HN : Hid (r * 256 + x1 = fours x0 x1 x2 x3 2) := by simp only [Hid, fours] at hr ⊢; omega
      clear hr
      go_wp2
      go_round
      case rel => exact ⟨2, _, by omega, rfl, by simp, HN.out⟩
      case measure => simp [intOf]
    · have hb : r < 16777216 := by simp only [fours] at hr; omega
      have ho := or_byte hb h2
      have HN : Hid (r * 256 + x2 = fours x0 x1 x2 x3 3) := by simp only [Hid, fours] at hr ⊢; omega
      clear hr
      go_wp2
      go_round
      case rel => exact ⟨3, _, by omega, rfl, by simp, HN.out⟩
      case measure => simp [intOf]
    · have hb : r < 16777216 := by simp only [fours] at hr; omega
      have ho := or_byte hb h3
      have HN : Hid (r * 256 + x3 = fours x0 x1 x2 x3 4) := by simp only [Hid, fours, four] at hr ⊢; omega
      clear hr
      go_wp2
      go_round
      case rel => exact ⟨4, _, by omega, rfl, by simp, HN.out⟩
      case measure => simp [intOf]
    · have hb : r < 4294967296 := by simp only [fours, four] at hr; omega
      have HN : Hid (r = four x0 x1 x2 x3) := hr
      clear hr
      go_wp2
      go_ret
      rw [HN.out]
      exact ⟨rfl, (Below.refl _ _).alloc (Nat.le_refl _) _⟩

theorem owns_four (w : World) (ty : Nat) (x0 x1 x2 x3 : Int) :
    Own ty (w.alloc (.cells #[.int .u8 x0, .int .u8 x1, .int .u8 x2, .int .u8 x3] ty)) w.heap.size (w.heap.size + 1) (.slice (some ⟨w.heap.size, 0, none⟩) 4 4) 4 [x0, x1, x2, x3] := by
  refine ⟨⟨rfl, .inr ⟨w.heap.size, 4, _, rfl, Nat.le_refl _, heap_alloc_new w _, Nat.le_refl _, by unfold maxLen; omega, rfl, rfl⟩⟩, ?_⟩
  intro k hk
  simp [Value.ownBlock] at hk
  omega

set_option maxRecDepth 100000 in
set_option maxHeartbeats 1000000 in
theorem readLittle_any (w : World) (x0 x1 x2 x3 : Nat) (h0 : x0 < 256) (h1 : x1 < 256) (h2 : x2 < 256) (h3 : x3 < 256) :
    Calls Tryz.prog 217 #[.agg #[.int .u8 x0, .int .u8 x1, .int .u8 x2, .int .u8 x3], .bool false] w fun e w' => e = .returned (.int .i64 (four x3 x2 x1 x0 : Nat)) ∧ Below w.heap.size w w' := by
  have i0 : ∀ w : World, (Instr.index 266 (.agg #[.int .u8 x3, .int .u8 x2, .int .u8 x1, .int .u8 x0]) (.int .i64 0)).run Tryz.prog w = .ok (.int .u8 x3) w := fun _ => by kernel_rfl
  have i1 : ∀ w : World, (Instr.index 266 (.agg #[.int .u8 x3, .int .u8 x2, .int .u8 x1, .int .u8 x0]) (.int .i64 1)).run Tryz.prog w = .ok (.int .u8 x2) w := fun _ => by kernel_rfl
  have i2 : ∀ w : World, (Instr.index 266 (.agg #[.int .u8 x3, .int .u8 x2, .int .u8 x1, .int .u8 x0]) (.int .i64 2)).run Tryz.prog w = .ok (.int .u8 x1) w := fun _ => by kernel_rfl
  have i3 : ∀ w : World, (Instr.index 266 (.agg #[.int .u8 x3, .int .u8 x2, .int .u8 x1, .int .u8 x0]) (.int .i64 3)).run Tryz.prog w = .ok (.int .u8 x0) w := fun _ => by kernel_rfl
  go_enter Tryz.func217, Tryz.ntmps217
  go_wp2_with (fail)
  have hO := owns_four w 266 x0 x1 x2 x3
  refine (reverse_any _ _ _ 4 4 _ _ (by omega) hO).mono ?_
  rintro e w1 ⟨rfl, ho, hg⟩
  have hb1 : Below w.heap.size w w1 := ((Below.refl _ _).alloc (Nat.le_refl _) _).grown hg (by simp) (fun k hk => (hO.1.lt k hk).1)
  have c0 : w1.cell? ⟨w.heap.size, 0, none⟩ = some (.int .u8 x3) := ho.1.cellAt 0 (by omega)
  have c1 : w1.cell? ⟨w.heap.size, 1, none⟩ = some (.int .u8 x2) := ho.1.cellAt 1 (by omega)
  have c2 : w1.cell? ⟨w.heap.size, 2, none⟩ = some (.int .u8 x1) := ho.1.cellAt 2 (by omega)
  have c3 : w1.cell? ⟨w.heap.size, 3, none⟩ = some (.int .u8 x0) := ho.1.cellAt 3 (by omega)
  clear hO ho hg
  go_wp2_with (fail)
  go_loop [5, 13] (fun q i => ∃ (k r : Nat), k ≤ 4 ∧ i = .int .i64 k ∧ q = .int .u32 r ∧ r = fours x3 x2 x1 x0 k) (fun _ i => 4 - (intOf i).toNat)
  case atStart => exact ⟨0, 0, by omega, rfl, rfl, rfl⟩
  case round =>
    obtain ⟨k, r, hk, rfl, rfl, hr⟩ := hrel
    have hk5 : k = 0 ∨ k = 1 ∨ k = 2 ∨ k = 3 ∨ k = 4 := by omega
    rcases hk5 with rfl | rfl | rfl | rfl | rfl
    · have hb : r < 16777216 := by simp only [fours] at hr; omega
      have ho := or_byte hb h3
      have HN : Hid (r * 256 + x3 = fours x3 x2 x1 x0 1) := by simp only [Hid, fours] at hr ⊢; omega
      clear hr
      go_wp2
      go_round
      case rel => exact ⟨1, _, by omega, rfl, by simp, HN.out⟩
      case measure => simp [intOf]
    · have hb : r < 16777216 := by simp only [fours] at hr; omega
      have ho := or_byte hb h2
      have HN : Hid (r * 256 + x2 = fours x3 x2 x1 x0 2) := by simp only [Hid, fours] at hr ⊢; omega
      clear hr
      go_wp2
      go_round
      case rel => exact ⟨2, _, by omega, rfl, by simp, HN.out⟩
      case measure => simp [intOf]
    · have hb : r < 16777216 := by simp only [fours] at hr; omega
      have ho := or_byte hb h1
      have HN : Hid (r * 256 + x1 = fours x3 x2 x1 x0 3) := by simp only [Hid, fours] at hr ⊢; omega
      clear hr
      go_wp2
      go_round
      case rel => exact ⟨3, _, by omega, rfl, by simp, HN.out⟩
      case measure => simp [intOf]
    · have hb : r < 16777216 := by simp only [fours] at hr; omega
      have ho := or_byte hb h0
      have HN : Hid (r * 256 + x0 = fours x3 x2 x1 x0 4) := by simp only [Hid, fours, four] at hr ⊢; omega
      clear hr
      go_wp2
      go_round
      case rel => exact ⟨4, _, by omega, rfl, by simp, HN.out⟩
      case measure => simp [intOf]
    · have hb : r < 4294967296 := by simp only [fours, four] at hr; omega
      have HN : Hid (r = four x3 x2 x1 x0) := hr
      clear hr
      go_wp2
      go_ret
      rw [HN.out]
      exact ⟨rfl, hb1⟩

end Go.Proofs.YthfnechcddmjkaaGreatDoor

namespace Go.Proofs.YthfnechcddmjkaaGreatDoor
open Go.RowKit
set_option maxRecDepth 100000

theorem infoInt : (Tryz.prog.info? 3).map (fun i => (i.zero, i.size, i.bytes)) = some (some (.int .i64 0), 1, 8) := by kernel_rfl

end Go.Proofs.YthfnechcddmjkaaGreatDoor

namespace Go.Proofs.YthfnechcddmjkaaGreatDoor
open Go.RowKit
set_option maxRecDepth 100000

theorem append_keeps {P : Program} (w : World) (t ty e : TypeId) (i : TypeInfo) (z : Value) (base : Nat) (ht : P.underlying t = some (.slice e)) (hi : P.info? e = some i) (hz : i.zero = some z) (hsize : i.size = 1) (hzs : z.cells.size = 1)
    (g0 n cap0 : Nat) (xs : List Value) (hown : w.ownsRow base e 1 (.slice (some ⟨g0, 0, none⟩) n cap0) n xs)
    (ad : Addr) (m c : Nat) (news : List Value) (hl : news.length = m) (hnews : ∀ j u, news[j]? = some u → w.cell? (ad.add j) = some u) (h1 : ∀ u ∈ news, u.oneCell' = true)
    (h63 : n + m ≤ maxLen) (hbytes : (n + m) * i.bytes ≤ 140737488355328) (hbase : base ≤ w.heap.size) :
    ∃ g cap w', (Builtin.append_ #[t, t] ty #[.slice (some ⟨g0, 0, none⟩) n cap0, .slice (some ad) m c]).run P w = .ok (.slice (some ⟨g, 0, none⟩) (n + m) cap) w' ∧
      w'.ownsRow base e 1 (.slice (some ⟨g, 0, none⟩) (n + m) cap) (n + m) (xs ++ news) ∧ w.grownBy w' (some g0) ∧ ∀ j, j < n → w'.cell? ⟨g0, j, none⟩ = w.cell? ⟨g0, j, none⟩ := by
  have hg0 : g0 < w.heap.size := (hown.lt g0 rfl).2
  have hxl : xs.length = n := by simpa using hown.1
  have hsmall : n + m ≤ 9223372036854775807 := by simp only [maxLen] at h63; omega
  obtain ⟨v', w', hr, h2, h3, h4, h5⟩ := run_append_own_at (P := P) w base t ty e i z 1 i.bytes ht hi hz hsize rfl hzs (by decide) _ n xs hown ad m c news (by simp [hl]) hnews h1 h63 hbytes hbase
  rcases h2.2 with ⟨hv, h0⟩ | ⟨g, cap, cur, rfl, hbg, hg, hrest⟩
  · exact absurd (h4.1 hv).1 (by simp)
  · refine ⟨g, cap, w', hr, h2, h3, fun j hj => ?_⟩
    by_cases e0 : g = g0
    · subst e0
      rw [h2.cellAt j (by omega), hown.cellAt j (by omega), List.getElem?_append_left (by omega)]
    · rcases hown.2 with ⟨hv, _⟩ | ⟨g1, cap1, cur1, hv1, hb1, hg1, hnc, hcm, hcs, htake⟩
      · cases hv
      · simp only [Value.slice.injEq, Option.some.injEq, Addr.mk.injEq, and_true, true_and] at hv1
        obtain ⟨rfl, rfl⟩ := hv1
        by_cases hroom : n + m ≤ cap0
        · have hr2 := run_append_room (P := P) w t ty e i ht hi g0 n cap0 cur1 hg1 ad m c news (by rw [hsize]; omega) hnews h1 hroom (by rw [hsize, hcs]; omega)
          rw [hr] at hr2
          simp only [Result.ok.injEq, Value.slice.injEq, Option.some.injEq, Addr.mk.injEq, and_true] at hr2
          exact absurd hr2.1.1 e0
        · have holds : ∀ j u, xs[j]? = some u → w.cell? ((⟨g0, 0, none⟩ : Addr).add j) = some u := hown.cells (g := g0) rfl
          have hr2 := run_append_grow (P := P) w t ty e i z ht hi hz ⟨g0, 0, none⟩ n cap0 xs (by rw [hsize]; omega) holds ad m c news (by rw [hsize]; omega) hnews (by omega) (by omega) (growslice_fits (by omega) hbytes)
          rw [hr] at hr2
          simp only [Result.ok.injEq] at hr2
          rw [hr2.2, World.cell?_alloc_lt _ _ _ (by simpa using hg0)]
          simp

theorem step_pushKeep {P : Program} {e : TypeId} {i : TypeInfo} {base n : Nat} {wr : World} {xs : List Int} {ops : Array Oper} {o : Oper} {a : Act} {K : Act → World → Prop} {Q : Exit → Act → World → Prop} {E : Prop} (hi : P.info? e = some i) (hz : i.zero = some (.int .i64 0)) (hsize : i.size = 1) (hby : i.bytes = 8)
    (s y : Operand) (t : TypeId) (ht : P.underlying t = some (.slice e)) (x : Int) (g0 cap0 B : Nat) (hB : wr.heap[B]? = some (.cells #[.int .i64 x] e (0, 0))) (hown : wr.ownsRow base e 1 (.slice (some ⟨g0, 0, none⟩) n cap0) n (xs.map (Value.int .i64))) (hn : n ≤ 1099511627776) (hbase : base ≤ wr.heap.size)
    (hgd : o.guard = none) (ho : o.op = .call { callee := .builtin .append, args := #[s, y], argTypes := #[t, t] }) (hs : a.eval s = .slice (some ⟨g0, 0, none⟩) n cap0) (hy : a.eval y = .slice (some ⟨B, 0, none⟩) 1 1)
    (h : ∀ g cap w', w'.ownsRow base e 1 (.slice (some ⟨g, 0, none⟩) (n + 1) cap) (n + 1) ((xs ++ [x]).map (Value.int .i64)) → Below base wr w' → (∀ j, j < n → w'.cell? ⟨g0, j, none⟩ = wr.cell? ⟨g0, j, none⟩) → K (a.put o.dst (.slice (some ⟨g, 0, none⟩) (n + 1) cap)) w') :
    if Region.wanted o (yielded ops a.tmps) = true then Oper.wp P o a wr K Q else E := by
  have hw : Region.wanted o (yielded ops a.tmps) = true := by simp [Region.wanted, hgd]
  rw [if_pos hw]
  obtain ⟨g, cap, w', hr, h2, h3, h4⟩ := append_keeps (P := P) wr t o.type e i _ base ht hi hz hsize rfl g0 n cap0 _ hown ⟨B, 0, none⟩ 1 1 [.int .i64 x] rfl (World.news_of_block (cs := #[.int .i64 x]) hB) (fun u hu => by simp at hu; subst hu; rfl) (pushs_fitI hn (by decide)).1 (by rw [hby]; exact (pushs_fitI hn (by decide)).2) hbase
  unfold Oper.wp execOp
  simp only [ho, resolve, invoke, builtin, Sem.run_bind, Sem.run_pure, Result.andThen_ok, List.map_toArray, List.map_cons, List.map_nil, hs, hy, hr]
  exact h g cap w' (by simpa using h2) ((Below.refl _ _).grown h3 hbase fun k hk => by cases hk; exact (hown.lt g0 rfl).1) h4

end Go.Proofs.YthfnechcddmjkaaGreatDoor

namespace Go.Proofs.YthfnechcddmjkaaGreatDoor
open Go.RowKit
set_option maxRecDepth 100000

theorem i64_andB (a b : Int) (h1 : 0 ≤ a) (h2 : a ≤ 9223372036854775807) (h3 : 0 ≤ b) (h4 : b ≤ 9223372036854775807) : bits .and .i64 a b = ((a.toNat &&& b.toNat : Nat) : Int) := by
  have ea : (BitVec.ofInt 64 a).toNat = a.toNat := by rw [BitVec.toNat_ofInt]; omega
  have eb : (BitVec.ofInt 64 b).toNat = b.toNat := by rw [BitVec.toNat_ofInt]; omega
  have hle : a.toNat &&& b.toNat ≤ a.toNat := Nat.and_le_left
  have : (BitVec.ofInt 64 a &&& BitVec.ofInt 64 b).toNat = a.toNat &&& b.toNat := by rw [BitVec.toNat_and, ea, eb]
  show IntKind.i64.wrap ((BitVec.ofInt 64 a &&& BitVec.ofInt 64 b).toNat : Int) = _
  rw [this, IntKind.wrap_i64]
  omega

theorem i64_mask255 (a : Int) (h1 : 0 ≤ a) (h2 : a ≤ 9223372036854775807) : bits .and .i64 a 255 = a % 256 := by
  rw [i64_andB a 255 h1 h2 (by decide) (by decide)]
  show (((a.toNat &&& 255 : Nat)) : Int) = a % 256
  rw [nat_mask8]
  omega

def littleL (n : Int) (k : Nat) : List Int := (List.range k).map fun (i : Nat) => n / (256 ^ i : Nat) % 256
theorem littleL_length (n : Int) (k : Nat) : (littleL n k).length = k := by simp [littleL]
theorem littleL_step (n : Int) (k : Nat) (q u : Int) (hq : q = n / (256 ^ k : Nat)) (hu : u = q % 256) : littleL n k ++ [u] = littleL n (k + 1) := by
  subst hq hu
  simp [littleL, List.range_succ]
theorem littleL_next (n : Int) (k : Nat) : n / ((256 ^ k : Nat) : Int) / 256 = n / ((256 ^ (k + 1) : Nat) : Int) := by
  rw [Int.ediv_ediv_of_nonneg (Int.natCast_nonneg _), Nat.pow_succ]
  simp
theorem littleL_getD (n : Int) (m k : Nat) (h : k < m) : (littleL n m).getD k 0 = n / ((256 ^ k : Nat) : Int) % 256 := by simp [littleL, h]

theorem two_eight (k : Nat) : (2 : Int) ^ (8 * k) = ((256 ^ k : Nat) : Int) := by
  have e : (2 ^ (8 * k) : Nat) = 256 ^ k := by rw [Nat.pow_mul]
  rw [← e, Int.natCast_pow]
  rfl

def fitB (n many : Int) : Bool := decide (0 ≤ n ∧ 1 ≤ many ∧ many ≤ 8)
def fitN (n many : Int) : Nat := if fitB n many = true then many.toNat else 0
def fitL (n many : Int) : List Int := littleL n (fitN n many)
theorem fit_no {n many : Int} (h : ¬ (0 ≤ n ∧ 1 ≤ many ∧ many ≤ 8)) : fitN n many = 0 ∧ fitL n many = [] := by
  have : fitN n many = 0 := by simp only [fitN, fitB, decide_eq_true_eq]; rw [if_neg h]
  exact ⟨this, by simp [fitL, this, littleL]⟩
theorem fit_yes {n many : Int} (h : 0 ≤ n ∧ 1 ≤ many ∧ many ≤ 8) : fitN n many = many.toNat := by
  simp only [fitN, fitB, decide_eq_true_eq]; rw [if_pos h]
theorem fitN_le (n many : Int) : fitN n many ≤ 8 := by
  unfold fitN fitB; split <;> simp_all <;> omega

set_option maxHeartbeats 1000000 in
theorem specLittle_no (n many : Int) (w : World) (h : ¬ (0 ≤ n ∧ 1 ≤ many ∧ many ≤ 8)) :
    Calls Tryz.prog 81 #[.int .i64 n, .int .i64 many] w fun e w' => ∃ p c, e = .returned (.slice p 0 c) ∧ Own 5 w' w.heap.size w'.heap.size (.slice p 0 c) 0 [] ∧ Below w.heap.size w w' := by
  by_cases h0 : n < 0
  · clear h
    go_enter Tryz.func81, Tryz.ntmps81
    go_wp2
    go_ret
    exact ⟨_, _, rfl, .of (World.ownsRow_made _ #[] 0 (Nat.le_refl _) (by unfold maxLen; omega) rfl), (Below.refl _ _).alloc (Nat.le_refl _) _⟩
  · by_cases h1 : 1 ≤ many
    · have h2 : ¬ many ≤ 8 := fun h3 => h ⟨by omega, h1, h3⟩
      clear h
      go_enter Tryz.func81, Tryz.ntmps81
      go_wp2
      go_ret
      exact ⟨_, _, rfl, .of (World.ownsRow_made _ #[] 0 (Nat.le_refl _) (by unfold maxLen; omega) rfl), (Below.refl _ _).alloc (Nat.le_refl _) _⟩
    · clear h
      go_enter Tryz.func81, Tryz.ntmps81
      go_wp2
      go_ret
      exact ⟨_, _, rfl, .of (World.ownsRow_made _ #[] 0 (Nat.le_refl _) (by unfold maxLen; omega) rfl), (Below.refl _ _).alloc (Nat.le_refl _) _⟩

set_option maxHeartbeats 1000000 in
theorem specLittle_yes (n : Int) (m : Nat) (w : World) (h0 : 0 ≤ n) (h63 : n ≤ 9223372036854775807) (h1 : 1 ≤ m) (h2 : m ≤ 8) :
    Calls Tryz.prog 81 #[.int .i64 n, .int .i64 m] w fun e w' => ∃ p c, e = .returned (.slice p m c) ∧ Own 5 w' w.heap.size w'.heap.size (.slice p m c) m (littleL n m) ∧ Below w.heap.size w w' := by
  obtain ⟨i0, hi, hz0, hz1, hz2⟩ := info_parts infoByte
  have c0 : ¬ n < 0 := by omega
  have c1 : (1 : Int) ≤ (m : Int) := by omega
  have c2 : (m : Int) ≤ 8 := by omega
  go_enter Tryz.func81, Tryz.ntmps81
  go_wp2
  go_loopw [0, 5, 6] (fun q v i wr => ∃ (k : Nat) (r : Int), k ≤ m ∧ i = .int .i64 k ∧ q = .int .i64 r ∧ 0 ≤ r ∧ r ≤ 9223372036854775807 ∧ Hid (r = n / ((256 ^ k : Nat) : Int)) ∧ wr.ownsRow w.heap.size 5 1 v k ((littleL n k).map (Value.int .u8)) ∧ Below w.heap.size w wr)
    (fun _ _ i _ => m - (intOf i).toNat)
  case atStart => exact ⟨0, n, Nat.zero_le _, rfl, rfl, h0, h63, by simp [Hid], World.ownsRow_made w #[] 0 (Nat.le_refl _) (by unfold maxLen; omega) rfl, (Below.refl _ _).alloc (Nat.le_refl _) _⟩
  case round =>
    obtain ⟨k, r, hk, rfl, rfl, hr0, hr1, hr, hown, hbel⟩ := hrel
    have hsz := hbel.size
    by_cases hlt : k < m
    · have hm := i64_mask255 r hr0 hr1
      have HN : Hid (littleL n k ++ [r % 256] = littleL n (k + 1)) := littleL_step n k r _ hr.out rfl
      have hr' : Hid (r / 256 = n / ((256 ^ (k + 1) : Nat) : Int)) := by rw [hr.out]; exact littleL_next n k
      go_wp2_with (at_builtin; refine list_push hi hz0 hz1 hz2 (.tmp 21) (.tmp 25) 22 Tryz.underlying22 _ hown (by omega) hsz (by rfl) (by rfl) (by rfl) (by rfl) ?_; intro g cap w1 ho1 hb1; rw [HN.out] at ho1)
      go_roundw
      case rel => exact ⟨k + 1, r / 256, by omega, by go_num, rfl, by omega, by omega, hr', ho1, hbel.trans hb1⟩
      case measure => simp [intOf]; omega
    · have hkn : k = m := by omega
      subst hkn
      clear hr
      obtain ⟨p', c', hv⟩ := owns_form hown
      subst hv
      go_wp2
      go_ret
      exact ⟨_, _, rfl, .of hown, hbel⟩

set_option maxHeartbeats 1000000 in
theorem implLittle_no (n many : Int) (w : World) (h : ¬ (0 ≤ n ∧ 1 ≤ many ∧ many ≤ 8)) :
    Calls Tryz.prog 87 #[.int .i64 n, .int .i64 many] w fun e w' => ∃ p c, e = .returned (.slice p 0 c) ∧ Own 5 w' w.heap.size w'.heap.size (.slice p 0 c) 0 [] ∧ Below w.heap.size w w' := by
  by_cases h0 : n < 0
  · clear h
    go_enter Tryz.func87, Tryz.ntmps87
    go_wp2
    go_ret
    exact ⟨_, _, rfl, .of (World.ownsRow_nil _ _ _ _), Below.refl _ _⟩
  · by_cases h1 : many < 1
    · clear h
      go_enter Tryz.func87, Tryz.ntmps87
      go_wp2
      go_ret
      exact ⟨_, _, rfl, .of (World.ownsRow_nil _ _ _ _), Below.refl _ _⟩
    · have h2 : 8 < many := by
        rcases Int.lt_or_le 8 many with h2 | h2
        · exact h2
        · exact absurd ⟨by omega, by omega, h2⟩ h
      clear h
      go_enter Tryz.func87, Tryz.ntmps87
      go_wp2
      go_ret
      exact ⟨_, _, rfl, .of (World.ownsRow_nil _ _ _ _), Below.refl _ _⟩

set_option maxHeartbeats 1000000 in
theorem implLittle_yes (n : Int) (m : Nat) (w : World) (h0 : 0 ≤ n) (h63 : n ≤ 9223372036854775807) (h1 : 1 ≤ m) (h2 : m ≤ 8) :
    Calls Tryz.prog 87 #[.int .i64 n, .int .i64 m] w fun e w' => ∃ p c, e = .returned (.slice p m c) ∧ Own 5 w' w.heap.size w'.heap.size (.slice p m c) m (littleL n m) ∧ Below w.heap.size w w' := by
  obtain ⟨i0, hi, hz0, hz1, hz2⟩ := info_parts infoByte
  have c0 : ¬ n < 0 := by omega
  have c1 : ¬ (m : Int) < 1 := by omega
  have c2 : ¬ 8 < (m : Int) := by omega
  go_enter Tryz.func87, Tryz.ntmps87
  go_wp2_with (at_make; refine wpList_make_full _ rfl _ _ 22 rfl w.heap.size 5 i0 (.int .u8 0) 1 Tryz.underlying22 hi hz0 hz1 _ _ _ _ m rfl rfl rfl rfl (by rw [hz2]; omega) (by unfold maxLen; omega) (Nat.le_refl _) ?_)
  intro w1 hown hgrow
  rw [fill_start (littleL n m) m] at hown
  have hbel : Below w.heap.size w w1 := (Below.refl _ _).grown hgrow (Nat.le_refl _) (fun _ h => by cases h)
  clear hgrow
  go_wp2
  go_loopw [21] (fun i wr => ∃ k : Nat, k ≤ m ∧ i = .int .i64 k ∧ wr.ownsRow w.heap.size 5 1 (.slice (some ⟨w.heap.size, 0, none⟩) m m) m (((littleL n m).take k ++ List.replicate (m - k) 0).map (Value.int .u8)) ∧ Below w.heap.size w wr)
    (fun i _ => m - (intOf i).toNat)
  case atStart => exact ⟨0, Nat.zero_le _, rfl, hown, hbel⟩
  case round =>
    clear hown hbel
    obtain ⟨k, hk, rfl, hown, hbel⟩ := hrel
    by_cases hlt : k < m
    · have hl := littleL_length n m
      have hold : wr.cell? ⟨w.heap.size, k, none⟩ = some (.int .u8 0) := by
        rw [hown.cellAt k (by omega)]; exact fill_old _ m k hlt hl
      have hfz := hown.frozenAt k
      have hst := hown.stored k (.int .u8 (n / 2 ^ (8 * k) % 256))
      rw [fill_step (littleL n m) m k _ (by rw [littleL_getD n m k hlt, two_eight]) hlt hl] at hst
      have hbel' := hbel.setCell (p := ⟨w.heap.size, k, none⟩) (Nat.le_refl _) (.int .u8 (n / 2 ^ (8 * k) % 256))
      clear hl
      go_wp2
      go_roundw
      case rel => exact ⟨k + 1, by omega, by go_num, hst.1, hbel'⟩
      case measure => simp [intOf]; omega
    · have hkn : k = m := by omega
      subst hkn
      rw [fill_end _ _ (littleL_length n k)] at hown
      go_wp2
      go_ret
      exact ⟨_, _, rfl, .of hown, hbel⟩

theorem specLittle_any (n many : Int) (w : World) (h63 : n ≤ 9223372036854775807) :
    Calls Tryz.prog 81 #[.int .i64 n, .int .i64 many] w fun e w' => ∃ p c, e = .returned (.slice p (fitN n many) c) ∧ Own 5 w' w.heap.size w'.heap.size (.slice p (fitN n many) c) (fitN n many) (fitL n many) ∧ Below w.heap.size w w' := by
  by_cases h : 0 ≤ n ∧ 1 ≤ many ∧ many ≤ 8
  · have e : many = ((many.toNat : Nat) : Int) := by omega
    unfold fitL
    rw [fit_yes h]
    rw [e]
    exact specLittle_yes n many.toNat w h.1 h63 (by omega) (by omega)
  · rw [(fit_no h).1, (fit_no h).2]
    exact specLittle_no n many w h

theorem implLittle_any (n many : Int) (w : World) (h63 : n ≤ 9223372036854775807) :
    Calls Tryz.prog 87 #[.int .i64 n, .int .i64 many] w fun e w' => ∃ p c, e = .returned (.slice p (fitN n many) c) ∧ Own 5 w' w.heap.size w'.heap.size (.slice p (fitN n many) c) (fitN n many) (fitL n many) ∧ Below w.heap.size w w' := by
  by_cases h : 0 ≤ n ∧ 1 ≤ many ∧ many ≤ 8
  · have e : many = ((many.toNat : Nat) : Int) := by omega
    unfold fitL
    rw [fit_yes h]
    rw [e]
    exact implLittle_yes n many.toNat w h.1 h63 (by omega) (by omega)
  · rw [(fit_no h).1, (fit_no h).2]
    exact implLittle_no n many w h

end Go.Proofs.YthfnechcddmjkaaGreatDoor

namespace Go.Proofs.YthfnechcddmjkaaGreatDoor
open Go.RowKit
set_option maxRecDepth 100000

theorem revL_step (xs : List Int) (n k : Nat) (u : Int) (hx : xs.length = n) (hk : k < n) (hu : u = xs.getD (n - 1 - k) 0) : xs.reverse.take k ++ [u] = xs.reverse.take (k + 1) := by
  subst hu
  rw [List.take_succ_eq_append_getElem (by simp; omega), List.getElem_reverse]
  simp [List.getElem?_eq_getElem (show n - 1 - k < xs.length by omega), hx]

set_option maxHeartbeats 2000000 in
theorem specGreat_any (n many : Int) (w : World) (h63 : n ≤ 9223372036854775807) :
    Calls Tryz.prog 42 #[.int .i64 n, .int .i64 many] w fun e w' => ∃ p c, e = .returned (.slice p (fitN n many) c) ∧ Own 5 w' w.heap.size w'.heap.size (.slice p (fitN n many) c) (fitN n many) (fitL n many).reverse ∧ Below w.heap.size w w' := by
  obtain ⟨i0, hi, hz0, hz1, hz2⟩ := info_parts infoByte
  have hle := fitN_le n many
  obtain ⟨N, hN⟩ : ∃ N, N = fitN n many := ⟨_, rfl⟩
  obtain ⟨L, hL⟩ : ∃ L, L = fitL n many := ⟨_, rfl⟩
  have C := fun w => specLittle_any n many w h63
  rw [← hN] at hle ⊢
  rw [← hL]
  simp only [← hN, ← hL] at C
  clear hN hL
  go_enter Tryz.func42, Tryz.ntmps42
  go_wp2_with (fail)
  refine (C _).mono ?_
  rintro e w1 ⟨p1, c1, rfl, r1, b1⟩
  have hz1' := b1.size
  have hx := r1.len
  have hin := r1.bytes
  go_wp2
  go_loopw [6, 7] (fun v i wr => ∃ k : Nat, k ≤ N ∧ i = .int .i64 ((N : Int) - 1 - k) ∧ wr.ownsRow w1.heap.size 5 1 v k ((L.reverse.take k).map (Value.int .u8)) ∧ Below w1.heap.size w1 wr)
    (fun _ i _ => (intOf i + 1).toNat)
  case atStart => exact ⟨0, Nat.zero_le _, by go_num, World.ownsRow_made w1 #[] 0 (Nat.le_refl _) (by unfold maxLen; omega) rfl, (Below.refl _ _).alloc (Nat.le_refl _) _⟩
  case round =>
    obtain ⟨k, hk, rfl, hown, hbel⟩ := hrel
    have hsz := hbel.size
    by_cases hlt : k < N
    · obtain ⟨j, hj⟩ : ∃ j : Nat, j + k + 1 = N := ⟨N - 1 - k, by omega⟩
      have hij : ((N : Int) - 1 - (k : Int)) = (j : Int) := by omega
      rw [hij]
      clear hij
      obtain ⟨b, o, rfl, hc⟩ := hin (by omega)
      obtain ⟨u, hu⟩ : ∃ u, u = L.getD j 0 := ⟨_, rfl⟩
      have hcx : wr.cell? ⟨b, o + j, none⟩ = some (.int .u8 u) := by
        rw [hbel.cell (p := ⟨b, o + j, none⟩) (World.block_lt_of_cell? w1 ⟨b, o + j, none⟩ (hc j (by omega))), hu]
        exact hc j (by omega)
      have HN : Hid (L.reverse.take k ++ [u] = L.reverse.take (k + 1)) := revL_step L N k u hx hlt (by rw [hu, show N - 1 - k = j by omega])
      clear hc hin hu hx
      go_wp2_with (at_builtin; refine list_push hi hz0 hz1 hz2 (.tmp 19) (.tmp 24) 22 Tryz.underlying22 _ hown (by omega) (by omega) (by rfl) (by rfl) (by rfl) (by rfl) ?_; intro g cap w2 ho1 hb1; rw [HN.out] at ho1)
      go_roundw
      case rel => exact ⟨k + 1, by omega, by go_num, ho1, hbel.trans hb1⟩
      case measure => simp [intOf]
    · obtain rfl : k = N := by omega
      have c0 : ¬ (0 : Int) ≤ (k : Int) - 1 - (k : Int) := by omega
      rw [List.take_of_length_le (by simp; omega)] at hown
      obtain ⟨p', c', hv⟩ := owns_form hown
      subst hv
      go_wp2
      go_ret
      exact ⟨_, _, rfl, .of (owns_mono hown hz1'), below_on b1 hbel⟩

set_option maxHeartbeats 2000000 in
theorem implGreat_any (n many : Int) (w : World) (h63 : n ≤ 9223372036854775807) :
    Calls Tryz.prog 48 #[.int .i64 n, .int .i64 many] w fun e w' => ∃ p c, e = .returned (.slice p (fitN n many) c) ∧ Own 5 w' w.heap.size w'.heap.size (.slice p (fitN n many) c) (fitN n many) (fitL n many).reverse ∧ Below w.heap.size w w' := by
  have hle := fitN_le n many
  go_enter Tryz.func48, Tryz.ntmps48
  go_wp2_with (fail)
  refine (implLittle_any n many _ h63).mono ?_
  rintro e w1 ⟨p1, c1, rfl, r1, b1⟩
  go_wp2_with (fail)
  refine (reverse_any _ _ p1 (fitN n many) c1 (fitL n many) _ (by omega) r1).mono ?_
  rintro e w2 ⟨rfl, r2, g2⟩
  go_wp2_with (fail)
  go_ret
  exact ⟨_, _, rfl, .of r2.1, b1.grown g2 b1.size fun k hk => (r1.1.lt k hk).1⟩

end Go.Proofs.YthfnechcddmjkaaGreatDoor

namespace Go.Proofs.YthfnechcddmjkaaGreatDoor
open Go.RowKit
set_option maxRecDepth 100000

def fourL (great : Bool) (n : Int) : List Int := if great = true then (littleL (n % 4294967296) 4).reverse else littleL (n % 4294967296) 4
theorem fourL_length (great : Bool) (n : Int) : (fourL great n).length = 4 := by unfold fourL; split <;> simp [littleL_length]
def bytesL (great : Bool) (xs : List Int) : List Int := xs.flatMap (fourL great)
theorem bytesL_length (great : Bool) (xs : List Int) : (bytesL great xs).length = 4 * xs.length := by
  induction xs with
  | nil => rfl
  | cons x xs ih => simp only [bytesL, List.flatMap_cons, List.length_append, fourL_length, List.length_cons] at ih ⊢; omega
theorem bytesL_step (great : Bool) (xs : List Int) (k : Nat) (hk : k < xs.length) : bytesL great (xs.take k) ++ fourL great (xs.getD k 0) = bytesL great (xs.take (k + 1)) := by
  rw [List.take_succ_eq_append_getElem hk]
  simp only [bytesL, List.flatMap_append, List.flatMap_cons, List.flatMap_nil, List.append_nil, List.getD_eq_getElem?_getD, List.getElem?_eq_getElem hk, Option.getD_some]

theorem implLittle4 (n : Int) (w : World) :
    Calls Tryz.prog 87 #[.int .i64 (n % 4294967296), .int .i64 4] w fun e w' => ∃ p c, e = .returned (.slice p 4 c) ∧ Own 5 w' w.heap.size w'.heap.size (.slice p 4 c) 4 (fourL false n) ∧ Below w.heap.size w w' :=
  implLittle_yes (n % 4294967296) 4 w (by omega) (by omega) (by omega) (by omega)
theorem specLittle4 (n : Int) (w : World) :
    Calls Tryz.prog 81 #[.int .i64 (n % 4294967296), .int .i64 4] w fun e w' => ∃ p c, e = .returned (.slice p 4 c) ∧ Own 5 w' w.heap.size w'.heap.size (.slice p 4 c) 4 (fourL false n) ∧ Below w.heap.size w w' :=
  specLittle_yes (n % 4294967296) 4 w (by omega) (by omega) (by omega) (by omega)
theorem fit4 (n : Int) : fitN (n % 4294967296) 4 = 4 ∧ fitL (n % 4294967296) 4 = littleL (n % 4294967296) 4 := by
  have h : fitN (n % 4294967296) 4 = 4 := fit_yes ⟨by omega, by omega, by omega⟩
  exact ⟨h, by unfold fitL; rw [h]⟩
theorem implGreat4 (n : Int) (w : World) :
    Calls Tryz.prog 48 #[.int .i64 (n % 4294967296), .int .i64 4] w fun e w' => ∃ p c, e = .returned (.slice p 4 c) ∧ Own 5 w' w.heap.size w'.heap.size (.slice p 4 c) 4 (fourL true n) ∧ Below w.heap.size w w' := by
  have h := implGreat_any (n % 4294967296) 4 w (by omega)
  rw [(fit4 n).1, (fit4 n).2] at h
  exact h
theorem specGreat4 (n : Int) (w : World) :
    Calls Tryz.prog 42 #[.int .i64 (n % 4294967296), .int .i64 4] w fun e w' => ∃ p c, e = .returned (.slice p 4 c) ∧ Own 5 w' w.heap.size w'.heap.size (.slice p 4 c) 4 (fourL true n) ∧ Below w.heap.size w w' := by
  have h := specGreat_any (n % 4294967296) 4 w (by omega)
  rw [(fit4 n).1, (fit4 n).2] at h
  exact h

set_option maxHeartbeats 2000000 in
theorem implBytesLittle_any (p : Option Addr) (n c : Nat) (xs : List Int) (w : World) (hn : n ≤ 1073741824) (hx : xs.length = n) (h : IntsIn w p n xs) :
    Calls Tryz.prog 178 #[.slice p n c, .bool false] w fun e w' => ∃ p' c', e = .returned (.slice p' (4 * n) c') ∧ Own 5 w' w.heap.size w'.heap.size (.slice p' (4 * n) c') (4 * n) (bytesL false xs) ∧ Below w.heap.size w w' := by
  obtain ⟨i0, hi, hz0, hz1, hz2⟩ := info_parts infoByte
  go_enter Tryz.func178, Tryz.ntmps178
  go_wp2_with (at_make; refine wpList_make_own _ rfl _ _ 22 rfl w.heap.size 5 i0 (.int .u8 0) 1 Tryz.underlying22 hi hz0 hz1 _ _ _ (4 * n) rfl rfl (by simp) (by rw [hz2]; omega) (by unfold maxLen; omega) (Nat.le_refl _) ?_)
  intro w1 hown hgrow
  have hbel : Below w.heap.size w w1 := (Below.refl _ _).grown hgrow (Nat.le_refl _) (fun _ h => by cases h)
  clear hgrow
  go_wp2
  go_loopw [6, 16] (fun v i wr => ∃ k : Nat, k ≤ n ∧ i = .int .i64 k ∧ wr.ownsRow w.heap.size 5 1 v (4 * k) ((bytesL false (xs.take k)).map (Value.int .u8)) ∧ Below w.heap.size w wr)
    (fun _ i _ => n - (intOf i).toNat)
  case atStart => exact ⟨0, Nat.zero_le _, rfl, by simpa [bytesL] using hown, hbel⟩
  case round =>
    clear hown hbel
    obtain ⟨k, hk, rfl, hown, hbel⟩ := hrel
    by_cases hlt : k < n
    · obtain ⟨b, o, rfl, hcell⟩ := h (by omega)
      have HN : Hid (bytesL false (xs.take k) ++ fourL false (xs.getD k 0) = bytesL false (xs.take (k + 1))) := bytesL_step _ _ _ (by omega)
      have hc := hcell k hlt
      have c0 : wr.cell? ⟨b, o + k, none⟩ = some (.int .i64 (xs.getD k 0)) := by
        rw [hbel.cell (p := ⟨b, o + k, none⟩) (World.block_lt_of_cell? w ⟨b, o + k, none⟩ hc)]
        exact hc
      clear hc hcell h
      generalize xs.getD k 0 = u at HN c0
      go_wp2_with (fail)
      refine (implWord_same u _).mono ?_
      rintro e w2 ⟨rfl, rfl⟩
      go_wp2_with (fail)
      refine (implLittle4 u _).mono ?_
      rintro e w2 ⟨q, d, rfl, r2, b2⟩
      replace hown := owns_below hown b2
      replace hbel := below_on hbel b2
      have hsz := hbel.size
      have hl4 := fourL_length false u
      have hin := r2.bytes
      clear r2 b2 c0
      generalize fourL false u = ys at HN hl4 hin
      go_wp2_with (at_builtin; refine list_spread hi hz0 hz1 hz2 (.tmp 20) (.tmp 24) 22 Tryz.underlying22 hown hin hl4 (by omega) (by omega) (by omega) hsz (by rfl) (by rfl) (by rfl) (by rfl) ?_; intro g cap w3 ho3 _ hb3; rw [HN.out] at ho3)
      go_roundw
      case rel => exact ⟨k + 1, by omega, by go_num, ho3, hbel.trans hb3⟩
      case measure => simp [intOf]; omega
    · have hkn : k = n := by omega
      subst hkn
      obtain ⟨p', c', hv⟩ := owns_form hown
      subst hv
      rw [List.take_of_length_le (by omega)] at hown
      clear h
      go_wp2
      go_ret
      exact ⟨_, _, rfl, .of hown, hbel⟩

set_option maxHeartbeats 2000000 in
theorem implBytesGreat_any (p : Option Addr) (n c : Nat) (xs : List Int) (w : World) (hn : n ≤ 1073741824) (hx : xs.length = n) (h : IntsIn w p n xs) :
    Calls Tryz.prog 178 #[.slice p n c, .bool true] w fun e w' => ∃ p' c', e = .returned (.slice p' (4 * n) c') ∧ Own 5 w' w.heap.size w'.heap.size (.slice p' (4 * n) c') (4 * n) (bytesL true xs) ∧ Below w.heap.size w w' := by
  obtain ⟨i0, hi, hz0, hz1, hz2⟩ := info_parts infoByte
  go_enter Tryz.func178, Tryz.ntmps178
  go_wp2_with (at_make; refine wpList_make_own _ rfl _ _ 22 rfl w.heap.size 5 i0 (.int .u8 0) 1 Tryz.underlying22 hi hz0 hz1 _ _ _ (4 * n) rfl rfl (by simp) (by rw [hz2]; omega) (by unfold maxLen; omega) (Nat.le_refl _) ?_)
  intro w1 hown hgrow
  have hbel : Below w.heap.size w w1 := (Below.refl _ _).grown hgrow (Nat.le_refl _) (fun _ h => by cases h)
  clear hgrow
  go_wp2
  go_loopw [6, 16] (fun v i wr => ∃ k : Nat, k ≤ n ∧ i = .int .i64 k ∧ wr.ownsRow w.heap.size 5 1 v (4 * k) ((bytesL true (xs.take k)).map (Value.int .u8)) ∧ Below w.heap.size w wr)
    (fun _ i _ => n - (intOf i).toNat)
  case atStart => exact ⟨0, Nat.zero_le _, rfl, by simpa [bytesL] using hown, hbel⟩
  case round =>
    clear hown hbel
    obtain ⟨k, hk, rfl, hown, hbel⟩ := hrel
    by_cases hlt : k < n
    · obtain ⟨b, o, rfl, hcell⟩ := h (by omega)
      have HN : Hid (bytesL true (xs.take k) ++ fourL true (xs.getD k 0) = bytesL true (xs.take (k + 1))) := bytesL_step _ _ _ (by omega)
      have hc := hcell k hlt
      have c0 : wr.cell? ⟨b, o + k, none⟩ = some (.int .i64 (xs.getD k 0)) := by
        rw [hbel.cell (p := ⟨b, o + k, none⟩) (World.block_lt_of_cell? w ⟨b, o + k, none⟩ hc)]
        exact hc
      clear hc hcell h
      generalize xs.getD k 0 = u at HN c0
      go_wp2_with (fail)
      refine (implWord_same u _).mono ?_
      rintro e w2 ⟨rfl, rfl⟩
      go_wp2_with (fail)
      refine (implGreat4 u _).mono ?_
      rintro e w2 ⟨q, d, rfl, r2, b2⟩
      replace hown := owns_below hown b2
      replace hbel := below_on hbel b2
      have hsz := hbel.size
      have hl4 := fourL_length true u
      have hin := r2.bytes
      clear r2 b2 c0
      generalize fourL true u = ys at HN hl4 hin
      go_wp2_with (at_builtin; refine list_spread hi hz0 hz1 hz2 (.tmp 20) (.tmp 24) 22 Tryz.underlying22 hown hin hl4 (by omega) (by omega) (by omega) hsz (by rfl) (by rfl) (by rfl) (by rfl) ?_; intro g cap w3 ho3 _ hb3; rw [HN.out] at ho3)
      go_roundw
      case rel => exact ⟨k + 1, by omega, by go_num, ho3, hbel.trans hb3⟩
      case measure => simp [intOf]; omega
    · have hkn : k = n := by omega
      subst hkn
      obtain ⟨p', c', hv⟩ := owns_form hown
      subst hv
      rw [List.take_of_length_le (by omega)] at hown
      clear h
      go_wp2
      go_ret
      exact ⟨_, _, rfl, .of hown, hbel⟩

set_option maxHeartbeats 2000000 in
theorem specBytesLittle_any (p : Option Addr) (n c : Nat) (xs : List Int) (w : World) (hn : n ≤ 1073741824) (hx : xs.length = n) (h : IntsIn w p n xs) :
    Calls Tryz.prog 172 #[.slice p n c, .bool false] w fun e w' => ∃ p' c', e = .returned (.slice p' (4 * n) c') ∧ Own 5 w' w.heap.size w'.heap.size (.slice p' (4 * n) c') (4 * n) (bytesL false xs) ∧ Below w.heap.size w w' := by
  obtain ⟨i0, hi, hz0, hz1, hz2⟩ := info_parts infoByte
  go_enter Tryz.func172, Tryz.ntmps172
  go_wp2
  go_loopw [5, 6] (fun v i wr => ∃ k : Nat, k ≤ n ∧ i = .int .i64 k ∧ wr.ownsRow w.heap.size 5 1 v (4 * k) ((bytesL false (xs.take k)).map (Value.int .u8)) ∧ Below w.heap.size w wr)
    (fun _ i _ => n - (intOf i).toNat)
  case atStart => exact ⟨0, Nat.zero_le _, rfl, World.ownsRow_made w #[] 0 (Nat.le_refl _) (by unfold maxLen; omega) rfl, (Below.refl _ _).alloc (Nat.le_refl _) _⟩
  case round =>
    obtain ⟨k, hk, rfl, hown, hbel⟩ := hrel
    by_cases hlt : k < n
    · obtain ⟨b, o, rfl, hcell⟩ := h (by omega)
      have HN : Hid (bytesL false (xs.take k) ++ fourL false (xs.getD k 0) = bytesL false (xs.take (k + 1))) := bytesL_step _ _ _ (by omega)
      have hc := hcell k hlt
      have c0 : wr.cell? ⟨b, o + k, none⟩ = some (.int .i64 (xs.getD k 0)) := by
        rw [hbel.cell (p := ⟨b, o + k, none⟩) (World.block_lt_of_cell? w ⟨b, o + k, none⟩ hc)]
        exact hc
      clear hc hcell h
      generalize xs.getD k 0 = u at HN c0
      go_wp2_with (fail)
      refine (specWord_same u _).mono ?_
      rintro e w2 ⟨rfl, rfl⟩
      go_wp2_with (fail)
      refine (specLittle4 u _).mono ?_
      rintro e w2 ⟨q, d, rfl, r2, b2⟩
      replace hown := owns_below hown b2
      replace hbel := below_on hbel b2
      have hsz := hbel.size
      have hl4 := fourL_length false u
      have hin := r2.bytes
      clear r2 b2 c0
      generalize fourL false u = ys at HN hl4 hin
      go_wp2_with (at_builtin; refine list_spread hi hz0 hz1 hz2 (.tmp 23) (.tmp 29) 22 Tryz.underlying22 hown hin hl4 (by omega) (by omega) (by omega) hsz (by rfl) (by rfl) (by rfl) (by rfl) ?_; intro g cap w3 ho3 _ hb3; rw [HN.out] at ho3)
      go_roundw
      case rel => exact ⟨k + 1, by omega, by go_num, ho3, hbel.trans hb3⟩
      case measure => simp [intOf]; omega
    · have hkn : k = n := by omega
      subst hkn
      obtain ⟨p', c', hv⟩ := owns_form hown
      subst hv
      rw [List.take_of_length_le (by omega)] at hown
      clear h
      go_wp2
      go_ret
      exact ⟨_, _, rfl, .of hown, hbel⟩

set_option maxHeartbeats 2000000 in
theorem specBytesGreat_any (p : Option Addr) (n c : Nat) (xs : List Int) (w : World) (hn : n ≤ 1073741824) (hx : xs.length = n) (h : IntsIn w p n xs) :
    Calls Tryz.prog 172 #[.slice p n c, .bool true] w fun e w' => ∃ p' c', e = .returned (.slice p' (4 * n) c') ∧ Own 5 w' w.heap.size w'.heap.size (.slice p' (4 * n) c') (4 * n) (bytesL true xs) ∧ Below w.heap.size w w' := by
  obtain ⟨i0, hi, hz0, hz1, hz2⟩ := info_parts infoByte
  go_enter Tryz.func172, Tryz.ntmps172
  go_wp2
  go_loopw [5, 6] (fun v i wr => ∃ k : Nat, k ≤ n ∧ i = .int .i64 k ∧ wr.ownsRow w.heap.size 5 1 v (4 * k) ((bytesL true (xs.take k)).map (Value.int .u8)) ∧ Below w.heap.size w wr)
    (fun _ i _ => n - (intOf i).toNat)
  case atStart => exact ⟨0, Nat.zero_le _, rfl, World.ownsRow_made w #[] 0 (Nat.le_refl _) (by unfold maxLen; omega) rfl, (Below.refl _ _).alloc (Nat.le_refl _) _⟩
  case round =>
    obtain ⟨k, hk, rfl, hown, hbel⟩ := hrel
    by_cases hlt : k < n
    · obtain ⟨b, o, rfl, hcell⟩ := h (by omega)
      have HN : Hid (bytesL true (xs.take k) ++ fourL true (xs.getD k 0) = bytesL true (xs.take (k + 1))) := bytesL_step _ _ _ (by omega)
      have hc := hcell k hlt
      have c0 : wr.cell? ⟨b, o + k, none⟩ = some (.int .i64 (xs.getD k 0)) := by
        rw [hbel.cell (p := ⟨b, o + k, none⟩) (World.block_lt_of_cell? w ⟨b, o + k, none⟩ hc)]
        exact hc
      clear hc hcell h
      generalize xs.getD k 0 = u at HN c0
      go_wp2_with (fail)
      refine (specWord_same u _).mono ?_
      rintro e w2 ⟨rfl, rfl⟩
      go_wp2_with (fail)
      refine (specGreat4 u _).mono ?_
      rintro e w2 ⟨q, d, rfl, r2, b2⟩
      replace hown := owns_below hown b2
      replace hbel := below_on hbel b2
      have hsz := hbel.size
      have hl4 := fourL_length true u
      have hin := r2.bytes
      clear r2 b2 c0
      generalize fourL true u = ys at HN hl4 hin
      go_wp2_with (at_builtin; refine list_spread hi hz0 hz1 hz2 (.tmp 15) (.tmp 21) 22 Tryz.underlying22 hown hin hl4 (by omega) (by omega) (by omega) hsz (by rfl) (by rfl) (by rfl) (by rfl) ?_; intro g cap w3 ho3 _ hb3; rw [HN.out] at ho3)
      go_roundw
      case rel => exact ⟨k + 1, by omega, by go_num, ho3, hbel.trans hb3⟩
      case measure => simp [intOf]; omega
    · have hkn : k = n := by omega
      subst hkn
      obtain ⟨p', c', hv⟩ := owns_form hown
      subst hv
      rw [List.take_of_length_le (by omega)] at hown
      clear h
      go_wp2
      go_ret
      exact ⟨_, _, rfl, .of hown, hbel⟩

theorem implWordBytes_any (p : Option Addr) (n c : Nat) (great : Bool) (xs : List Int) (w : World) (hn : n ≤ 1073741824) (hx : xs.length = n) (h : IntsIn w p n xs) :
    Calls Tryz.prog 178 #[.slice p n c, .bool great] w fun e w' => ∃ p' c', e = .returned (.slice p' (4 * n) c') ∧ Own 5 w' w.heap.size w'.heap.size (.slice p' (4 * n) c') (4 * n) (bytesL great xs) ∧ Below w.heap.size w w' := by
  cases great
  · exact implBytesLittle_any p n c xs w hn hx h
  · exact implBytesGreat_any p n c xs w hn hx h

theorem specWordBytes_any (p : Option Addr) (n c : Nat) (great : Bool) (xs : List Int) (w : World) (hn : n ≤ 1073741824) (hx : xs.length = n) (h : IntsIn w p n xs) :
    Calls Tryz.prog 172 #[.slice p n c, .bool great] w fun e w' => ∃ p' c', e = .returned (.slice p' (4 * n) c') ∧ Own 5 w' w.heap.size w'.heap.size (.slice p' (4 * n) c') (4 * n) (bytesL great xs) ∧ Below w.heap.size w w' := by
  cases great
  · exact specBytesLittle_any p n c xs w hn hx h
  · exact specBytesGreat_any p n c xs w hn hx h

end Go.Proofs.YthfnechcddmjkaaGreatDoor

namespace Go.Proofs.YthfnechcddmjkaaGreatDoor
open Go.RowKit
set_option maxRecDepth 100000

def startN : List Nat := [0x6a09e667, 0xbb67ae85, 0x3c6ef372, 0xa54ff53a, 0x510e527f, 0x9b05688c, 0x1f83d9ab, 0x5be0cd19]
def startL : List Int := startN.map fun (n : Nat) => (n : Int)

theorem owns_start (w : World) (ty : Nat) :
    OwnI ty (w.alloc (.cells #[.int .i64 0x6a09e667, .int .i64 0xbb67ae85, .int .i64 0x3c6ef372, .int .i64 0xa54ff53a, .int .i64 0x510e527f, .int .i64 0x9b05688c, .int .i64 0x1f83d9ab, .int .i64 0x5be0cd19] ty)) w.heap.size (w.heap.size + 1) (.slice (some ⟨w.heap.size, 0, none⟩) 8 8) 8 startL := by
  refine ⟨⟨rfl, .inr ⟨w.heap.size, 8, _, rfl, Nat.le_refl _, heap_alloc_new w _, Nat.le_refl _, by unfold maxLen; omega, rfl, rfl⟩⟩, ?_⟩
  intro k hk
  simp [Value.ownBlock] at hk
  omega

theorem specStart_any (w : World) :
    Calls Tryz.prog 170 #[] w fun e w' => ∃ p c, e = .returned (.slice p 8 c) ∧ OwnI 3 w' w.heap.size w'.heap.size (.slice p 8 c) 8 startL ∧ Below w.heap.size w w' := by
  go_enter Tryz.func170, Tryz.ntmps170
  go_wp2
  go_ret
  exact ⟨_, _, rfl, .of (owns_start w 3).1, (Below.refl _ _).alloc (Nat.le_refl _) _⟩

theorem implStart_any (w : World) :
    Calls Tryz.prog 136 #[] w fun e w' => ∃ p c, e = .returned (.slice p 8 c) ∧ OwnI 3 w' w.heap.size w'.heap.size (.slice p 8 c) 8 startL ∧ Below w.heap.size w w' := by
  go_enter Tryz.func136, Tryz.ntmps136
  go_wp2
  go_ret
  exact ⟨_, _, rfl, .of (owns_start w 3).1, (Below.refl _ _).alloc (Nat.le_refl _) _⟩

end Go.Proofs.YthfnechcddmjkaaGreatDoor

namespace Go.Proofs.YthfnechcddmjkaaGreatDoor
open Go.RowKit
set_option maxRecDepth 100000

def xorL (xs ys : List Int) : List Int := List.zipWith (fun u v => bits BinOp.xor IntKind.u8 u v) xs ys

theorem xorL_length (xs ys : List Int) : (xorL xs ys).length = min xs.length ys.length := by simp [xorL]

theorem xorL_step {xs ys : List Int} {n m k : Nat} {u v : Int} (hx : xs.length = n) (hy : ys.length = m) (hk : k < n) (hk' : k < m) (hu : u = xs.getD k 0) (hv : v = ys.getD k 0) :
    xorL (xs.take k) (ys.take k) ++ [bits BinOp.xor IntKind.u8 u v] = xorL (xs.take (k + 1)) (ys.take (k + 1)) := by
  subst hu hv
  unfold xorL
  rw [List.take_succ_eq_append_getElem (by omega), List.take_succ_eq_append_getElem (by omega), List.zipWith_append (by simp; omega)]
  simp [List.getElem?_eq_getElem (show k < xs.length by omega), List.getElem?_eq_getElem (show k < ys.length by omega)]

theorem xorL_all {xs ys : List Int} {n m k : Nat} (hx : xs.length = n) (hy : ys.length = m) (h : k = min n m) : xorL (xs.take k) (ys.take k) = xorL xs ys := by
  subst hx hy h
  unfold xorL
  apply List.ext_getElem
  · simp
  · intro i h1 h2; simp

theorem xorL_getD {xs ys : List Int} {n m k : Nat} {u v : Int} (hx : xs.length = n) (hy : ys.length = m) (hk : k < n) (hk' : k < m) (hu : u = xs.getD k 0) (hv : v = ys.getD k 0) :
    bits BinOp.xor IntKind.u8 u v = (xorL xs ys).getD k 0 := by
  subst hu hv hx hy
  simp [xorL, List.getElem?_eq_getElem hk, List.getElem?_eq_getElem hk', List.getElem?_zipWith]

set_option maxHeartbeats 1000000 in
theorem implXor_le (p q : Option Addr) (n m c d : Nat) (xs ys : List Int) (w : World) (hn : n ≤ 1048576) (hm : m ≤ 1048576) (hx : xs.length = n) (hy : ys.length = m) (h : BytesIn w p n xs) (h' : BytesIn w q m ys) (hmin : n ≤ m) :
    Calls Tryz.prog 176 #[.slice p n c, .slice q m d] w fun e w' => ∃ v, e = .returned v ∧ w'.ownsRow w.heap.size 5 1 v n ((xorL xs ys).map (Value.int .u8)) ∧ Below w.heap.size w w' := by
  obtain ⟨i0, hi, hz0, hz1, hz2⟩ := info_parts infoByte
  have hl : (xorL xs ys).length = n := by rw [xorL_length, hx, hy]; omega
  go_enter Tryz.func176, Tryz.ntmps176
  go_wp2_with (at_make; refine wpList_make_full _ rfl _ _ 22 rfl w.heap.size 5 i0 (.int .u8 0) 1 Tryz.underlying22 hi hz0 hz1 _ _ _ _ n rfl rfl rfl rfl ?b2 ?b3 ?b4 ?_)
  case b2 => rw [hz2]; omega
  case b3 => unfold maxLen; omega
  case b4 => exact Nat.le_refl _
  intro w1 hown hgrow
  rw [fill_start (xorL xs ys) n] at hown
  have hbel : Below w.heap.size w w1 := (Below.refl _ _).grown hgrow (Nat.le_refl _) (fun _ h => by cases h)
  clear hgrow
  go_wp2
  go_loopw [15] (fun i wr => ∃ k : Nat, k ≤ n ∧ i = .int .i64 k ∧ wr.ownsRow w.heap.size 5 1 (.slice (some ⟨w.heap.size, 0, none⟩) n n) n (((xorL xs ys).take k ++ List.replicate (n - k) 0).map (Value.int .u8)) ∧ Below w.heap.size w wr)
    (fun i _ => n - (intOf i).toNat)
  case atStart => exact ⟨0, Nat.zero_le _, rfl, hown, hbel⟩
  case round =>
    clear hown hbel
    obtain ⟨k, hk, rfl, hown, hbel⟩ := hrel
    by_cases hlt : k < n
    · have hlx : k < n := by omega
      have hly : k < m := by omega
      obtain ⟨b, o, rfl, hc⟩ := h (by omega)
      obtain ⟨b', o', rfl, hc'⟩ := h' (by omega)
      have hcx : wr.cell? ⟨b, o + k, none⟩ = some (.int .u8 (xs.getD k 0)) := by
        rw [hbel.cell (p := ⟨b, o + k, none⟩) (World.block_lt_of_cell? w ⟨b, o + k, none⟩ (hc k hlx))]
        exact hc k hlx
      have hcy : wr.cell? ⟨b', o' + k, none⟩ = some (.int .u8 (ys.getD k 0)) := by
        rw [hbel.cell (p := ⟨b', o' + k, none⟩) (World.block_lt_of_cell? w ⟨b', o' + k, none⟩ (hc' k hly))]
        exact hc' k hly
      obtain ⟨u, hu⟩ : ∃ u, u = xs.getD k 0 := ⟨_, rfl⟩
      obtain ⟨v, hv⟩ : ∃ v, v = ys.getD k 0 := ⟨_, rfl⟩
      rw [← hu] at hcx
      rw [← hv] at hcy
      have hold : wr.cell? ⟨w.heap.size, k, none⟩ = some (.int .u8 0) := by
        rw [hown.cellAt k (by omega)]; exact fill_old _ n k hlt hl
      have hfz := hown.frozenAt k
      have hst := hown.stored k (.int .u8 (bits BinOp.xor IntKind.u8 u v))
      rw [fill_step (xorL xs ys) n k _ (xorL_getD hx hy hlx hly hu hv) hlt hl] at hst
      have hbel' := hbel.setCell (p := ⟨w.heap.size, k, none⟩) (Nat.le_refl _) (.int .u8 (bits BinOp.xor IntKind.u8 u v))
      clear hc hc' h h' hu hv
      go_wp2
      go_region
      all_goals
        go_wp2
        go_roundw
        case rel => exact ⟨k + 1, by omega, by go_num, hst.1, hbel'.drew⟩
        case measure => simp [intOf]; omega
    · have hkn : k = n := by omega
      subst hkn
      go_wp2
      go_ret
      rw [fill_end _ _ hl] at hown
      exact ⟨_, rfl, hown, hbel⟩

set_option maxHeartbeats 1000000 in
theorem implXor_gt (p q : Option Addr) (n m c d : Nat) (xs ys : List Int) (w : World) (hn : n ≤ 1048576) (hm : m ≤ 1048576) (hx : xs.length = n) (hy : ys.length = m) (h : BytesIn w p n xs) (h' : BytesIn w q m ys) (hmin : m < n) :
    Calls Tryz.prog 176 #[.slice p n c, .slice q m d] w fun e w' => ∃ v, e = .returned v ∧ w'.ownsRow w.heap.size 5 1 v m ((xorL xs ys).map (Value.int .u8)) ∧ Below w.heap.size w w' := by
  obtain ⟨i0, hi, hz0, hz1, hz2⟩ := info_parts infoByte
  have hl : (xorL xs ys).length = m := by rw [xorL_length, hx, hy]; omega
  go_enter Tryz.func176, Tryz.ntmps176
  go_wp2_with (at_make; refine wpList_make_full _ rfl _ _ 22 rfl w.heap.size 5 i0 (.int .u8 0) 1 Tryz.underlying22 hi hz0 hz1 _ _ _ _ m rfl rfl rfl rfl ?b2 ?b3 ?b4 ?_)
  case b2 => rw [hz2]; omega
  case b3 => unfold maxLen; omega
  case b4 => exact Nat.le_refl _
  intro w1 hown hgrow
  rw [fill_start (xorL xs ys) m] at hown
  have hbel : Below w.heap.size w w1 := (Below.refl _ _).grown hgrow (Nat.le_refl _) (fun _ h => by cases h)
  clear hgrow
  go_wp2
  go_loopw [15] (fun i wr => ∃ k : Nat, k ≤ m ∧ i = .int .i64 k ∧ wr.ownsRow w.heap.size 5 1 (.slice (some ⟨w.heap.size, 0, none⟩) m m) m (((xorL xs ys).take k ++ List.replicate (m - k) 0).map (Value.int .u8)) ∧ Below w.heap.size w wr)
    (fun i _ => m - (intOf i).toNat)
  case atStart => exact ⟨0, Nat.zero_le _, rfl, hown, hbel⟩
  case round =>
    clear hown hbel
    obtain ⟨k, hk, rfl, hown, hbel⟩ := hrel
    by_cases hlt : k < m
    · have hlx : k < n := by omega
      have hly : k < m := by omega
      obtain ⟨b, o, rfl, hc⟩ := h (by omega)
      obtain ⟨b', o', rfl, hc'⟩ := h' (by omega)
      have hcx : wr.cell? ⟨b, o + k, none⟩ = some (.int .u8 (xs.getD k 0)) := by
        rw [hbel.cell (p := ⟨b, o + k, none⟩) (World.block_lt_of_cell? w ⟨b, o + k, none⟩ (hc k hlx))]
        exact hc k hlx
      have hcy : wr.cell? ⟨b', o' + k, none⟩ = some (.int .u8 (ys.getD k 0)) := by
        rw [hbel.cell (p := ⟨b', o' + k, none⟩) (World.block_lt_of_cell? w ⟨b', o' + k, none⟩ (hc' k hly))]
        exact hc' k hly
      obtain ⟨u, hu⟩ : ∃ u, u = xs.getD k 0 := ⟨_, rfl⟩
      obtain ⟨v, hv⟩ : ∃ v, v = ys.getD k 0 := ⟨_, rfl⟩
      rw [← hu] at hcx
      rw [← hv] at hcy
      have hold : wr.cell? ⟨w.heap.size, k, none⟩ = some (.int .u8 0) := by
        rw [hown.cellAt k (by omega)]; exact fill_old _ m k hlt hl
      have hfz := hown.frozenAt k
      have hst := hown.stored k (.int .u8 (bits BinOp.xor IntKind.u8 u v))
      rw [fill_step (xorL xs ys) m k _ (xorL_getD hx hy hlx hly hu hv) hlt hl] at hst
      have hbel' := hbel.setCell (p := ⟨w.heap.size, k, none⟩) (Nat.le_refl _) (.int .u8 (bits BinOp.xor IntKind.u8 u v))
      clear hc hc' h h' hu hv
      go_wp2
      go_region
      all_goals
        go_wp2
        go_roundw
        case rel => exact ⟨k + 1, by omega, by go_num, hst.1, hbel'.drew⟩
        case measure => simp [intOf]; omega
    · have hkn : k = m := by omega
      subst hkn
      go_wp2
      go_ret
      rw [fill_end _ _ hl] at hown
      exact ⟨_, rfl, hown, hbel⟩

theorem implXor_any (p q : Option Addr) (n m c d : Nat) (xs ys : List Int) (w : World) (hn : n ≤ 1048576) (hm : m ≤ 1048576) (hx : xs.length = n) (hy : ys.length = m) (h : BytesIn w p n xs) (h' : BytesIn w q m ys) :
    Calls Tryz.prog 176 #[.slice p n c, .slice q m d] w fun e w' => ∃ v, e = .returned v ∧ w'.ownsRow w.heap.size 5 1 v (min n m) ((xorL xs ys).map (Value.int .u8)) ∧ Below w.heap.size w w' := by
  by_cases hle : n ≤ m
  · rw [show min n m = n by omega]
    exact implXor_le p q n m c d xs ys w hn hm hx hy h h' hle
  · rw [show min n m = m by omega]
    exact implXor_gt p q n m c d xs ys w hn hm hx hy h h' (by omega)

theorem implXor_own (p q : Option Addr) (n m c d : Nat) (xs ys : List Int) (w : World) (hn : n ≤ 1048576) (hm : m ≤ 1048576) (hx : xs.length = n) (hy : ys.length = m) (h : BytesIn w p n xs) (h' : BytesIn w q m ys) :
    Calls Tryz.prog 176 #[.slice p n c, .slice q m d] w fun e w' => ∃ p' c', e = .returned (.slice p' (min n m) c') ∧ Own 5 w' w.heap.size w'.heap.size (.slice p' (min n m) c') (min n m) (xorL xs ys) ∧ Below w.heap.size w w' := by
  refine (implXor_any p q n m c d xs ys w hn hm hx hy h h').mono fun e w' ⟨v, h1, h2, h3⟩ => ?_
  obtain ⟨p', c', rfl⟩ := owns_form h2
  exact ⟨p', c', h1, .of h2, h3⟩

end Go.Proofs.YthfnechcddmjkaaGreatDoor
