/-
  FnSixes returns true for any code, and writes nothing that was there; no condition beyond the law's own (a code of more than 1048576 bytes is passed by).
-/
import Derived.Test.YtkkaipeklbhliaaDraw21
import Derived.Test.YtkkaipeklbhliaaSame
import Derived.Test.YtkkaipeklbhliaaBig
import Derived.Test.YtkkaipeklbhliaaSpecUnsixes
import Derived.Test.YtkkaipeklbhliaaImplUnsixes
import Derived.Test.YtkkaipeklbhliaaImplSixes
import Derived.Test.YtkkaipeklbhliaaImplSixesLen
import Derived.Deep.RegionHeld3
namespace Go.Proofs.Ytkkaipeklbhliaa
open Go.RowKit
set_option maxRecDepth 100000

theorem implUnsixesB (yb : List Int) (kb : Nat) (hyb : ∀ y ∈ yb, 0 ≤ y ∧ y < 256) (hl : yb.length = kb) (hk : (strOfNums (sixL yb)).size ≤ 1048576) (w : World) :
    Calls Try.prog 12 #[.string (strOfNums (sixL yb))] w fun e w' => ∃ p c, e = .returned (.tuple #[.slice p kb c, .bool true]) ∧ Own 5 w' w.heap.size w'.heap.size (.slice p kb c) kb yb ∧ Below w.heap.size w w' := by
  have C := implUnsixes_any (strOfNums (sixL yb)) w hk
  obtain ⟨h1, h2, h3⟩ := six_back hyb
  rw [h1, h2, h3, hl] at C
  exact C

theorem six_text {t : ByteArray} (h : ok6 t = true) : strOfNums (sixL (unL6 t)) = t := by
  have e : unL6 t = unT6 t (6 * t.size / 8) := by simp [unL6, h]
  have g := ((ok6_iff t).1 h).2
  rw [e]
  rw [ByteArray.toList_eq, ByteArray.toList_eq] at g
  generalize strOfNums (sixL (unT6 t (6 * t.size / 8))) = A at g
  cases A; cases t
  simp at g
  rw [g]

theorem six_bytes {t : ByteArray} (h : ok6 t = true) : ∀ x ∈ unL6 t, 0 ≤ x ∧ x < 256 := by
  have e : unL6 t = unT6 t (6 * t.size / 8) := by simp [unL6, h]
  rw [e]
  exact unT6_lt ((ok6_iff t).1 h).1 (by omega)

theorem sixLen_eq (k : Nat) (h : k ≤ 4000) : sixLen (k : Int) = ((sixN k : Nat) : Int) := by
  unfold sixLen sixN
  rw [if_pos (by omega)]
  omega

theorem specSixesLen_b (n : Int) (w : World) (hn : -9223372036854775808 ≤ n ∧ n ≤ 9223372036854775807) : Calls Try.prog 15 #[.int .i64 n] w fun e w' => e = .returned (.int .i64 (sixLen n)) ∧ Below w.heap.size w w' :=
  (specSixesLen_any n w hn).mono fun _ _ ⟨h1, h2⟩ => ⟨h1, by rw [h2]; exact Below.refl _ _⟩

set_option maxHeartbeats 8000000 in
theorem fnSixes_small (p : Option Addr) (n c : Nat) (xs : List Int) (w : World) (hn : n ≤ 1048576) (hx : xs.length = n) (h : BytesIn w p n xs) (hr : ∀ x ∈ xs, 0 ≤ x ∧ x < 256) :
    Calls Try.prog 6 #[.slice p n c] w fun e w' => e = .returned (.bool true) ∧ Below w.heap.size w w' := by
  go_enter Try.func6, Try.ntmps6
  go_wp2_with (fail)
  refine (big_small p n c _ hn).mono ?_
  rintro e w1 ⟨rfl, b1⟩
  have k1 : Below w.heap.size w w1 := below_on (Below.refl _ _) b1
  have z1 := b1.size
  go_wp2_with (fail)
  refine (drawSixes_any p n c xs _ hn hx (in_below h k1) hr).mono ?_
  rintro e w2 ⟨gb, kb, cb, yb, rfl, hkb, rb, hyb, b2⟩
  have k2 : Below w.heap.size w w2 := below_on k1 b2
  have z2 := b2.size
  go_wp2_with (fail)
  refine (implSixes_any (some ⟨gb, 0, none⟩) kb cb yb _ (by omega) (own_le rb) rb.len rb.bytes hyb).mono ?_
  rintro e w3 ⟨rfl, b3⟩
  have k3 : Below w.heap.size w w3 := below_on k2 b3
  have z3 := b3.size
  replace rb := rb.on b3
  go_wp2_with (fail)
  refine (drawUnsixes_any p n c xs _ hn hx (in_below h k3) hr).mono ?_
  rintro e w4 ⟨t, rfl, ht, b4⟩
  have k4 : Below w.heap.size w w4 := below_on k3 b4
  have z4 := b4.size
  replace rb := rb.on b4
  have hun : unN6 t ≤ 100 := by unfold unN6; split <;> omega
  go_wp2_with (fail)
  refine (implUnsixes_any t _ (by omega)).mono ?_
  rintro e w5 ⟨pr1, cr1, rfl, r1, b5⟩
  have k5 : Below w.heap.size w w5 := below_on k4 b5
  have z5 := b5.size
  replace rb := rb.on b5
  go_wp2_with (fail)
  refine (specUnsixes_any t _ (by omega)).mono ?_
  rintro e w6 ⟨pr2, cr2, rfl, r2, b6⟩
  have k6 : Below w.heap.size w w6 := below_on k5 b6
  have z6 := b6.size
  replace rb := rb.on b6
  replace r1 := r1.on b6
  go_wp2_with (fail)
  refine (drawSixesLen_any p n c xs _ hn hx (in_below h k6) hr).mono ?_
  rintro e w7 ⟨m, rfl, hm, b7⟩
  have k7 : Below w.heap.size w w7 := below_on k6 b7
  have z7 := b7.size
  replace rb := rb.on b7
  replace r1 := r1.on b7
  replace r2 := r2.on b7
  go_wp2_with (fail)
  refine (specSixes_any (some ⟨gb, 0, none⟩) kb cb yb _ (by omega) rb.len rb.bytes hyb).mono ?_
  rintro e w8 ⟨rfl, b8⟩
  have k8 : Below w.heap.size w w8 := below_on k7 b8
  have z8 := b8.size
  replace rb := rb.on b8
  replace r1 := r1.on b8
  replace r2 := r2.on b8
  go_wp2_with (fail)
  refine (implSame_any pr1 pr2 (unN6 t) (unN6 t) cr1 cr2 (unL6 t) (unL6 t) _ r1.len r2.len r1.bytes r2.bytes).mono ?_
  rintro e w9 ⟨rfl, b9⟩
  have k9 : Below w.heap.size w w9 := below_on k8 b9
  have z9 := b9.size
  replace rb := rb.on b9
  replace r1 := r1.on b9
  replace r2 := r2.on b9
  clear r2
  go_wp2_with (fail)
  refine (implSixesLen_any m _ (by omega)).mono ?_
  rintro e w10 ⟨rfl, b10⟩
  have k10 : Below w.heap.size w w10 := below_on k9 b10
  have z10 := b10.size
  replace rb := rb.on b10
  replace r1 := r1.on b10
  go_wp2_with (fail)
  refine (specSixesLen_b m _ (by omega)).mono ?_
  rintro e w11 ⟨rfl, b11⟩
  have k11 : Below w.heap.size w w11 := below_on k10 b11
  have z11 := b11.size
  replace rb := rb.on b11
  replace r1 := r1.on b11
  have hS := size_text yb
  have hyl := rb.len
  have hSl : (strOfNums (sixL yb)).size ≤ 1048576 := by rw [hS, hyl]; unfold sixN; omega
  have hlen := sixLen_eq kb (by omega)
  have hS2 : (strOfNums (sixL yb)).size = sixN kb := by rw [hS, hyl]
  have hC := implUnsixesB yb kb hyb hyl hSl
  by_cases hG : ok6 t = true
  · have hT : strOfNums (sixL (unL6 t)) = t := six_text hG
    go_wp2_with (fail)
    refine (implSixes_any pr1 (unN6 t) cr1 (unL6 t) _ (by omega) (own_le r1) r1.len r1.bytes (six_bytes hG)).mono ?_
    rintro e w12 ⟨rfl, b12⟩
    have k12 : Below w.heap.size w w12 := below_on k11 b12
    have z12 := b12.size
    replace rb := rb.on b12
    replace r1 := r1.on b12
    go_wp2_with (fail)
    refine (hC _).mono ?_
    rintro e w13 ⟨pr3, cr3, rfl, r3, b13⟩
    have k13 : Below w.heap.size w w13 := below_on k12 b13
    have z13 := b13.size
    replace rb := rb.on b13
    replace r1 := r1.on b13
    go_wp2_with (fail)
    refine (implSame_any pr3 (some ⟨gb, 0, none⟩) kb kb cr3 cb yb yb _ r3.len rb.len r3.bytes rb.bytes).mono ?_
    rintro e w14 ⟨rfl, b14⟩
    have k14 : Below w.heap.size w w14 := below_on k13 b14
    have z14 := b14.size
    replace rb := rb.on b14
    replace r1 := r1.on b14
    replace r3 := r3.on b14
    go_wp2_with (fail)
    refine (implSixesLen_any (kb : Int) _ (by omega)).mono ?_
    rintro e w15 ⟨rfl, b15⟩
    have k15 : Below w.heap.size w w15 := below_on k14 b15
    have z15 := b15.size
    replace rb := rb.on b15
    replace r1 := r1.on b15
    replace r3 := r3.on b15
    go_wp2_with (fail)
    go_ret
    exact ⟨rfl, k15⟩
  · have hG' : ok6 t = false := by simpa using hG
    go_wp2_with (fail)
    refine (hC _).mono ?_
    rintro e w12 ⟨pr3, cr3, rfl, r3, b12⟩
    have k12 : Below w.heap.size w w12 := below_on k11 b12
    have z12 := b12.size
    replace rb := rb.on b12
    replace r1 := r1.on b12
    go_wp2_with (fail)
    refine (implSame_any pr3 (some ⟨gb, 0, none⟩) kb kb cr3 cb yb yb _ r3.len rb.len r3.bytes rb.bytes).mono ?_
    rintro e w13 ⟨rfl, b13⟩
    have k13 : Below w.heap.size w w13 := below_on k12 b13
    have z13 := b13.size
    replace rb := rb.on b13
    replace r1 := r1.on b13
    replace r3 := r3.on b13
    go_wp2_with (fail)
    refine (implSixesLen_any (kb : Int) _ (by omega)).mono ?_
    rintro e w14 ⟨rfl, b14⟩
    have k14 : Below w.heap.size w w14 := below_on k13 b14
    have z14 := b14.size
    replace rb := rb.on b14
    replace r1 := r1.on b14
    replace r3 := r3.on b14
    go_wp2_with (fail)
    go_ret
    exact ⟨rfl, k14⟩

theorem fnSixes_great (p : Option Addr) (n c : Nat) (w : World) (hn : ¬ n ≤ 1048576) : Calls Try.prog 6 #[.slice p n c] w fun e w' => e = .returned (.bool true) ∧ Below w.heap.size w w' := by
  go_enter Try.func6, Try.ntmps6
  go_wp2_with (fail)
  refine (big_great p n c _ hn).mono ?_
  rintro e w1 ⟨rfl, b1⟩
  go_wp2_with (fail)
  go_ret
  exact ⟨rfl, b1⟩

end Go.Proofs.Ytkkaipeklbhliaa
