/-
  FnMacs returns true for any code, and writes nothing that was there; conditions: the code is of bytes, and the table of the rounds' numbers is as its text says (a code of more than 1048576 bytes is passed by).
-/
import Derived.Test.YtncaihcfadllbabDoorDraw4
import Derived.Test.YtncaihcfadllbabDoorDerive
import Derived.Test.YtncaihcfadllbabDoorKeysOf
import Derived.Test.YtncaihcfadllbabDoorSame
import Derived.Test.YtncaihcfadllbabDoorBig
namespace Go.Proofs.YtncaihcfadllbabDoor
open Go.RowKit

theorem minOf_le (a b : Int) (w : World) (h : a ≤ b) : Calls Tryd.prog 31 #[.int .i64 a, .int .i64 b] w fun e w' => e = .returned (.int .i64 a) ∧ w' = w := by
  by_cases h1 : a < b
  · go_enter Tryd.func31, Tryd.ntmps31
    go_wp2
    go_ret
    exact ⟨rfl, rfl⟩
  · obtain rfl : a = b := by omega
    go_enter Tryd.func31, Tryd.ntmps31
    go_wp2
    go_ret
    exact ⟨rfl, rfl⟩
theorem exp_half {key info : List Int} {M H : Nat} (h1 : 1 ≤ M) (h2 : M ≤ 8160) (hm : info.length ≤ 400) (hn : key.length ≤ 400) (hH : 1 + H ≤ M) : expL key info ((1 + H : Nat) : Int) = (expL key info (M : Int)).take (1 + H) := by
  rw [exp_is (i := 255) (by omega) (by omega) hm hn (by omega), exp_is (i := 255) h1 h2 hm hn (by omega), List.take_take, Nat.min_eq_left hH]
theorem mac_hashN {n m : Nat} (h : n ≤ 3936) : macN 32 m = macN n m := by
  unfold macN
  by_cases hm : m ≤ 3936
  · rw [if_pos ⟨by omega, hm⟩, if_pos ⟨h, hm⟩]
  · rw [if_neg (fun e => hm e.2), if_neg (fun e => hm e.2)]
theorem mac_hashL {key b : List Int} (h : 64 < key.length) (h2 : key.length ≤ 3936) : macL (hashL key) b = macL key b := by
  have hl : (hashL key).length = 32 := hashL_length (by omega)
  have e1 : kL (hashL key) = hashL key := if_neg (by omega)
  have e2 : kL key = hashL key := if_pos h
  unfold macL
  rw [hl, e1, e2]
  by_cases hm : b.length ≤ 3936
  · rw [if_pos ⟨by omega, hm⟩, if_pos ⟨h2, hm⟩]
  · rw [if_neg (fun e => hm e.2), if_neg (fun e => hm e.2)]
theorem implHash_one (p : Option Addr) (n c : Nat) (xs : List Int) (w : World) (hn : n ≤ 4000) (hx : xs.length = n) (h : BytesIn w p n xs) (hb : ∀ x ∈ xs, 0 ≤ x ∧ x < 256) (hK : KeysIs w) :
    Calls Tryd.prog 7 #[.slice p n c] w fun e w' => ∃ p' c', e = .returned (.slice p' 32 c') ∧ Own 5 w' w.heap.size w'.heap.size (.slice p' 32 c') 32 (hashL xs) ∧ Below w.heap.size w w' := by
  have := implHash_any p n c xs w hx h hb hK
  rw [show hashN n = 32 from if_pos hn] at this
  exact this
theorem implDerive_exp (p q r : Option Addr) (n m l c d f : Nat) (many : Int) (xs ys zs : List Int) (w : World) (hx : xs.length = n) (hy : ys.length = m) (hz : zs.length = l) (h : BytesIn w p n xs) (h' : BytesIn w q m ys) (h'' : BytesIn w r l zs) (hb : ∀ x ∈ xs, 0 ≤ x ∧ x < 256) (hb' : ∀ x ∈ ys, 0 ≤ x ∧ x < 256) (hb'' : ∀ x ∈ zs, 0 ≤ x ∧ x < 256) (hK : KeysIs w) :
    Calls Tryd.prog 25 #[.slice p n c, .slice q m d, .slice r l f, .int .i64 many] w fun e w' => ∃ p' c', e = .returned (.slice p' (expN (extN n m) l many) c') ∧ Own 5 w' w.heap.size w'.heap.size (.slice p' (expN (extN n m) l many) c') (expN (extN n m) l many) (expL (extL xs ys) zs many) ∧ Below w.heap.size w w' :=
  implDerive_any p q r n m l c d f many xs ys zs w hx hy hz h h' h'' hb hb' hb'' hK
theorem specDerive_exp (p q r : Option Addr) (n m l c d f : Nat) (many : Int) (xs ys zs : List Int) (w : World) (hx : xs.length = n) (hy : ys.length = m) (hz : zs.length = l) (h : BytesIn w p n xs) (h' : BytesIn w q m ys) (h'' : BytesIn w r l zs) (hb : ∀ x ∈ xs, 0 ≤ x ∧ x < 256) (hb' : ∀ x ∈ ys, 0 ≤ x ∧ x < 256) (hb'' : ∀ x ∈ zs, 0 ≤ x ∧ x < 256) :
    Calls Tryd.prog 30 #[.slice p n c, .slice q m d, .slice r l f, .int .i64 many] w fun e w' => ∃ p' c', e = .returned (.slice p' (expN (extN n m) l many) c') ∧ Own 5 w' w.heap.size w'.heap.size (.slice p' (expN (extN n m) l many) c') (expN (extN n m) l many) (expL (extL xs ys) zs many) ∧ Below w.heap.size w w' :=
  specDerive_any p q r n m l c d f many xs ys zs w hx hy hz h h' h'' hb hb' hb''

set_option maxRecDepth 100000 in
set_option maxHeartbeats 8000000 in
theorem fnMacs_small (p : Option Addr) (n c : Nat) (xs : List Int) (w : World) (hn : n ≤ 1048576) (hx : xs.length = n) (h : BytesIn w p n xs) (hr : ∀ x ∈ xs, 0 ≤ x ∧ x < 256) (hK : KeysIs w) :
    Calls Tryd.prog 4 #[.slice p n c] w fun e w' => e = .returned (.bool true) ∧ Below w.heap.size w w' := by
  go_enter Tryd.func4, Tryd.ntmps4
  go_wp2_with (fail)
  refine (big_small p n c _ hn).mono ?_
  rintro e w1 ⟨rfl, b1⟩
  have k1 : Below w.heap.size w w1 := below_on (Below.refl _ _) b1
  have z1 := b1.size
  go_wp2_with (fail)
  refine (drawMac_any p n c xs _ hn hx (in_below h k1) hr).mono ?_
  rintro e w2 ⟨g1', k1', c1', y1, g2', k2', c2', y2, rfl, hk1, hk2, s1, s2, hy1, hy2, b2⟩
  have k2 : Below w.heap.size w w2 := below_on k1 b2
  have z2 := b2.size
  go_wp2_with (fail)
  refine (implMac_any (some ⟨g1', 0, none⟩) (some ⟨g2', 0, none⟩) k1' k2' c1' c2' y1 y2 _ s1.len s2.len s1.bytes s2.bytes hy1 hy2 (keys_below hK k2)).mono ?_
  rintro e w3 ⟨pr1, cr1, rfl, r1, b3⟩
  have k3 : Below w.heap.size w w3 := below_on k2 b3
  have z3 := b3.size
  replace s1 := s1.on b3
  replace s2 := s2.on b3
  go_wp2_with (fail)
  refine (drawExtract_any p n c xs _ hn hx (in_below h k3) hr).mono ?_
  rintro e w4 ⟨g3', k3', c3', y3, g4', k4', c4', y4, rfl, hk3, hk4, s3, s4, hy3, hy4, b4⟩
  have k4 : Below w.heap.size w w4 := below_on k3 b4
  have z4 := b4.size
  replace s1 := s1.on b4
  replace s2 := s2.on b4
  replace r1 := r1.on b4
  go_wp2_with (fail)
  refine (drawExpand_any p n c xs _ hn hx (in_below h k4) hr).mono ?_
  rintro e w5 ⟨g5', k5', c5', y5, g6', k6', c6', y6, zz1, rfl, hk5, hk6, s5, s6, hy5, hy6, b5⟩
  have k5 : Below w.heap.size w w5 := below_on k4 b5
  have z5 := b5.size
  replace s1 := s1.on b5
  replace s2 := s2.on b5
  replace r1 := r1.on b5
  replace s3 := s3.on b5
  replace s4 := s4.on b5
  go_wp2_with (fail)
  refine (implExpand_any (some ⟨g5', 0, none⟩) (some ⟨g6', 0, none⟩) k5' k6' c5' c6' zz1 y5 y6 _ s5.len s6.len s5.bytes s6.bytes hy5 hy6 (keys_below hK k5)).mono ?_
  rintro e w6 ⟨pr2, cr2, rfl, r2, b6⟩
  have k6 : Below w.heap.size w w6 := below_on k5 b6
  have z6 := b6.size
  replace s1 := s1.on b6
  replace s2 := s2.on b6
  replace r1 := r1.on b6
  replace s3 := s3.on b6
  replace s4 := s4.on b6
  replace s5 := s5.on b6
  replace s6 := s6.on b6
  go_wp2_with (fail)
  refine (drawDerive_any p n c xs _ hn hx (in_below h k6) hr).mono ?_
  rintro e w7 ⟨g7', k7', c7', y7, g8', k8', c8', y8, g9', k9', c9', y9, zz2, rfl, hk7, hk8, hk9, s7, s8, s9, hy7, hy8, hy9, b7⟩
  have k7 : Below w.heap.size w w7 := below_on k6 b7
  have z7 := b7.size
  replace s1 := s1.on b7
  replace s2 := s2.on b7
  replace r1 := r1.on b7
  replace s3 := s3.on b7
  replace s4 := s4.on b7
  replace s5 := s5.on b7
  replace s6 := s6.on b7
  replace r2 := r2.on b7
  go_wp2_with (fail)
  refine (implDerive_exp (some ⟨g7', 0, none⟩) (some ⟨g8', 0, none⟩) (some ⟨g9', 0, none⟩) k7' k8' k9' c7' c8' c9' zz2 y7 y8 y9 _ s7.len s8.len s9.len s7.bytes s8.bytes s9.bytes hy7 hy8 hy9 (keys_below hK k7)).mono ?_
  rintro e w8 ⟨pr3, cr3, rfl, r3, b8⟩
  have k8 : Below w.heap.size w w8 := below_on k7 b8
  have z8 := b8.size
  replace s1 := s1.on b8
  replace s2 := s2.on b8
  replace r1 := r1.on b8
  replace s3 := s3.on b8
  replace s4 := s4.on b8
  replace s5 := s5.on b8
  replace s6 := s6.on b8
  replace r2 := r2.on b8
  replace s7 := s7.on b8
  replace s8 := s8.on b8
  replace s9 := s9.on b8
  go_wp2_with (fail)
  refine (specMac_any (some ⟨g1', 0, none⟩) (some ⟨g2', 0, none⟩) k1' k2' c1' c2' y1 y2 _ s1.len s2.len s1.bytes s2.bytes hy1 hy2).mono ?_
  rintro e w9 ⟨pr4, cr4, rfl, r4, b9⟩
  have k9 : Below w.heap.size w w9 := below_on k8 b9
  have z9 := b9.size
  replace s1 := s1.on b9
  replace s2 := s2.on b9
  replace r1 := r1.on b9
  replace s3 := s3.on b9
  replace s4 := s4.on b9
  replace s5 := s5.on b9
  replace s6 := s6.on b9
  replace r2 := r2.on b9
  replace s7 := s7.on b9
  replace s8 := s8.on b9
  replace s9 := s9.on b9
  replace r3 := r3.on b9
  go_wp2_with (fail)
  refine (implSame_any pr1 pr4 (macN k1' k2') (macN k1' k2') cr1 cr4 (macL y1 y2) (macL y1 y2) _ r1.len r4.len r1.bytes r4.bytes).mono ?_
  rintro e w10 ⟨rfl, b10⟩
  have k10 : Below w.heap.size w w10 := below_on k9 b10
  have z10 := b10.size
  replace s1 := s1.on b10
  replace s2 := s2.on b10
  replace r1 := r1.on b10
  replace s3 := s3.on b10
  replace s4 := s4.on b10
  replace s5 := s5.on b10
  replace s6 := s6.on b10
  replace r2 := r2.on b10
  replace s7 := s7.on b10
  replace s8 := s8.on b10
  replace s9 := s9.on b10
  replace r3 := r3.on b10
  replace r4 := r4.on b10
  clear r4
  go_wp2_with (fail)
  refine (implExtract_any (some ⟨g3', 0, none⟩) (some ⟨g4', 0, none⟩) k3' k4' c3' c4' y3 y4 _ s3.len s4.len s3.bytes s4.bytes hy3 hy4 (keys_below hK k10)).mono ?_
  rintro e w11 ⟨pr5, cr5, rfl, r5, b11⟩
  have k11 : Below w.heap.size w w11 := below_on k10 b11
  have z11 := b11.size
  replace s1 := s1.on b11
  replace s2 := s2.on b11
  replace r1 := r1.on b11
  replace s3 := s3.on b11
  replace s4 := s4.on b11
  replace s5 := s5.on b11
  replace s6 := s6.on b11
  replace r2 := r2.on b11
  replace s7 := s7.on b11
  replace s8 := s8.on b11
  replace s9 := s9.on b11
  replace r3 := r3.on b11
  go_wp2_with (fail)
  refine (specExtract_any (some ⟨g3', 0, none⟩) (some ⟨g4', 0, none⟩) k3' k4' c3' c4' y3 y4 _ s3.len s4.len s3.bytes s4.bytes hy3 hy4).mono ?_
  rintro e w12 ⟨pr6, cr6, rfl, r6, b12⟩
  have k12 : Below w.heap.size w w12 := below_on k11 b12
  have z12 := b12.size
  replace s1 := s1.on b12
  replace s2 := s2.on b12
  replace r1 := r1.on b12
  replace s3 := s3.on b12
  replace s4 := s4.on b12
  replace s5 := s5.on b12
  replace s6 := s6.on b12
  replace r2 := r2.on b12
  replace s7 := s7.on b12
  replace s8 := s8.on b12
  replace s9 := s9.on b12
  replace r3 := r3.on b12
  replace r5 := r5.on b12
  go_wp2_with (fail)
  refine (implSame_any pr5 pr6 (extN k3' k4') (extN k3' k4') cr5 cr6 (extL y3 y4) (extL y3 y4) _ r5.len r6.len r5.bytes r6.bytes).mono ?_
  rintro e w13 ⟨rfl, b13⟩
  have k13 : Below w.heap.size w w13 := below_on k12 b13
  have z13 := b13.size
  replace s1 := s1.on b13
  replace s2 := s2.on b13
  replace r1 := r1.on b13
  replace s3 := s3.on b13
  replace s4 := s4.on b13
  replace s5 := s5.on b13
  replace s6 := s6.on b13
  replace r2 := r2.on b13
  replace s7 := s7.on b13
  replace s8 := s8.on b13
  replace s9 := s9.on b13
  replace r3 := r3.on b13
  replace r5 := r5.on b13
  replace r6 := r6.on b13
  clear r5 r6 s3 s4
  go_wp2_with (fail)
  refine (specExpand_any (some ⟨g5', 0, none⟩) (some ⟨g6', 0, none⟩) k5' k6' c5' c6' zz1 y5 y6 _ s5.len s6.len s5.bytes s6.bytes hy5 hy6).mono ?_
  rintro e w14 ⟨pr7, cr7, rfl, r7, b14⟩
  have k14 : Below w.heap.size w w14 := below_on k13 b14
  have z14 := b14.size
  replace s1 := s1.on b14
  replace s2 := s2.on b14
  replace r1 := r1.on b14
  replace s5 := s5.on b14
  replace s6 := s6.on b14
  replace r2 := r2.on b14
  replace s7 := s7.on b14
  replace s8 := s8.on b14
  replace s9 := s9.on b14
  replace r3 := r3.on b14
  go_wp2_with (fail)
  refine (implSame_any pr2 pr7 (expN k5' k6' zz1) (expN k5' k6' zz1) cr2 cr7 (expL y5 y6 zz1) (expL y5 y6 zz1) _ r2.len r7.len r2.bytes r7.bytes).mono ?_
  rintro e w15 ⟨rfl, b15⟩
  have k15 : Below w.heap.size w w15 := below_on k14 b15
  have z15 := b15.size
  replace s1 := s1.on b15
  replace s2 := s2.on b15
  replace r1 := r1.on b15
  replace s5 := s5.on b15
  replace s6 := s6.on b15
  replace r2 := r2.on b15
  replace s7 := s7.on b15
  replace s8 := s8.on b15
  replace s9 := s9.on b15
  replace r3 := r3.on b15
  replace r7 := r7.on b15
  clear r7
  go_wp2_with (fail)
  refine (specDerive_exp (some ⟨g7', 0, none⟩) (some ⟨g8', 0, none⟩) (some ⟨g9', 0, none⟩) k7' k8' k9' c7' c8' c9' zz2 y7 y8 y9 _ s7.len s8.len s9.len s7.bytes s8.bytes s9.bytes hy7 hy8 hy9).mono ?_
  rintro e w16 ⟨pr8, cr8, rfl, r8, b16⟩
  have k16 : Below w.heap.size w w16 := below_on k15 b16
  have z16 := b16.size
  replace s1 := s1.on b16
  replace s2 := s2.on b16
  replace r1 := r1.on b16
  replace s5 := s5.on b16
  replace s6 := s6.on b16
  replace r2 := r2.on b16
  replace s7 := s7.on b16
  replace s8 := s8.on b16
  replace s9 := s9.on b16
  replace r3 := r3.on b16
  go_wp2_with (fail)
  refine (implSame_any pr3 pr8 (expN (extN k7' k8') k9' zz2) (expN (extN k7' k8') k9' zz2) cr3 cr8 (expL (extL y7 y8) y9 zz2) (expL (extL y7 y8) y9 zz2) _ r3.len r8.len r3.bytes r8.bytes).mono ?_
  rintro e w17 ⟨rfl, b17⟩
  have k17 : Below w.heap.size w w17 := below_on k16 b17
  have z17 := b17.size
  replace s1 := s1.on b17
  replace s2 := s2.on b17
  replace r1 := r1.on b17
  replace s5 := s5.on b17
  replace s6 := s6.on b17
  replace r2 := r2.on b17
  replace s7 := s7.on b17
  replace s8 := s8.on b17
  replace s9 := s9.on b17
  replace r3 := r3.on b17
  replace r8 := r8.on b17
  clear r8
  go_wp2_with (fail)
  refine (implExtract_any (some ⟨g7', 0, none⟩) (some ⟨g8', 0, none⟩) k7' k8' c7' c8' y7 y8 _ s7.len s8.len s7.bytes s8.bytes hy7 hy8 (keys_below hK k17)).mono ?_
  rintro e w18 ⟨pr9, cr9, rfl, r9, b18⟩
  have k18 : Below w.heap.size w w18 := below_on k17 b18
  have z18 := b18.size
  replace s1 := s1.on b18
  replace s2 := s2.on b18
  replace r1 := r1.on b18
  replace s5 := s5.on b18
  replace s6 := s6.on b18
  replace r2 := r2.on b18
  replace s7 := s7.on b18
  replace s8 := s8.on b18
  replace s9 := s9.on b18
  replace r3 := r3.on b18
  go_wp2_with (fail)
  refine (implExpand_any pr9 (some ⟨g9', 0, none⟩) (extN k7' k8') k9' cr9 c9' zz2 (extL y7 y8) y9 _ r9.len s9.len r9.bytes s9.bytes (extL_byte y7 y8) hy9 (keys_below hK k18)).mono ?_
  rintro e w19 ⟨pr10, cr10, rfl, r10, b19⟩
  have k19 : Below w.heap.size w w19 := below_on k18 b19
  have z19 := b19.size
  replace s1 := s1.on b19
  replace s2 := s2.on b19
  replace r1 := r1.on b19
  replace s5 := s5.on b19
  replace s6 := s6.on b19
  replace r2 := r2.on b19
  replace s7 := s7.on b19
  replace s8 := s8.on b19
  replace s9 := s9.on b19
  replace r3 := r3.on b19
  replace r9 := r9.on b19
  go_wp2_with (fail)
  refine (implSame_any pr3 pr10 (expN (extN k7' k8') k9' zz2) (expN (extN k7' k8') k9' zz2) cr3 cr10 (expL (extL y7 y8) y9 zz2) (expL (extL y7 y8) y9 zz2) _ r3.len r10.len r3.bytes r10.bytes).mono ?_
  rintro e w20 ⟨rfl, b20⟩
  have k20 : Below w.heap.size w w20 := below_on k19 b20
  have z20 := b20.size
  replace s1 := s1.on b20
  replace s2 := s2.on b20
  replace r1 := r1.on b20
  replace s5 := s5.on b20
  replace s6 := s6.on b20
  replace r2 := r2.on b20
  replace s7 := s7.on b20
  replace s8 := s8.on b20
  replace s9 := s9.on b20
  replace r3 := r3.on b20
  replace r9 := r9.on b20
  replace r10 := r10.on b20
  clear r9 r10 r3 s7 s8 s9
  by_cases h64 : k1' ≤ 64
  · have c64 : ¬ (64 : Int) < (k1' : Int) := by omega
    by_cases hok : expOk k5' k6' zz1
    · obtain ⟨hM1, hM2, hm4, hn4⟩ := hok
      obtain ⟨M, rfl⟩ : ∃ M : Nat, zz1 = M := ⟨zz1.toNat, by omega⟩
      have eN : expN k5' k6' (M : Int) = M := expN_is (by omega) (by omega) hm4 hn4
      rw [eN] at r2
      rw [eN]
      obtain ⟨H, hH⟩ : ∃ H, H = M / 2 := ⟨_, rfl⟩
      have eN2 : expN k5' k6' ((1 + H : Nat) : Int) = 1 + H := expN_is (by omega) (by omega) hm4 hn4
      have eL2 : expL y5 y6 ((1 + H : Nat) : Int) = (expL y5 y6 (M : Int)).take (1 + H) := exp_half (by omega) (by omega) (by rw [s6.len]; exact hm4) (by rw [s5.len]; exact hn4) (by omega)
      have CE := implExpand_any (some ⟨g5', 0, none⟩) (some ⟨g6', 0, none⟩) k5' k6' c5' c6' ((1 + H : Nat) : Int) y5 y6 w20 s5.len s6.len s5.bytes s6.bytes hy5 hy6 (keys_below hK k20)
      rw [eN2, eL2, show ((1 + H : Nat) : Int) = 1 + (H : Int) by omega] at CE
      have hq1 : (M : Int).tdiv 2 = (H : Int) := by rw [Int.tdiv_eq_ediv_of_nonneg (by omega)]; omega
      have hq2 : (M : Int) / 2 = (H : Int) := by omega
      have d0 : ((M : Int) == 0) = false := beq_eq_false_iff_ne.2 (by omega)
      have hcap := r2.cap
      have CO := fun X => minOf_le (1 + (H : Int)) (M : Int) X (by omega)
      have i1 : 1 + (H : Int) ≤ (cr2 : Int) := by omega
      have hlH : (expL y5 y6 (M : Int)).length = M := r2.len
      generalize expL y5 y6 (M : Int) = EL at CE r2 hlH
      have hHM : 1 + H ≤ M := by omega
      have htl : (EL.take (1 + H)).length = 1 + H := by rw [List.length_take]; omega
      have htn : (1 + (H : Int)).toNat = 1 + H := by omega
      clear eN eN2 eL2 hH
      go_wp2_with (fail)
      refine CE.mono ?_
      rintro e wx ⟨px, cx, rfl, rx, bx⟩
      clear CE
      replace r2 := r2.on bx
      go_wp2_with (fail)
      refine (CO _).mono ?_
      rintro e wy ⟨rfl, rfl⟩
      have ipx := in_prefix r2.bytes hHM
      go_wp2_with (fail)
      refine (implSame_any px pr2 (1 + H) (1 + H) cx cr2 (EL.take (1 + H)) (EL.take (1 + H)) _ htl htl rx.bytes ipx).mono ?_
      rintro e wz ⟨rfl, bz⟩
      go_wp2_with (fail)
      go_ret
      exact ⟨rfl, below_on (below_on k20 bx) bz⟩
    · have eN : expN k5' k6' zz1 = 0 := if_neg hok
      rw [eN] at r2
      rw [eN]
      clear eN r2
      unfold expOk at hok
      by_cases q0 : zz1 < 1
      · skip
        go_wp2
        go_ret
        exact ⟨rfl, k20⟩
      by_cases q1 : 8160 < zz1
      · have e1 : ¬ zz1 < 1 := by omega
        go_wp2
        go_ret
        exact ⟨rfl, k20⟩
      by_cases q2 : 400 < k5'
      · have e1 : ¬ zz1 < 1 := by omega
        have e2 : ¬ 8160 < zz1 := by omega
        have e3 : (400 : Int) < (k5' : Int) := by omega
        go_wp2
        go_ret
        exact ⟨rfl, k20⟩
      have e1 : ¬ (400 : Int) < (k5' : Int) := by omega
      have e2 : (400 : Int) < (k6' : Int) := by omega
      go_wp2
      go_ret
      exact ⟨rfl, k20⟩
  · have c64 : (64 : Int) < (k1' : Int) := by omega
    have eM1 : macN 32 k2' = macN k1' k2' := mac_hashN (by omega)
    have eM2 : macL (hashL y1) y2 = macL y1 y2 := mac_hashL (by rw [s1.len]; omega) (by rw [s1.len]; omega)
    have hn1 : k1' ≤ 4000 := by omega
    go_wp2_with (fail)
    refine (implHash_one (some ⟨g1', 0, none⟩) k1' c1' y1 _ hn1 s1.len s1.bytes hy1 (keys_below hK k20)).mono ?_
    rintro e w21 ⟨pr11, cr11, rfl, r11, b21⟩
    have k21 : Below w.heap.size w w21 := below_on k20 b21
    have z21 := b21.size
    replace s1 := s1.on b21
    replace s2 := s2.on b21
    replace r1 := r1.on b21
    replace s5 := s5.on b21
    replace s6 := s6.on b21
    replace r2 := r2.on b21
    go_wp2_with (fail)
    refine (implMac_any pr11 (some ⟨g2', 0, none⟩) 32 k2' cr11 c2' (hashL y1) y2 _ r11.len s2.len r11.bytes s2.bytes (hashL_byte y1) hy2 (keys_below hK k21)).mono ?_
    rintro e w22 ⟨pr12, cr12, rfl, r12, b22⟩
    have k22 : Below w.heap.size w w22 := below_on k21 b22
    have z22 := b22.size
    replace s1 := s1.on b22
    replace s2 := s2.on b22
    replace r1 := r1.on b22
    replace s5 := s5.on b22
    replace s6 := s6.on b22
    replace r2 := r2.on b22
    replace r11 := r11.on b22
    rw [eM1] at r12
    rw [eM2] at r12
    rw [eM1]
    go_wp2_with (fail)
    refine (implSame_any pr12 pr1 (macN k1' k2') (macN k1' k2') cr12 cr1 (macL y1 y2) (macL y1 y2) _ r12.len r1.len r12.bytes r1.bytes).mono ?_
    rintro e w23 ⟨rfl, b23⟩
    have k23 : Below w.heap.size w w23 := below_on k22 b23
    have z23 := b23.size
    replace s1 := s1.on b23
    replace s2 := s2.on b23
    replace r1 := r1.on b23
    replace s5 := s5.on b23
    replace s6 := s6.on b23
    replace r2 := r2.on b23
    replace r11 := r11.on b23
    replace r12 := r12.on b23
    by_cases hok : expOk k5' k6' zz1
    · obtain ⟨hM1, hM2, hm4, hn4⟩ := hok
      obtain ⟨M, rfl⟩ : ∃ M : Nat, zz1 = M := ⟨zz1.toNat, by omega⟩
      have eN : expN k5' k6' (M : Int) = M := expN_is (by omega) (by omega) hm4 hn4
      rw [eN] at r2
      rw [eN]
      obtain ⟨H, hH⟩ : ∃ H, H = M / 2 := ⟨_, rfl⟩
      have eN2 : expN k5' k6' ((1 + H : Nat) : Int) = 1 + H := expN_is (by omega) (by omega) hm4 hn4
      have eL2 : expL y5 y6 ((1 + H : Nat) : Int) = (expL y5 y6 (M : Int)).take (1 + H) := exp_half (by omega) (by omega) (by rw [s6.len]; exact hm4) (by rw [s5.len]; exact hn4) (by omega)
      have CE := implExpand_any (some ⟨g5', 0, none⟩) (some ⟨g6', 0, none⟩) k5' k6' c5' c6' ((1 + H : Nat) : Int) y5 y6 w23 s5.len s6.len s5.bytes s6.bytes hy5 hy6 (keys_below hK k23)
      rw [eN2, eL2, show ((1 + H : Nat) : Int) = 1 + (H : Int) by omega] at CE
      have hq1 : (M : Int).tdiv 2 = (H : Int) := by rw [Int.tdiv_eq_ediv_of_nonneg (by omega)]; omega
      have hq2 : (M : Int) / 2 = (H : Int) := by omega
      have d0 : ((M : Int) == 0) = false := beq_eq_false_iff_ne.2 (by omega)
      have hcap := r2.cap
      have CO := fun X => minOf_le (1 + (H : Int)) (M : Int) X (by omega)
      have i1 : 1 + (H : Int) ≤ (cr2 : Int) := by omega
      have hlH : (expL y5 y6 (M : Int)).length = M := r2.len
      generalize expL y5 y6 (M : Int) = EL at CE r2 hlH
      have hHM : 1 + H ≤ M := by omega
      have htl : (EL.take (1 + H)).length = 1 + H := by rw [List.length_take]; omega
      have htn : (1 + (H : Int)).toNat = 1 + H := by omega
      clear eN eN2 eL2 hH
      go_wp2_with (fail)
      refine CE.mono ?_
      rintro e wx ⟨px, cx, rfl, rx, bx⟩
      clear CE
      replace r2 := r2.on bx
      go_wp2_with (fail)
      refine (CO _).mono ?_
      rintro e wy ⟨rfl, rfl⟩
      have ipx := in_prefix r2.bytes hHM
      go_wp2_with (fail)
      refine (implSame_any px pr2 (1 + H) (1 + H) cx cr2 (EL.take (1 + H)) (EL.take (1 + H)) _ htl htl rx.bytes ipx).mono ?_
      rintro e wz ⟨rfl, bz⟩
      go_wp2_with (fail)
      go_ret
      exact ⟨rfl, below_on (below_on k23 bx) bz⟩
    · have eN : expN k5' k6' zz1 = 0 := if_neg hok
      rw [eN] at r2
      rw [eN]
      clear eN r2
      unfold expOk at hok
      by_cases q0 : zz1 < 1
      · skip
        go_wp2
        go_ret
        exact ⟨rfl, k23⟩
      by_cases q1 : 8160 < zz1
      · have e1 : ¬ zz1 < 1 := by omega
        go_wp2
        go_ret
        exact ⟨rfl, k23⟩
      by_cases q2 : 400 < k5'
      · have e1 : ¬ zz1 < 1 := by omega
        have e2 : ¬ 8160 < zz1 := by omega
        have e3 : (400 : Int) < (k5' : Int) := by omega
        go_wp2
        go_ret
        exact ⟨rfl, k23⟩
      have e1 : ¬ (400 : Int) < (k5' : Int) := by omega
      have e2 : (400 : Int) < (k6' : Int) := by omega
      go_wp2
      go_ret
      exact ⟨rfl, k23⟩

theorem fnMacs_great (p : Option Addr) (n c : Nat) (w : World) (hn : ¬ n ≤ 1048576) : Calls Tryd.prog 4 #[.slice p n c] w fun e w' => e = .returned (.bool true) ∧ Below w.heap.size w w' := by
  go_enter Tryd.func4, Tryd.ntmps4
  go_wp2_with (fail)
  refine (big_great p n c _ hn).mono ?_
  rintro e w1 ⟨rfl, b1⟩
  go_wp2_with (fail)
  go_ret
  exact ⟨rfl, b1⟩

theorem fnMacs_law (p : Option Addr) (n c : Nat) (xs : List Int) (w : World) (hx : xs.length = n) (h : BytesIn w p n xs) (hr : ∀ x ∈ xs, 0 ≤ x ∧ x < 256) (hK : KeysIs w) :
    Calls Tryd.prog 4 #[.slice p n c] w fun e w' => e = .returned (.bool true) ∧ Below w.heap.size w w' := by
  by_cases hn : n ≤ 1048576
  · exact fnMacs_small p n c xs w hn hx h hr hK
  · exact fnMacs_great p n c w hn

end Go.Proofs.YtncaihcfadllbabDoor
