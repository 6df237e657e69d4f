/-
  FnWords returns true for any code, and writes nothing that was there; no condition beyond the law's own (a code of more than 1048576 bytes is passed by).
-/
import Derived.Test.YtafdcfeaedihiaeDraw2
import Derived.Test.YtafdcfeaedihiaeMaths2
import Derived.Test.YtafdcfeaedihiaeTurn
import Derived.Test.YtafdcfeaedihiaeSame
import Derived.Test.YtafdcfeaedihiaeBig
import Derived.Deep.RegionHeld3
namespace Go.Proofs.Ytafdcfeaedihiae
open Go.RowKit

theorem bytesL_range (great : Bool) (ys : List Int) : ∀ x ∈ bytesL great ys, 0 ≤ x ∧ x < 256 := by
  intro x hx
  simp only [bytesL, List.mem_flatMap] at hx
  obtain ⟨y, _, hy⟩ := hx
  have hl : ∀ v : Int, x ∈ littleL v 4 → 0 ≤ x ∧ x < 256 := by
    intro v hv
    simp only [littleL, List.mem_map] at hv
    obtain ⟨i, _, rfl⟩ := hv
    omega
  unfold fourL at hy
  split at hy
  · exact hl _ (List.mem_reverse.1 hy)
  · exact hl _ hy

theorem implWords_back (p : Option Addr) (k c : Nat) (great : Bool) (ys : List Int) (w : World) (hk : k ≤ 1048576) (hc : 4 * k ≤ c) (hy : ys.length = k) (h : BytesIn w p (4 * k) (bytesL great ys)) :
    Calls Try.prog 10 #[.slice p (4 * k) c, .bool great] w fun e w' => ∃ p' c', e = .returned (.slice p' k c') ∧ OwnI 3 w' w.heap.size w'.heap.size (.slice p' k c') k (modL ys) ∧ Below w.heap.size w w' := by
  have h1 := implWords_any p (4 * k) c great (bytesL great ys) w (by omega) hc (by rw [bytesL_length, hy]) h (bytesL_range great ys)
  have e : 4 * k / 4 = k := by omega
  have e2 := words_bytes great ys
  rw [hy] at e2
  rw [e, e2] at h1
  exact h1

set_option maxHeartbeats 8000000 in
theorem fnWords_small (p : Option Addr) (n c : Nat) (xs : List Int) (w : World) (hn : n ≤ 1048576) (hx : xs.length = n) (h : BytesIn w p n xs) (hr : ∀ x ∈ xs, 0 ≤ x ∧ x < 256) :
    Calls Try.prog 3 #[.slice p n c] w fun e w' => e = .returned (.bool true) ∧ Below w.heap.size w w' := by
  go_enter Try.func3, Try.ntmps3
  go_wp2_with (fail)
  refine (big_small p n c _ hn).mono ?_
  rintro e w1 ⟨rfl, b1⟩
  have k1 : Below w.heap.size w w1 := below_on (Below.refl _ _) b1
  have z1 := b1.size
  go_wp2_with (fail)
  refine (drawWord_any p n c xs _ hn hx (in_below h k1) hr).mono ?_
  rintro e w2 ⟨z, rfl, b2⟩
  have k2 : Below w.heap.size w w2 := below_on k1 b2
  have z2 := b2.size
  go_wp2_with (fail)
  refine (drawTurn_any p n c xs _ hn hx (in_below h k2) hr).mono ?_
  rintro e w3 ⟨m, k, rfl, b3⟩
  have k3 : Below w.heap.size w w3 := below_on k2 b3
  have z3 := b3.size
  go_wp2_with (fail)
  refine (drawWords_any p n c xs _ hn hx (in_below h k3) hr).mono ?_
  rintro e w4 ⟨gb, kb, cb, yb, great, rfl, hkb, rb, hyb, b4⟩
  have k4 : Below w.heap.size w w4 := below_on k3 b4
  have z4 := b4.size
  go_wp2_with (fail)
  refine (drawWordBytes_any p n c xs _ hn hx (in_below h k4) hr).mono ?_
  rintro e w5 ⟨gl, kl, cl, yl, too, rfl, hkl, rl, b5⟩
  have k5 : Below w.heap.size w w5 := below_on k4 b5
  have z5 := b5.size
  replace rb := rb.on b5
  go_wp2_with (fail)
  refine (implWords_any (some ⟨gb, 0, none⟩) kb cb great yb _ (by omega) rb.cap rb.len rb.bytes hyb).mono ?_
  rintro e w6 ⟨pr1, cr1, rfl, r1, b6⟩
  have k6 : Below w.heap.size w w6 := below_on k5 b6
  have z6 := b6.size
  replace rb := rb.on b6
  replace rl := rl.on b6
  go_wp2_with (fail)
  refine (implTurn_any m k _).mono ?_
  rintro e w7 ⟨rfl, b7⟩
  have k7 : Below w.heap.size w w7 := below_on k6 b7
  have z7 := b7.size
  replace rb := rb.on b7
  replace rl := rl.on b7
  replace r1 := r1.on b7
  have HT := turnI_back m k
  go_wp2_with (fail)
  refine (implWord_any z _).mono ?_
  rintro e w8 ⟨rfl, b8⟩
  have k8 : Below w.heap.size w w8 := below_on k7 b8
  have z8 := b8.size
  replace rb := rb.on b8
  replace rl := rl.on b8
  replace r1 := r1.on b8
  go_wp2_with (fail)
  refine (specWord_any z _).mono ?_
  rintro e w9 ⟨rfl, b9⟩
  have k9 : Below w.heap.size w w9 := below_on k8 b9
  have z9 := b9.size
  replace rb := rb.on b9
  replace rl := rl.on b9
  replace r1 := r1.on b9
  go_wp2_with (fail)
  refine (specTurn_any m k _).mono ?_
  rintro e w10 ⟨rfl, b10⟩
  have k10 : Below w.heap.size w w10 := below_on k9 b10
  have z10 := b10.size
  replace rb := rb.on b10
  replace rl := rl.on b10
  replace r1 := r1.on b10
  go_wp2_with (fail)
  refine (specWords_any (some ⟨gb, 0, none⟩) kb cb great yb _ (by omega) rb.len rb.bytes hyb).mono ?_
  rintro e w11 ⟨pr2, cr2, rfl, r2, b11⟩
  have k11 : Below w.heap.size w w11 := below_on k10 b11
  have z11 := b11.size
  replace rb := rb.on b11
  replace rl := rl.on b11
  replace r1 := r1.on b11
  go_wp2_with (fail)
  refine (sameInts_any pr1 pr2 (kb / 4) (kb / 4) cr1 cr2 (wordsL great yb (kb / 4)) (wordsL great yb (kb / 4)) _ (by omega) r1.len r2.len r1.ints r2.ints).mono ?_
  rintro e w12 ⟨rfl, b12⟩
  have k12 : Below w.heap.size w w12 := below_on k11 b12
  have z12 := b12.size
  replace rb := rb.on b12
  replace rl := rl.on b12
  replace r1 := r1.on b12
  replace r2 := r2.on b12
  clear r2
  go_wp2_with (fail)
  refine (implWordBytes_any (some ⟨gl, 0, none⟩) kl cl too yl _ (by omega) rl.len rl.ints).mono ?_
  rintro e w13 ⟨pr3, cr3, rfl, r3, b13⟩
  have k13 : Below w.heap.size w w13 := below_on k12 b13
  have z13 := b13.size
  replace rb := rb.on b13
  replace rl := rl.on b13
  replace r1 := r1.on b13
  go_wp2_with (fail)
  refine (specWordBytes_any (some ⟨gl, 0, none⟩) kl cl too yl _ (by omega) rl.len rl.ints).mono ?_
  rintro e w14 ⟨pr4, cr4, rfl, r4, b14⟩
  have k14 : Below w.heap.size w w14 := below_on k13 b14
  have z14 := b14.size
  replace rb := rb.on b14
  replace rl := rl.on b14
  replace r1 := r1.on b14
  replace r3 := r3.on b14
  go_wp2_with (fail)
  refine (implSame_any pr3 pr4 (4 * kl) (4 * kl) cr3 cr4 (bytesL too yl) (bytesL too yl) _ r3.len r4.len r3.bytes r4.bytes).mono ?_
  rintro e w15 ⟨rfl, b15⟩
  have k15 : Below w.heap.size w w15 := below_on k14 b15
  have z15 := b15.size
  replace rb := rb.on b15
  replace rl := rl.on b15
  replace r1 := r1.on b15
  replace r3 := r3.on b15
  replace r4 := r4.on b15
  clear r3 r4
  go_wp2_with (fail)
  refine (implWordBytes_any pr1 (kb / 4) cr1 great (wordsL great yb (kb / 4)) _ (by omega) r1.len r1.ints).mono ?_
  rintro e w16 ⟨pr5, cr5, rfl, r5, b16⟩
  have k16 : Below w.heap.size w w16 := below_on k15 b16
  have z16 := b16.size
  replace rb := rb.on b16
  replace rl := rl.on b16
  replace r1 := r1.on b16
  have HB := bytes_words great yb hyb (kb / 4) (by rw [rb.len]; omega)
  rw [HB] at r5
  have hcap := rb.cap
  have hS : 0 ≤ (kb : Int) / 4 * 4 ∧ (kb : Int) / 4 * 4 ≤ (cb : Int) := by omega
  have hE : ((kb : Int) / 4 * 4).toNat = 4 * (kb / 4) := by omega
  have hm31 := i64_mask31 k
  have hk0 : 0 ≤ k % 32 ∧ k % 32 < 32 := by omega
  generalize k % 32 = q at hm31 hk0 HT
  have hlen : (yb.take (4 * (kb / 4))).length = 4 * (kb / 4) := by rw [List.length_take, rb.len]; omega
  clear HB
  go_wp2_with (fail)
  refine (implSame_any pr5 (some ⟨gb, 0, none⟩) (4 * (kb / 4)) (4 * (kb / 4)) cr5 cb (yb.take (4 * (kb / 4))) (yb.take (4 * (kb / 4))) _ r5.len hlen r5.bytes (in_prefix rb.bytes (by omega))).mono ?_
  rintro e w17 ⟨rfl, b17⟩
  have k17 : Below w.heap.size w w17 := below_on k16 b17
  have z17 := b17.size
  replace rb := rb.on b17
  replace rl := rl.on b17
  replace r1 := r1.on b17
  replace r5 := r5.on b17
  go_wp2_with (fail)
  refine (implTurn_any (turnI m k) (32 - q) _).mono ?_
  rintro e w18 ⟨rfl, b18⟩
  have k18 : Below w.heap.size w w18 := below_on k17 b18
  have z18 := b18.size
  replace rb := rb.on b18
  replace rl := rl.on b18
  replace r1 := r1.on b18
  replace r5 := r5.on b18
  rw [HT]
  go_wp2_with (fail)
  refine (implWord_any m _).mono ?_
  rintro e w19 ⟨rfl, b19⟩
  have k19 : Below w.heap.size w w19 := below_on k18 b19
  have z19 := b19.size
  replace rb := rb.on b19
  replace rl := rl.on b19
  replace r1 := r1.on b19
  replace r5 := r5.on b19
  go_wp2_with (fail)
  refine (implWordBytes_any (some ⟨gl, 0, none⟩) kl cl too yl _ (by omega) rl.len rl.ints).mono ?_
  rintro e w20 ⟨pr6, cr6, rfl, r6, b20⟩
  have k20 : Below w.heap.size w w20 := below_on k19 b20
  have z20 := b20.size
  replace rb := rb.on b20
  replace rl := rl.on b20
  replace r1 := r1.on b20
  replace r5 := r5.on b20
  go_wp2_with (fail)
  refine (implWords_back pr6 kl cr6 too yl _ (by omega) r6.cap rl.len r6.bytes).mono ?_
  rintro e w21 ⟨pr7, cr7, rfl, r7, b21⟩
  have k21 : Below w.heap.size w w21 := below_on k20 b21
  have z21 := b21.size
  replace rb := rb.on b21
  replace rl := rl.on b21
  replace r1 := r1.on b21
  replace r5 := r5.on b21
  replace r6 := r6.on b21
  go_wp2_with (fail)
  refine (words_any (some ⟨gl, 0, none⟩) kl cl yl _ (by omega) rl.len rl.ints).mono ?_
  rintro e w22 ⟨pr8, cr8, rfl, r8, b22⟩
  have k22 : Below w.heap.size w w22 := below_on k21 b22
  have z22 := b22.size
  replace rb := rb.on b22
  replace rl := rl.on b22
  replace r1 := r1.on b22
  replace r5 := r5.on b22
  replace r6 := r6.on b22
  replace r7 := r7.on b22
  go_wp2_with (fail)
  refine (sameInts_any pr7 pr8 kl kl cr7 cr8 (modL yl) (modL yl) _ (by omega) r7.len r8.len r7.ints r8.ints).mono ?_
  rintro e w23 ⟨rfl, b23⟩
  have k23 : Below w.heap.size w w23 := below_on k22 b23
  have z23 := b23.size
  replace rb := rb.on b23
  replace rl := rl.on b23
  replace r1 := r1.on b23
  replace r5 := r5.on b23
  replace r6 := r6.on b23
  replace r7 := r7.on b23
  replace r8 := r8.on b23
  go_wp2_with (fail)
  go_ret
  exact ⟨rfl, k23⟩

theorem fnWords_great (p : Option Addr) (n c : Nat) (w : World) (hn : ¬ n ≤ 1048576) : Calls Try.prog 3 #[.slice p n c] w fun e w' => e = .returned (.bool true) ∧ Below w.heap.size w w' := by
  go_enter Try.func3, Try.ntmps3
  go_wp2_with (fail)
  refine (big_great p n c _ hn).mono ?_
  rintro e w1 ⟨rfl, b1⟩
  go_wp2_with (fail)
  go_ret
  exact ⟨rfl, b1⟩

end Go.Proofs.Ytafdcfeaedihiae
