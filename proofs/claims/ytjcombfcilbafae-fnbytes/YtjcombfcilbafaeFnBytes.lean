/-
  FnBytes returns true for any code, and writes nothing that was there; no condition beyond the law's own (a code of more than 1048576 bytes is passed by).
-/
import Derived.Test.YtjcombfcilbafaeMaths1
import Derived.Test.YtjcombfcilbafaeDraw1
import Derived.Test.YtjcombfcilbafaeSame
import Derived.Test.YtjcombfcilbafaeGreat
import Derived.Deep.RegionHeld3
namespace Go.Proofs.Ytjcombfcilbafae
open Go.RowKit

theorem big_small (p : Option Addr) (n c : Nat) (w : World) (hn : n ≤ 1048576) : Calls Try.prog 4 #[.slice p n c] w fun e w' => e = .returned (.bool false) ∧ Below w.heap.size w w' := by
  have hd : decide ((1048576 : Int) < (n : Int)) = false := by simp; omega
  go_enter Try.func4, Try.ntmps4
  go_wp2
  go_ret
  refine ⟨?_, Below.refl _ _⟩
  first | rfl | (congr 2)

theorem owns_cap {w : World} {base e size : Nat} {p : Option Addr} {n c : Nat} {xs : List Value} (h : w.ownsRow base e size (.slice p n c) n xs) : n ≤ c := by
  rcases h.2 with ⟨hv, rfl⟩ | ⟨g, cap, cur, hv, _, _, hnc, _⟩
  · exact Nat.zero_le _
  · simp only [Value.slice.injEq] at hv
    omega

theorem in_prefix {w : World} {p : Option Addr} {n m : Nat} {xs : List Int} (h : BytesIn w p n xs) (hm : m ≤ n) : BytesIn w p m (xs.take m) := by
  intro h0
  obtain ⟨b, o, rfl, hc⟩ := h (by omega)
  refine ⟨b, o, rfl, fun i hi => ?_⟩
  rw [hc i (by omega)]
  simp [hi]

theorem implUnhexB (yb : List Int) (kb : Nat) (hyb : ∀ y ∈ yb, 0 ≤ y ∧ y < 256) (hl : yb.length = kb) (hk : 2 * kb ≤ 1048576) (w : World) :
    Calls Try.prog 8 #[.string (strOfNums (hexL yb))] w fun e w' => ∃ p c, e = .returned (.tuple #[.slice p kb c, .bool true]) ∧ Own 5 w' w.heap.size w'.heap.size (.slice p kb c) kb yb ∧ Below w.heap.size w w' := by
  have C := implUnhex_any (strOfNums (hexL yb)) w (by rw [strOfNums_size, hexL_length, hl]; exact hk)
  rw [hex_unN hyb, hex_unL hyb, hex_good hyb, hl] at C
  exact C

theorem implXorB (p q : Option Addr) (n m c d : Nat) (xs ys : List Int) (w : World) (hn : n ≤ 1048576) (hm : m ≤ 1048576) (hx : xs.length = n) (hy : ys.length = m) (h : BytesIn w p n xs) (h' : BytesIn w q m ys) (N : Nat) (L : List Int) (hN : min n m = N) (hL : xorL xs ys = L) :
    Calls Try.prog 11 #[.slice p n c, .slice q m d] w fun e w' => ∃ p' c', e = .returned (.slice p' N c') ∧ Own 5 w' w.heap.size w'.heap.size (.slice p' N c') N L ∧ Below w.heap.size w w' := by
  subst hN hL
  exact implXor_own p q n m c d xs ys w hn hm hx hy h h'

theorem specXorB (p q : Option Addr) (n m c d : Nat) (xs ys : List Int) (w : World) (hn : n ≤ 1048576) (hm : m ≤ 1048576) (hx : xs.length = n) (hy : ys.length = m) (h : BytesIn w p n xs) (h' : BytesIn w q m ys) (N : Nat) (L : List Int) (hN : min n m = N) (hL : xorL xs ys = L) :
    Calls Try.prog 17 #[.slice p n c, .slice q m d] w fun e w' => ∃ p' c', e = .returned (.slice p' N c') ∧ Own 5 w' w.heap.size w'.heap.size (.slice p' N c') N L ∧ Below w.heap.size w w' := by
  subst hN hL
  exact specXor_own p q n m c d xs ys w hn hm hx hy h h'

set_option maxHeartbeats 8000000 in
theorem fnBytes_small (p : Option Addr) (n c : Nat) (xs : List Int) (w : World) (hn : n ≤ 1048576) (hx : xs.length = n) (h : BytesIn w p n xs) (hr : ∀ x ∈ xs, 0 ≤ x ∧ x < 256) :
    Calls Try.prog 3 #[.slice p n c] w fun e w' => e = .returned (.bool true) ∧ Below w.heap.size w w' := by
  go_enter Try.func3, Try.ntmps3
  go_wp2_with (fail)
  refine (big_small p n c _ hn).mono ?_
  rintro e w1 ⟨rfl, b1⟩
  have k1 : Below w.heap.size w w1 := below_on (Below.refl _ _) b1
  have z1 := b1.size
  go_wp2_with (fail)
  refine (drawHex_any p n c xs _ hn hx (in_below h k1) hr).mono ?_
  rintro e w2 ⟨gb, kb, cb, yb, rfl, hkb, rb, hyb, b2⟩
  have k2 : Below w.heap.size w w2 := below_on k1 b2
  have z2 := b2.size
  go_wp2_with (fail)
  refine (implHex_any (some ⟨gb, 0, none⟩) kb cb yb _ (by omega) rb.len rb.bytes hyb).mono ?_
  rintro e w3 ⟨rfl, b3⟩
  have k3 : Below w.heap.size w w3 := below_on k2 b3
  have z3 := b3.size
  replace rb := rb.on b3
  go_wp2_with (fail)
  refine (drawUnhex_any p n c xs _ hn hx (in_below h k3) hr).mono ?_
  rintro e w4 ⟨s, rfl, hs, b4⟩
  have k4 : Below w.heap.size w w4 := below_on k3 b4
  have z4 := b4.size
  replace rb := rb.on b4
  have hun : unN s ≤ 100 := by unfold unN; split <;> omega
  go_wp2_with (fail)
  refine (implUnhex_any s _ (by omega)).mono ?_
  rintro e w5 ⟨pr1, cr1, rfl, r1, b5⟩
  have k5 : Below w.heap.size w w5 := below_on k4 b5
  have z5 := b5.size
  replace rb := rb.on b5
  go_wp2_with (fail)
  refine (specUnhex_any s _ (by omega)).mono ?_
  rintro e w6 ⟨pr2, cr2, rfl, r2, b6⟩
  have k6 : Below w.heap.size w w6 := below_on k5 b6
  have z6 := b6.size
  replace rb := rb.on b6
  replace r1 := r1.on b6
  go_wp2_with (fail)
  refine (drawXor_any p n c xs _ hn hx (in_below h k6) hr).mono ?_
  rintro e w7 ⟨px, kx, cx, yx, py, ky, cy, yy, rfl, hkx, hky, rx, hyx, ry, hyy, b7⟩
  have k7 : Below w.heap.size w w7 := below_on k6 b7
  have z7 := b7.size
  replace rb := rb.on b7
  replace r1 := r1.on b7
  replace r2 := r2.on b7
  obtain ⟨M, hM⟩ : ∃ M, min kx ky = M := ⟨_, rfl⟩
  obtain ⟨Z, hZ⟩ : ∃ Z, xorL yx yy = Z := ⟨_, rfl⟩
  have hM1 : M ≤ kx := by omega
  have hM2 : M ≤ ky := by omega
  have HX : Hid (xorL Z yy = yx.take M) := by rw [← hZ, ← hM, ← rx.len, ← ry.len]; exact xorL_twice hyx hyy
  have hM' : Hid (min kx ky = M) := hM
  have hZ' : Hid (xorL yx yy = Z) := hZ
  clear hM hZ
  go_wp2_with (fail)
  refine (implXorB px py kx ky cx cy yx yy _ (by omega) (by omega) rx.len ry.len rx.bytes ry.bytes M Z hM'.out hZ'.out).mono ?_
  rintro e w8 ⟨pr3, cr3, rfl, r3, b8⟩
  have k8 : Below w.heap.size w w8 := below_on k7 b8
  have z8 := b8.size
  replace rb := rb.on b8
  replace r1 := r1.on b8
  replace r2 := r2.on b8
  replace rx := rx.on b8
  replace ry := ry.on b8
  go_wp2_with (fail)
  refine (drawSame_any p n c xs _ hn hx (in_below h k8) hr).mono ?_
  rintro e w9 ⟨pp, kp, cp, yp, pq, kq, cq, yq, rfl, hkp, hkq, rp, hyp, rq, hyq, b9⟩
  have k9 : Below w.heap.size w w9 := below_on k8 b9
  have z9 := b9.size
  replace rb := rb.on b9
  replace r1 := r1.on b9
  replace r2 := r2.on b9
  replace rx := rx.on b9
  replace ry := ry.on b9
  replace r3 := r3.on b9
  go_wp2_with (fail)
  refine (drawLittle_any p n c xs _ hn hx (in_below h k9) hr).mono ?_
  rintro e w10 ⟨nl, ml, rfl, h63, b10⟩
  have k10 : Below w.heap.size w w10 := below_on k9 b10
  have z10 := b10.size
  replace rb := rb.on b10
  replace r1 := r1.on b10
  replace r2 := r2.on b10
  replace rx := rx.on b10
  replace ry := ry.on b10
  replace r3 := r3.on b10
  replace rp := rp.on b10
  replace rq := rq.on b10
  go_wp2_with (fail)
  refine (drawGreat_any p n c xs _ hn hx (in_below h k10) hr).mono ?_
  rintro e w11 ⟨ng, mg, rfl, h63', b11⟩
  have k11 : Below w.heap.size w w11 := below_on k10 b11
  have z11 := b11.size
  replace rb := rb.on b11
  replace r1 := r1.on b11
  replace r2 := r2.on b11
  replace rx := rx.on b11
  replace ry := ry.on b11
  replace r3 := r3.on b11
  replace rp := rp.on b11
  replace rq := rq.on b11
  have hfl := fitN_le nl ml
  have hfg := fitN_le ng mg
  go_wp2_with (fail)
  refine (specHex_any (some ⟨gb, 0, none⟩) kb cb yb _ (by omega) rb.len rb.bytes hyb).mono ?_
  rintro e w12 ⟨rfl, b12⟩
  have k12 : Below w.heap.size w w12 := below_on k11 b12
  have z12 := b12.size
  replace rb := rb.on b12
  replace r1 := r1.on b12
  replace r2 := r2.on b12
  replace rx := rx.on b12
  replace ry := ry.on b12
  replace r3 := r3.on b12
  replace rp := rp.on b12
  replace rq := rq.on b12
  go_wp2_with (fail)
  refine (implSame_any pr1 pr2 (unN s) (unN s) cr1 cr2 (unL s) (unL s) _ r1.len r2.len r1.bytes r2.bytes).mono ?_
  rintro e w13 ⟨rfl, b13⟩
  have k13 : Below w.heap.size w w13 := below_on k12 b13
  have z13 := b13.size
  replace rb := rb.on b13
  replace r1 := r1.on b13
  replace r2 := r2.on b13
  replace rx := rx.on b13
  replace ry := ry.on b13
  replace r3 := r3.on b13
  replace rp := rp.on b13
  replace rq := rq.on b13
  go_wp2_with (fail)
  refine (specXorB px py kx ky cx cy yx yy _ (by omega) (by omega) rx.len ry.len rx.bytes ry.bytes M Z hM'.out hZ'.out).mono ?_
  rintro e w14 ⟨pr4, cr4, rfl, r4, b14⟩
  have k14 : Below w.heap.size w w14 := below_on k13 b14
  have z14 := b14.size
  replace rb := rb.on b14
  replace r1 := r1.on b14
  replace r2 := r2.on b14
  replace rx := rx.on b14
  replace ry := ry.on b14
  replace r3 := r3.on b14
  replace rp := rp.on b14
  replace rq := rq.on b14
  go_wp2_with (fail)
  refine (implSame_any pr3 pr4 M M cr3 cr4 Z Z _ r3.len r4.len r3.bytes r4.bytes).mono ?_
  rintro e w15 ⟨rfl, b15⟩
  have k15 : Below w.heap.size w w15 := below_on k14 b15
  have z15 := b15.size
  replace rb := rb.on b15
  replace r1 := r1.on b15
  replace r2 := r2.on b15
  replace rx := rx.on b15
  replace ry := ry.on b15
  replace r3 := r3.on b15
  replace rp := rp.on b15
  replace rq := rq.on b15
  replace r4 := r4.on b15
  clear r4
  go_wp2_with (fail)
  refine (implSame_any pp pq kp kq cp cq yp yq _ rp.len rq.len rp.bytes rq.bytes).mono ?_
  rintro e w16 ⟨rfl, b16⟩
  have k16 : Below w.heap.size w w16 := below_on k15 b16
  have z16 := b16.size
  replace rb := rb.on b16
  replace r1 := r1.on b16
  replace r2 := r2.on b16
  replace rx := rx.on b16
  replace ry := ry.on b16
  replace r3 := r3.on b16
  replace rp := rp.on b16
  replace rq := rq.on b16
  go_wp2_with (fail)
  refine (specSame_any pp pq kp kq cp cq yp yq _ rp.len rq.len rp.bytes rq.bytes).mono ?_
  rintro e w17 ⟨rfl, b17⟩
  have k17 : Below w.heap.size w w17 := below_on k16 b17
  have z17 := b17.size
  replace rb := rb.on b17
  replace r1 := r1.on b17
  replace r2 := r2.on b17
  replace rx := rx.on b17
  replace ry := ry.on b17
  replace r3 := r3.on b17
  replace rp := rp.on b17
  replace rq := rq.on b17
  clear rp rq
  go_wp2_with (fail)
  refine (implLittle_any nl ml _ h63).mono ?_
  rintro e w18 ⟨pr5, cr5, rfl, r5, b18⟩
  have k18 : Below w.heap.size w w18 := below_on k17 b18
  have z18 := b18.size
  replace rb := rb.on b18
  replace r1 := r1.on b18
  replace r2 := r2.on b18
  replace rx := rx.on b18
  replace ry := ry.on b18
  replace r3 := r3.on b18
  go_wp2_with (fail)
  refine (specLittle_any nl ml _ h63).mono ?_
  rintro e w19 ⟨pr6, cr6, rfl, r6, b19⟩
  have k19 : Below w.heap.size w w19 := below_on k18 b19
  have z19 := b19.size
  replace rb := rb.on b19
  replace r1 := r1.on b19
  replace r2 := r2.on b19
  replace rx := rx.on b19
  replace ry := ry.on b19
  replace r3 := r3.on b19
  replace r5 := r5.on b19
  go_wp2_with (fail)
  refine (implSame_any pr5 pr6 (fitN nl ml) (fitN nl ml) cr5 cr6 (fitL nl ml) (fitL nl ml) _ r5.len r6.len r5.bytes r6.bytes).mono ?_
  rintro e w20 ⟨rfl, b20⟩
  have k20 : Below w.heap.size w w20 := below_on k19 b20
  have z20 := b20.size
  replace rb := rb.on b20
  replace r1 := r1.on b20
  replace r2 := r2.on b20
  replace rx := rx.on b20
  replace ry := ry.on b20
  replace r3 := r3.on b20
  replace r5 := r5.on b20
  replace r6 := r6.on b20
  clear r5 r6
  go_wp2_with (fail)
  refine (implGreat_any ng mg _ h63').mono ?_
  rintro e w21 ⟨pr7, cr7, rfl, r7, b21⟩
  have k21 : Below w.heap.size w w21 := below_on k20 b21
  have z21 := b21.size
  replace rb := rb.on b21
  replace r1 := r1.on b21
  replace r2 := r2.on b21
  replace rx := rx.on b21
  replace ry := ry.on b21
  replace r3 := r3.on b21
  go_wp2_with (fail)
  refine (specGreat_any ng mg _ h63').mono ?_
  rintro e w22 ⟨pr8, cr8, rfl, r8, b22⟩
  have k22 : Below w.heap.size w w22 := below_on k21 b22
  have z22 := b22.size
  replace rb := rb.on b22
  replace r1 := r1.on b22
  replace r2 := r2.on b22
  replace rx := rx.on b22
  replace ry := ry.on b22
  replace r3 := r3.on b22
  replace r7 := r7.on b22
  go_wp2_with (fail)
  refine (implSame_any pr7 pr8 (fitN ng mg) (fitN ng mg) cr7 cr8 (fitL ng mg).reverse (fitL ng mg).reverse _ r7.len r8.len r7.bytes r8.bytes).mono ?_
  rintro e w23 ⟨rfl, b23⟩
  have k23 : Below w.heap.size w w23 := below_on k22 b23
  have z23 := b23.size
  replace rb := rb.on b23
  replace r1 := r1.on b23
  replace r2 := r2.on b23
  replace rx := rx.on b23
  replace ry := ry.on b23
  replace r3 := r3.on b23
  replace r7 := r7.on b23
  replace r8 := r8.on b23
  clear r7 r8
  have hsz : (strOfNums (hexL yb)).size = 2 * kb := by rw [strOfNums_size, hexL_length, rb.len]
  have HU : Hid (unN (strOfNums (hexL yb)) = kb) := by rw [← rb.len]; exact hex_unN hyb
  have HL : Hid (unL (strOfNums (hexL yb)) = yb) := hex_unL hyb
  have hgb : goodB (strOfNums (hexL yb)) = true := hex_good hyb
  have hcx : kx ≤ cx := owns_cap rx.1
  by_cases hG : goodB s = true
  · have hH : strOfNums (hexL (unL s)) = s := unhex_hex hG
    go_wp2_with (fail)
    refine (implHex_any pr1 (unN s) cr1 (unL s) _ (by omega) r1.len r1.bytes good_bytes).mono ?_
    rintro e w24 ⟨rfl, b24⟩
    have k24 : Below w.heap.size w w24 := below_on k23 b24
    have z24 := b24.size
    replace rb := rb.on b24
    replace r1 := r1.on b24
    replace r2 := r2.on b24
    replace rx := rx.on b24
    replace ry := ry.on b24
    replace r3 := r3.on b24
    have hC := implUnhexB yb kb hyb rb.len (by omega)
    go_wp2_with (fail)
    refine (hC _).mono ?_
    rintro e w25 ⟨pr9, cr9, rfl, r9, b25⟩
    have k25 : Below w.heap.size w w25 := below_on k24 b25
    have z25 := b25.size
    replace rb := rb.on b25
    replace r1 := r1.on b25
    replace r2 := r2.on b25
    replace rx := rx.on b25
    replace ry := ry.on b25
    replace r3 := r3.on b25
    go_wp2_with (fail)
    have d25 : Below w.heap.size w w25.drew := k25.drew
    have sk : Own 5 w25.drew w24.heap.size w25.heap.size (.slice pr9 kb cr9) kb yb := r9
    have sb : Own 5 w25.drew w1.heap.size w2.heap.size (.slice (some ⟨gb, 0, none⟩) kb cb) kb yb := rb
    have sz : Own 5 w25.drew w7.heap.size w8.heap.size (.slice pr3 M cr3) M Z := r3
    have sx : Own 5 w25.drew w6.heap.size w7.heap.size (.slice px kx cx) kx yx := rx
    have sy : Own 5 w25.drew w6.heap.size w7.heap.size (.slice py ky cy) ky yy := ry
    have q0 : (0 : Int) ≤ (M : Int) := by omega
    have q1 : (M : Int) ≤ (cx : Int) := by omega
    have hMx : M ≤ kx := hM1
    have m1 : M ≤ 1048576 := by omega
    have m2 : ky ≤ 1048576 := by omega
    have m3 : min M ky = M := by omega
    have m3' : Hid (min M ky = M) := m3
    have hxl : (yx.take M).length = M := by have := sx.len; simp; omega
    clear m3 rb r1 r2 rx ry r3 r9 k1 z1 b1 k2 z2 b2 k3 z3 b3 k4 z4 b4 k5 z5 b5 k6 z6 b6 k7 z7 b7 k8 z8 b8 k9 z9 b9 k10 z10 b10 k11 z11 b11 k12 z12 b12 k13 z13 b13 k14 z14 b14 k15 z15 b15 k16 z16 b16 k17 z17 b17 k18 z18 b18 k19 z19 b19 k20 z20 b20 k21 z21 b21 k22 z22 b22 k23 z23 b23 k24 z24 b24 k25 z25 b25 hcx hM1 hM2 hfl hfg hsz HU HL hgb hkb hs hun hkx hky hkp hkq h63 h63' hM' hZ' hn hx h hr hyb hyx hyy hyp hyq hC hG hH
    go_region_held3 (fun _ => True) (trivial) (first | (go_at_call 16; refine (implSame_any pr9 (some ⟨gb, 0, none⟩) kb kb cr9 cb yb yb _ sk.len sb.len sk.bytes sb.bytes).mono ?_; rintro e wa ⟨rfl, ba⟩) | (go_at_call 11; refine (implXorB pr3 py M ky cr3 cy Z yy _ m1 m2 sz.len sy.len (sz.on ba).bytes (sy.on ba).bytes M (yx.take M) m3'.out HX.out).mono ?_; rintro e wb ⟨pw, cw, rfl, rw, bb⟩) | (go_at_call 16; refine (implSame_any pw px M M cw cx (yx.take M) (yx.take M) _ rw.len hxl rw.bytes (in_prefix ((sx.on ba).on bb).bytes hMx)).mono ?_; rintro e wc ⟨rfl, bc⟩))
    all_goals
      go_wp2_with (fail)
      go_ret
      exact ⟨rfl, below_on (below_on (below_on d25 ba) bb) bc⟩
  · have hC := implUnhexB yb kb hyb rb.len (by omega)
    go_wp2_with (fail)
    refine (hC _).mono ?_
    rintro e w24 ⟨pr9, cr9, rfl, r9, b24⟩
    have k24 : Below w.heap.size w w24 := below_on k23 b24
    have z24 := b24.size
    replace rb := rb.on b24
    replace r1 := r1.on b24
    replace r2 := r2.on b24
    replace rx := rx.on b24
    replace ry := ry.on b24
    replace r3 := r3.on b24
    go_wp2_with (fail)
    have d24 : Below w.heap.size w w24.drew := k24.drew
    have sk : Own 5 w24.drew w23.heap.size w24.heap.size (.slice pr9 kb cr9) kb yb := r9
    have sb : Own 5 w24.drew w1.heap.size w2.heap.size (.slice (some ⟨gb, 0, none⟩) kb cb) kb yb := rb
    have sz : Own 5 w24.drew w7.heap.size w8.heap.size (.slice pr3 M cr3) M Z := r3
    have sx : Own 5 w24.drew w6.heap.size w7.heap.size (.slice px kx cx) kx yx := rx
    have sy : Own 5 w24.drew w6.heap.size w7.heap.size (.slice py ky cy) ky yy := ry
    have q0 : (0 : Int) ≤ (M : Int) := by omega
    have q1 : (M : Int) ≤ (cx : Int) := by omega
    have hMx : M ≤ kx := hM1
    have m1 : M ≤ 1048576 := by omega
    have m2 : ky ≤ 1048576 := by omega
    have m3 : min M ky = M := by omega
    have m3' : Hid (min M ky = M) := m3
    have hxl : (yx.take M).length = M := by have := sx.len; simp; omega
    clear m3 rb r1 r2 rx ry r3 r9 k1 z1 b1 k2 z2 b2 k3 z3 b3 k4 z4 b4 k5 z5 b5 k6 z6 b6 k7 z7 b7 k8 z8 b8 k9 z9 b9 k10 z10 b10 k11 z11 b11 k12 z12 b12 k13 z13 b13 k14 z14 b14 k15 z15 b15 k16 z16 b16 k17 z17 b17 k18 z18 b18 k19 z19 b19 k20 z20 b20 k21 z21 b21 k22 z22 b22 k23 z23 b23 k24 z24 b24 hcx hM1 hM2 hfl hfg hsz HU HL hgb hkb hs hun hkx hky hkp hkq h63 h63' hM' hZ' hn hx h hr hyb hyx hyy hyp hyq hC hG
    go_region_held3 (fun _ => True) (trivial) (first | (go_at_call 16; refine (implSame_any pr9 (some ⟨gb, 0, none⟩) kb kb cr9 cb yb yb _ sk.len sb.len sk.bytes sb.bytes).mono ?_; rintro e wa ⟨rfl, ba⟩) | (go_at_call 11; refine (implXorB pr3 py M ky cr3 cy Z yy _ m1 m2 sz.len sy.len (sz.on ba).bytes (sy.on ba).bytes M (yx.take M) m3'.out HX.out).mono ?_; rintro e wb ⟨pw, cw, rfl, rw, bb⟩) | (go_at_call 16; refine (implSame_any pw px M M cw cx (yx.take M) (yx.take M) _ rw.len hxl rw.bytes (in_prefix ((sx.on ba).on bb).bytes hMx)).mono ?_; rintro e wc ⟨rfl, bc⟩))
    all_goals
      go_wp2_with (fail)
      go_ret
      exact ⟨rfl, below_on (below_on (below_on d24 ba) bb) bc⟩

theorem big_great (p : Option Addr) (n c : Nat) (w : World) (hn : ¬ n ≤ 1048576) : Calls Try.prog 4 #[.slice p n c] w fun e w' => e = .returned (.bool true) ∧ Below w.heap.size w w' := by
  have hd : (1048576 : Int) < (n : Int) := by omega
  go_enter Try.func4, Try.ntmps4
  go_wp2
  go_ret
  exact ⟨by simp, Below.refl _ _⟩

theorem fnBytes_great (p : Option Addr) (n c : Nat) (w : World) (hn : ¬ n ≤ 1048576) : Calls Try.prog 3 #[.slice p n c] w fun e w' => e = .returned (.bool true) ∧ Below w.heap.size w w' := by
  go_enter Try.func3, Try.ntmps3
  go_wp2_with (fail)
  refine (big_great p n c _ hn).mono ?_
  rintro e w1 ⟨rfl, b1⟩
  go_wp2_with (fail)
  go_ret
  exact ⟨rfl, b1⟩

end Go.Proofs.Ytjcombfcilbafae
