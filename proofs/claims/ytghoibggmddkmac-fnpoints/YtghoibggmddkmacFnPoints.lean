/-
  FnPoints returns true for any code, and writes nothing that was there; condition: bytes all.
-/
import Derived.Test.YtghoibggmddkmacPtFacts
import Derived.Test.YtghoibggmddkmacDraw9
import Derived.Test.YtghoibggmddkmacSame
import Derived.Test.YtghoibggmddkmacBig
namespace Go.Proofs.Ytghoibggmddkmac
open Go.RowKit

set_option maxRecDepth 100000 in
set_option maxHeartbeats 16000000 in
theorem fnPoints_small (p : Option Addr) (n c : Nat) (xs : List Int) (w : World) (hn : n ≤ 1048576) (hx : xs.length = n) (h : BytesIn w p n xs) (hb : ∀ x ∈ xs, 0 ≤ x ∧ x < 256) :
    Calls Try.prog 7 #[.slice p n c] w fun e w' => e = .returned (.bool true) ∧ Below w.heap.size w w' := by
  go_enter Try.func7, Try.ntmps7
  go_wp2_with (fail)
  refine (big_small p n c _ hn).mono ?_
  rintro e w1 ⟨rfl, b1⟩
  have k1 : Below w.heap.size w w1 := below_on (Below.refl _ _) b1
  have z1 := b1.size
  go_wp2_with (fail)
  refine (dPoint p n c xs _ hn hx (in_below h k1) hb).mono ?_
  rintro e w2 ⟨ga, ka, ca, ya, gb, kb, cb, yb, rfl, ⟨hka, hkb, hya, hyb⟩, ra, rb, b2⟩
  have k2 : Below w.heap.size w w2 := below_on k1 b2
  have z2 := b2.size
  go_wp2_with (fail)
  refine (implPoint_any (some ⟨ga, 0, none⟩) (some ⟨gb, 0, none⟩) ka kb ca cb ya yb _ ra.len ra.bytes rb.bytes hya hyb rb.cap).mono ?_
  rintro e w3 ⟨pr1, cr1, rfl, r1, b3⟩
  have k3 : Below w.heap.size w w3 := below_on k2 b3
  have z3 := b3.size
  replace ra := ra.on b3
  replace rb := rb.on b3
  go_wp2_with (fail)
  refine (dClamp p n c xs _ hn hx (in_below h k3) hb).mono ?_
  rintro e w4 ⟨gc, kc, cc, yc, rfl, ⟨hkc, hyc⟩, rc, b4⟩
  have k4 : Below w.heap.size w w4 := below_on k3 b4
  have z4 := b4.size
  replace ra := ra.on b4
  replace rb := rb.on b4
  replace r1 := r1.on b4
  go_wp2_with (fail)
  refine (dPublic p n c xs _ hn hx (in_below h k4) hb).mono ?_
  rintro e w5 ⟨gq, kq, cq, yq, rfl, ⟨hkq, hyq⟩, rq, b5⟩
  have k5 : Below w.heap.size w w5 := below_on k4 b5
  have z5 := b5.size
  replace ra := ra.on b5
  replace rb := rb.on b5
  replace r1 := r1.on b5
  replace rc := rc.on b5
  go_wp2_with (fail)
  refine (implClamp_any (some ⟨gc, 0, none⟩) kc cc yc _ rc.len rc.bytes hyc).mono ?_
  rintro e w6 ⟨pr2, cr2, rfl, r2, b6⟩
  have k6 : Below w.heap.size w w6 := below_on k5 b6
  have z6 := b6.size
  replace ra := ra.on b6
  replace rb := rb.on b6
  replace r1 := r1.on b6
  replace rc := rc.on b6
  replace rq := rq.on b6
  clear hx hb
  go_wp2_with (fail)
  refine (specPoint_any (some ⟨ga, 0, none⟩) (some ⟨gb, 0, none⟩) ka kb ca cb ya yb _ ra.len ra.bytes rb.bytes hya hyb).mono ?_
  rintro e w7 ⟨pr3, cr3, rfl, r3, b7⟩
  have k7 : Below w.heap.size w w7 := below_on k6 b7
  have z7 := b7.size
  replace ra := ra.on b7
  replace rb := rb.on b7
  replace r1 := r1.on b7
  replace rc := rc.on b7
  replace rq := rq.on b7
  replace r2 := r2.on b7
  go_wp2_with (fail)
  refine (implSame_any pr1 pr3 (fldN ka kb) (fldN ka kb) cr1 cr3 (fldL (ptZ ya yb) ka kb) (fldL (ptZ ya yb) ka kb) _ r1.len r3.len r1.bytes r3.bytes).mono ?_
  rintro e w8 ⟨rfl, b8⟩
  have k8 : Below w.heap.size w w8 := below_on k7 b8
  have z8 := b8.size
  replace ra := ra.on b8
  replace rb := rb.on b8
  replace r1 := r1.on b8
  replace rc := rc.on b8
  replace rq := rq.on b8
  replace r2 := r2.on b8
  replace r3 := r3.on b8
  clear r3
  go_wp2_with (fail)
  refine (specClamp_any (some ⟨gc, 0, none⟩) kc cc yc _ rc.len rc.bytes hyc).mono ?_
  rintro e w9 ⟨pr4, cr4, rfl, r4, b9⟩
  have k9 : Below w.heap.size w w9 := below_on k8 b9
  have z9 := b9.size
  replace ra := ra.on b9
  replace rb := rb.on b9
  replace r1 := r1.on b9
  replace rc := rc.on b9
  replace rq := rq.on b9
  replace r2 := r2.on b9
  go_wp2_with (fail)
  refine (implSame_any pr2 pr4 (oneN kc) (oneN kc) cr2 cr4 (clampR yc kc) (clampR yc kc) _ r2.len r4.len r2.bytes r4.bytes).mono ?_
  rintro e w10 ⟨rfl, b10⟩
  have k10 : Below w.heap.size w w10 := below_on k9 b10
  have z10 := b10.size
  replace ra := ra.on b10
  replace rb := rb.on b10
  replace r1 := r1.on b10
  replace rc := rc.on b10
  replace rq := rq.on b10
  replace r2 := r2.on b10
  replace r4 := r4.on b10
  clear r4
  go_wp2_with (fail)
  refine (implPublic_any (some ⟨gq, 0, none⟩) kq cq yq _ rq.len rq.bytes hyq).mono ?_
  rintro e w11 ⟨pr5, cr5, rfl, r5, b11⟩
  have k11 : Below w.heap.size w w11 := below_on k10 b11
  have z11 := b11.size
  replace ra := ra.on b11
  replace rb := rb.on b11
  replace r1 := r1.on b11
  replace rc := rc.on b11
  replace rq := rq.on b11
  replace r2 := r2.on b11
  go_wp2_with (fail)
  refine (specPublic_any (some ⟨gq, 0, none⟩) kq cq yq _ rq.len rq.bytes hyq).mono ?_
  rintro e w12 ⟨pr6, cr6, rfl, r6, b12⟩
  have k12 : Below w.heap.size w w12 := below_on k11 b12
  have z12 := b12.size
  replace ra := ra.on b12
  replace rb := rb.on b12
  replace r1 := r1.on b12
  replace rc := rc.on b12
  replace rq := rq.on b12
  replace r2 := r2.on b12
  replace r5 := r5.on b12
  go_wp2_with (fail)
  refine (implSame_any pr5 pr6 (oneN kq) (oneN kq) cr5 cr6 (oneL (ptZ yq baseL) kq) (oneL (ptZ yq baseL) kq) _ r5.len r6.len r5.bytes r6.bytes).mono ?_
  rintro e w13 ⟨rfl, b13⟩
  have k13 : Below w.heap.size w w13 := below_on k12 b13
  have z13 := b13.size
  replace ra := ra.on b13
  replace rb := rb.on b13
  replace r1 := r1.on b13
  replace rc := rc.on b13
  replace rq := rq.on b13
  replace r2 := r2.on b13
  replace r5 := r5.on b13
  replace r6 := r6.on b13
  clear r5 r6 rq
  have CF := fun X (hX : BytesIn X pr2 (oneN kc) (clampR yc kc)) => implClamp_any pr2 (oneN kc) cr2 (clampR yc kc) X (clampR_length rc.len) hX (clampR_byte hyc)
  simp only [oneN_twice, clampR_again rc.len] at CF
  go_wp2_with (fail)
  refine (CF _ r2.bytes).mono ?_
  rintro e w14 ⟨pr7, cr7, rfl, r7, b14⟩
  have k14 : Below w.heap.size w w14 := below_on k13 b14
  have z14 := b14.size
  replace ra := ra.on b14
  replace rb := rb.on b14
  replace r1 := r1.on b14
  replace rc := rc.on b14
  replace r2 := r2.on b14
  clear CF
  go_wp2_with (fail)
  refine (implSame_any pr7 pr2 (oneN kc) (oneN kc) cr7 cr2 (clampR yc kc) (clampR yc kc) _ r7.len r2.len r7.bytes r2.bytes).mono ?_
  rintro e w15 ⟨rfl, b15⟩
  have k15 : Below w.heap.size w w15 := below_on k14 b15
  have z15 := b15.size
  replace ra := ra.on b15
  replace rb := rb.on b15
  replace r1 := r1.on b15
  replace rc := rc.on b15
  replace r2 := r2.on b15
  replace r7 := r7.on b15
  clear r7 r2 rc
  clear hyc hyq hkc hkq
  clear b1 b2 b3 b4 b5 b6 b7 b8 b9 b10 b11 b12 b13 b14 b15 z1 z2 z3 z4 z5 z6 z7 z8 z9 z10 z11 z12 z13 z14 z15
  have hE := k15
  clear k1 k2 k3 k4 k5 k6 k7 k8 k9 k10 k11 k12 k13 k14 k15
  by_cases ea : ka = 32
  · subst ea
    by_cases eb : kb = 32
    · subst eb
      have e1 : fldN 32 32 = 32 := rfl
      have e2 : fldL (ptZ ya yb) 32 32 = numB (ptZ ya yb) := by have h2 : fldL (ptZ ya yb) 32 32 = numB (ptZ ya yb % fldP) := if_pos ⟨rfl, rfl⟩; rw [h2, ptZ_mod]
      rw [e1, e2] at r1
      rw [e1]
      have lya := ra.len
      have lyb := rb.len
      have xb := byteZ hyb 31
      obtain ⟨v, hv⟩ : ∃ v, v = bits .xor .u8 (yb.getD 31 0) 128 := ⟨_, rfl⟩
      have lv := xor128_byte xb.1 xb.2
      have mv := xor128 xb.1 xb.2
      rw [← hv] at lv mv
      have hpt := ptZ_free lya lyb mv
      have byv : ∀ y ∈ yb.set 31 v, 0 ≤ y ∧ y < 256 := fun y hy => by
        rcases List.mem_or_eq_of_mem_set hy with h | h
        · exact hyb y h
        · rw [h]; exact lv
      obtain ⟨u, hu⟩ : ∃ u, u = yb.getD 31 0 := ⟨_, rfl⟩
      rw [← hu] at hv
      replace hu : Hid (u = yb.getD 31 0) := hu
      have hxor : bits .xor .u8 u 128 = v := hv.symm
      have hN : oneN 32 = 32 := rfl
      have CC := fun X (hX : BytesIn X (some ⟨ga, 0, none⟩) 32 ya) => implClamp_any (some ⟨ga, 0, none⟩) 32 ca ya X lya hX hya
      have hC : clampR ya 32 = clampL ya := rfl
      rw [hN, hC] at CC
      have CP := fun (p q : Option Addr) (c d : Nat) X (h : BytesIn X p 32 (clampL ya)) (h' : BytesIn X q 32 (yb.set 31 v)) (hd : 32 ≤ d) => implPoint_any p q 32 32 c d (clampL ya) (yb.set 31 v) X (by rw [clampL_length]; exact lya) h h' (clampL_byte hya) byv hd
      have e3 : fldL (ptZ ya yb) 32 32 = numB (ptZ ya yb) := e2
      rw [hpt, e1, e3] at CP
      have CO := fun (p : Option Addr) (c : Nat) X (h : BytesIn X p 32 (numB (ptZ ya yb))) (hc : 32 ≤ c) => implFieldOf_any p 32 c (numB (ptZ ya yb)) X h (numB_byte _) hc
      have e4 : oneL (numF (numB (ptZ ya yb))) 32 = numB (ptZ ya yb) := by have h2 : oneL (numF (numB (ptZ ya yb))) 32 = numB (numF (numB (ptZ ya yb)) % fldP) := if_pos rfl; rw [h2, numF_numB (ptZ_range ya yb).1 (ptZ_range ya yb).2, ptZ_mod]
      rw [hN, e4] at CO
      have hlv : (yb.set 31 v).length = 32 := by simp [lyb]
      have hlV := numB_length (ptZ ya yb)
      have hlc : (clampL ya).length = 32 := by rw [clampL_length]; exact lya
      generalize numB (ptZ ya yb) = V at CP CO r1 hlV
      generalize hyv : yb.set 31 v = yv at CP hlv
      replace hyv : Hid (yb.set 31 v = yv) := hyv
      generalize clampL ya = kk at CC CP hlc
      clear e1 e2 e3 e4 hpt hv lv mv xb byv hN hC lya
      obtain ⟨i0, hi, hz0, hz1, hz2⟩ := info_parts infoByte
      have hown0 : (w15.alloc (.cells #[] 5)).ownsRow w15.heap.size 5 1 (.slice (some ⟨w15.heap.size, 0, none⟩) 0 0) 0 (([] : List Int).map (Value.int .u8)) := World.ownsRow_made w15 #[] 0 (Nat.le_refl _) (by unfold maxLen; omega) rfl
      have hb0 : Below w15.heap.size w15 (w15.alloc (.cells #[] 5)) := (Below.refl _ _).alloc (Nat.le_refl _) _
      have h1 := (rb.on hb0).bytes
      go_wp2_with (at_builtin; refine list_spread hi hz0 hz1 hz2 (.tmp 65) (.tmp 66) 22 Try.underlying22 hown0 h1 lyb (by decide) (by decide) (by decide) (by simp) (by rfl) (by rfl) (by rfl) (by rfl) ?_; intro g cap W1 ho1 hg1 hb1; simp only [Nat.zero_add, List.nil_append] at ho1 ⊢; have c1 := rowU_cell ho1 31 (by decide); rw [← hu.out] at c1; have f1 := ho1.frozenAt 31; have s1 := ho1.stored 31 (.int .u8 v); rw [mapU_set, hyv.out] at s1; have hlt := ho1.lt g rfl; have k0 := hb0.trans hb1; have k1 := k0.grown s1.2 k0.size (fun k hk => by cases hk; exact hlt.1); have rv := Own.of s1.1; clear s1 hlt k0 ho1 hg1 hb1)
      generalize W1.setCell ⟨g, 31, none⟩ (.int .u8 v) = X1 at rv k1 ⊢
      replace ra := ra.on k1
      replace r1 := r1.on k1
      have hE2 := below_on hE k1
      clear h1 hown0 hb0 c1 f1 hE rb hxor hu
      refine (CC _ ra.bytes).mono ?_
      rintro e wv1 ⟨pr51, cr51, rfl, r51, b1⟩
      have kv1 : Below X1.heap.size X1 wv1 := below_on (Below.refl _ _) b1
      have zv1 := b1.size
      replace ra := ra.on b1
      replace r1 := r1.on b1
      replace rv := rv.on b1
      go_wp2_with (fail)
      refine (CP pr51 (some ⟨g, 0, none⟩) cr51 cap _ r51.bytes rv.bytes rv.cap).mono ?_
      rintro e wv2 ⟨pr52, cr52, rfl, r52, b2⟩
      have kv2 : Below X1.heap.size X1 wv2 := below_on kv1 b2
      have zv2 := b2.size
      replace ra := ra.on b2
      replace r1 := r1.on b2
      replace rv := rv.on b2
      replace r51 := r51.on b2
      go_wp2_with (fail)
      refine (implSame_any pr52 pr1 32 32 cr52 cr1 V V _ r52.len r1.len r52.bytes r1.bytes).mono ?_
      rintro e wv3 ⟨rfl, b3⟩
      have kv3 : Below X1.heap.size X1 wv3 := below_on kv2 b3
      have zv3 := b3.size
      replace ra := ra.on b3
      replace r1 := r1.on b3
      replace rv := rv.on b3
      replace r51 := r51.on b3
      replace r52 := r52.on b3
      clear r52 r51
      go_wp2_with (fail)
      refine (CO pr1 cr1 _ r1.bytes r1.cap).mono ?_
      rintro e wv4 ⟨pr53, cr53, rfl, r53, b4⟩
      have kv4 : Below X1.heap.size X1 wv4 := below_on kv3 b4
      have zv4 := b4.size
      replace ra := ra.on b4
      replace r1 := r1.on b4
      replace rv := rv.on b4
      go_wp2_with (fail)
      refine (implSame_any pr53 pr1 32 32 cr53 cr1 V V _ r53.len r1.len r53.bytes r1.bytes).mono ?_
      rintro e wv5 ⟨rfl, b5⟩
      have kv5 : Below X1.heap.size X1 wv5 := below_on kv4 b5
      have zv5 := b5.size
      replace ra := ra.on b5
      replace r1 := r1.on b5
      replace rv := rv.on b5
      replace r53 := r53.on b5
      go_wp2_with (fail)
      go_ret
      exact ⟨rfl, below_on hE2 kv5⟩
    · have eb' : ((kb : Int) != 32) = true := by simp; omega
      have e0 : fldN 32 kb = 0 := if_neg (fun hh => eb hh.2)
      rw [e0]
      go_wp2_with (fail)
      go_ret
      exact ⟨rfl, hE⟩
  · have ea' : ((ka : Int) != 32) = true := by simp; omega
    have e0 : fldN ka kb = 0 := if_neg (fun hh => ea hh.1)
    rw [e0]
    go_wp2_with (fail)
    go_ret
    exact ⟨rfl, hE⟩

theorem fnPoints_law (p : Option Addr) (n c : Nat) (xs : List Int) (w : World) (hx : xs.length = n) (h : BytesIn w p n xs) (hb : ∀ x ∈ xs, 0 ≤ x ∧ x < 256) :
    Calls Try.prog 7 #[.slice p n c] w fun e w' => e = .returned (.bool true) ∧ Below w.heap.size w w' := by
  by_cases hn : n ≤ 1048576
  · exact fnPoints_small p n c xs w hn hx h hb
  · clear hx h hb
    have C := fun X => big_great p n c X hn
    go_enter Try.func7, Try.ntmps7
    go_wp2_with (fail)
    refine (C _).mono ?_
    rintro e w1 ⟨rfl, b1⟩
    go_wp2
    go_ret
    exact ⟨rfl, b1⟩

end Go.Proofs.Ytghoibggmddkmac
