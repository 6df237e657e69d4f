/-
  FnKeys returns true for any code, and writes nothing that was there; conditions: bytes all, and the table is as its text says.
-/
import Derived.Test.YtdjdanpicbaieaaGreatDoorParx28
import Derived.Test.YtdjdanpicbaieaaGreatDoorParx30
import Derived.Test.YtdjdanpicbaieaaGreatDoorParx31
import Derived.Test.YtdjdanpicbaieaaGreatDoorParx02
import Derived.Test.YtdjdanpicbaieaaGreatDoorParx29
namespace Go.Proofs.YtdjdanpicbaieaaGreatDoor
open Go.RowKit
set_option maxRecDepth 100000

theorem hexL_length (xs : List Int) : (hexL xs).length = 2 * xs.length := by
  induction xs with
  | nil => rfl
  | cons x xs ih => simp [hexL] at ih ⊢; omega
theorem rouL_length {xs : List Int} {e : Int} (h : hasB xs.length e = true) : (rouL xs e).length = 16 := by
  have hh := hasB_iff.1 h
  rw [rouL_yes h, hexL_length, List.length_take, macL_length, tellL_length rfl hh.2, hh.1]
  rfl
theorem curB_yes {e : Int} (h0 : 0 ≤ e) (h1 : e ≤ 40) : curB e e = true := by simp [curB]; omega
theorem curB_no (e : Int) : curB e (e + 1) = false := by simp [curB]; omega

set_option maxHeartbeats 16000000 in
theorem fnKeys_small (p : Option Addr) (n c : Nat) (xs : List Int) (w : World) (hn : n ≤ 1048576) (hx : xs.length = n) (h : BytesIn w p n xs) (hb : ∀ x ∈ xs, 0 ≤ x ∧ x < 256) (hK : KeysIs w) :
    Calls Tryz.prog 3 #[.slice p n c] w fun e w' => e = .returned (.bool true) ∧ Below w.heap.size w w' := by
  go_enter Tryz.func3, Tryz.ntmps3
  go_wp2_with (fail)
  refine (big_small p n c _ hn).mono ?_
  rintro e w1 ⟨rfl, b1⟩
  have k1 : Below w.heap.size w w1 := below_on (Below.refl _ _) b1
  have z1 := b1.size
  go_wp2_with (fail)
  refine (dSecretOf p n c xs _ hn hx (in_below h k1) hb).mono ?_
  rintro e w2 ⟨gs, ks, cs, ys, es, rfl, ⟨hks, hys, bes⟩, rs, b2⟩
  have k2 : Below w.heap.size w w2 := below_on k1 b2
  have z2 := b2.size
  go_wp2_with (fail)
  refine (dPublicOf p n c xs _ hn hx (in_below h k2) hb).mono ?_
  rintro e w3 ⟨gt, kt, ct, yt, et, rfl, ⟨hkt, hyt, bet⟩, rt, b3⟩
  have k3 : Below w.heap.size w w3 := below_on k2 b3
  have z3 := b3.size
  replace rs := rs.on b3
  go_wp2_with (fail)
  refine (dRouteOf p n c xs _ hn hx (in_below h k3) hb).mono ?_
  rintro e w4 ⟨gu, ku, cu, yu, eu, rfl, ⟨hku, hyu, beu⟩, ru, b4⟩
  have k4 : Below w.heap.size w w4 := below_on k3 b4
  have z4 := b4.size
  replace rs := rs.on b4
  replace rt := rt.on b4
  go_wp2_with (fail)
  refine (dCurrent p n c xs _ hn hx (in_below h k4) hb).mono ?_
  rintro e w5 ⟨ca, cb, rfl, b5⟩
  have k5 : Below w.heap.size w w5 := below_on k4 b5
  have z5 := b5.size
  replace rs := rs.on b5
  replace rt := rt.on b5
  replace ru := ru.on b5
  clear hx hb
  go_wp2_with (fail)
  refine (implSecret_any (some ⟨gs, 0, none⟩) ks cs ys es _ rs.len rs.bytes hys (keys_below hK k5)).mono ?_
  rintro e w6 ⟨pr1, cr1, rfl, r1, b6⟩
  have k6 : Below w.heap.size w w6 := below_on k5 b6
  have z6 := b6.size
  replace rs := rs.on b6
  replace rt := rt.on b6
  replace ru := ru.on b6
  have CRS := fun X (hX : BytesIn X (some ⟨gu, 0, none⟩) ku yu) => specRoute_any (some ⟨gu, 0, none⟩) ku cu yu eu X ru.len hX hyu
  have CRI := implRoute_any (some ⟨gu, 0, none⟩) ku cu yu eu _ ru.len ru.bytes hyu (keys_below hK k6)
  generalize strOfNums (rouL yu eu) = RS at CRS CRI
  go_wp2_with (fail)
  refine (CRI).mono ?_
  rintro e w7 ⟨rfl, b7⟩
  have k7 : Below w.heap.size w w7 := below_on k6 b7
  have z7 := b7.size
  replace rs := rs.on b7
  replace rt := rt.on b7
  replace ru := ru.on b7
  replace r1 := r1.on b7
  go_wp2_with (fail)
  refine (specSecret_any (some ⟨gs, 0, none⟩) ks cs ys es _ rs.len rs.bytes hys).mono ?_
  rintro e w8 ⟨pr2, cr2, rfl, r2, b8⟩
  have k8 : Below w.heap.size w w8 := below_on k7 b8
  have z8 := b8.size
  replace rs := rs.on b8
  replace rt := rt.on b8
  replace ru := ru.on b8
  replace r1 := r1.on b8
  go_wp2_with (fail)
  refine (implSame_any pr1 pr2 (secN ks es) (secN ks es) cr1 cr2 (secL ys es) (secL ys es) _ r1.len r2.len r1.bytes r2.bytes).mono ?_
  rintro e w9 ⟨rfl, b9⟩
  have k9 : Below w.heap.size w w9 := below_on k8 b9
  have z9 := b9.size
  replace rs := rs.on b9
  replace rt := rt.on b9
  replace ru := ru.on b9
  replace r1 := r1.on b9
  replace r2 := r2.on b9
  clear r2
  go_wp2_with (fail)
  refine (implPubOf_any (some ⟨gt, 0, none⟩) kt ct yt et _ rt.len rt.bytes hyt (keys_below hK k9)).mono ?_
  rintro e w10 ⟨pr3, cr3, rfl, r3, b10⟩
  have k10 : Below w.heap.size w w10 := below_on k9 b10
  have z10 := b10.size
  replace rs := rs.on b10
  replace rt := rt.on b10
  replace ru := ru.on b10
  replace r1 := r1.on b10
  go_wp2_with (fail)
  refine (specPubOf_any (some ⟨gt, 0, none⟩) kt ct yt et _ rt.len rt.bytes hyt).mono ?_
  rintro e w11 ⟨pr4, cr4, rfl, r4, b11⟩
  have k11 : Below w.heap.size w w11 := below_on k10 b11
  have z11 := b11.size
  replace rs := rs.on b11
  replace rt := rt.on b11
  replace ru := ru.on b11
  replace r1 := r1.on b11
  replace r3 := r3.on b11
  go_wp2_with (fail)
  refine (implSame_any pr3 pr4 (pubN kt et) (pubN kt et) cr3 cr4 (pubL yt et) (pubL yt et) _ r3.len r4.len r3.bytes r4.bytes).mono ?_
  rintro e w12 ⟨rfl, b12⟩
  have k12 : Below w.heap.size w w12 := below_on k11 b12
  have z12 := b12.size
  replace rs := rs.on b12
  replace rt := rt.on b12
  replace ru := ru.on b12
  replace r1 := r1.on b12
  replace r3 := r3.on b12
  replace r4 := r4.on b12
  clear r3 r4 rt
  go_wp2_with (fail)
  refine (CRS _ ru.bytes).mono ?_
  rintro e w13 ⟨rfl, b13⟩
  have k13 : Below w.heap.size w w13 := below_on k12 b13
  have z13 := b13.size
  replace rs := rs.on b13
  replace ru := ru.on b13
  replace r1 := r1.on b13
  clear ru
  have CI := fun X => implCurrent_any ca cb X
  have CS := fun X => specCurrent_any ca cb X
  generalize curB ca cb = CB at CI CS
  have hcb : (CB != CB) = false := by simp
  go_wp2_with (fail)
  refine (CI _).mono ?_
  rintro e w14 ⟨rfl, b14⟩
  have k14 : Below w.heap.size w w14 := below_on k13 b14
  have z14 := b14.size
  replace rs := rs.on b14
  replace r1 := r1.on b14
  go_wp2_with (fail)
  refine (CS _).mono ?_
  rintro e w15 ⟨rfl, b15⟩
  have k15 : Below w.heap.size w w15 := below_on k14 b15
  have z15 := b15.size
  replace rs := rs.on b15
  replace r1 := r1.on b15
  clear CI CS CRS hcb hyt hyu hkt hku bet beu
  have hE := k15
  have hKE := keys_below hK hE
  clear b1 z1 b2 z2 b3 z3 b4 z4 b5 z5 b6 z6 b7 z7 b8 z8 b9 z9 b10 z10 b11 z11 b12 z12 b13 z13 b14 z14 b15 z15
  clear k1 k2 k3 k4 k5 k6 k7 k8 k9 k10 k11 k12 k13 k14 k15
  by_cases ea : ks = 32
  · subst ea
    by_cases el : es < 0
    · have e0 : secN 32 es = 0 := by rw [secN, hasB_no (fun hh => by omega)]; rfl
      rw [e0]
      go_wp2_with (fail)
      go_ret
      exact ⟨rfl, hE⟩
    · by_cases eg : 40 < es
      · have e0 : secN 32 es = 0 := by rw [secN, hasB_no (fun hh => by omega)]; rfl
        rw [e0]
        go_wp2_with (fail)
        go_ret
        exact ⟨rfl, hE⟩
      · have hh : hasB 32 es = true := hasB_yes ⟨rfl, by omega, by omega⟩
        have e0 : secN 32 es = 32 := by rw [secN, hh]; rfl
        have lys := rs.len
        have e1 : pubN 32 es = 32 := by rw [pubN, e0]; rfl
        have e2 : pubL ys es = oneL (ptZ (secL ys es) baseL) 32 := by rw [pubL, lys, e0]
        rw [e0] at r1
        rw [e0]
        have CP := implPubOf_any (some ⟨gs, 0, none⟩) 32 cs ys es _ lys rs.bytes hys hKE
        rw [e1, e2] at CP
        have CK := fun X (hX : BytesIn X pr1 32 (secL ys es)) => implPublic_any pr1 32 cr1 (secL ys es) X (by rw [secL_length, lys, e0]) hX (secL_byte ys es)
        rw [show oneN 32 = 32 from rfl] at CK
        have lV : (oneL (ptZ (secL ys es) baseL) 32).length = 32 := oneL_length _ _
        have CR := fun X (hX : BytesIn X (some ⟨gs, 0, none⟩) 32 ys) (hKX : KeysIs X) => implRoute_any (some ⟨gs, 0, none⟩) 32 cs ys es X lys hX hys hKX
        have hsz : (strOfNums (rouL ys es)).size = 16 := by rw [strOfNums_size, rouL_length (by rw [lys]; exact hh)]
        generalize strOfNums (rouL ys es) = RR at CR hsz
        generalize oneL (ptZ (secL ys es) baseL) 32 = V at CP CK lV
        generalize secL ys es = KL at CK r1
        have C1 := fun X => implCurrent_any es es X
        have C2 := fun X => implCurrent_any es (es + 1) X
        rw [curB_yes (by omega) (by omega)] at C1
        rw [curB_no es] at C2
        have l0 : 0 ≤ es := by omega
        have l1 : es ≤ 40 := by omega
        have hsz' : ((RR.size : Int) == 16) = true := by rw [hsz]; rfl
        clear hh e0 e1 e2 bes hsz
        go_wp2_with (fail)
        refine (CP).mono ?_
        rintro e wv1 ⟨pr61, cr61, rfl, r61, bv1⟩
        have kv1 : Below w15.heap.size w15 wv1 := below_on (Below.refl _ _) bv1
        have zv1 := bv1.size
        replace rs := rs.on bv1
        replace r1 := r1.on bv1
        go_wp2_with (fail)
        refine (CK _ r1.bytes).mono ?_
        rintro e wv2 ⟨pr62, cr62, rfl, r62, bv2⟩
        have kv2 : Below w15.heap.size w15 wv2 := below_on kv1 bv2
        have zv2 := bv2.size
        replace rs := rs.on bv2
        replace r1 := r1.on bv2
        replace r61 := r61.on bv2
        go_wp2_with (fail)
        refine (implSame_any pr61 pr62 32 32 cr61 cr62 V V _ r61.len r62.len r61.bytes r62.bytes).mono ?_
        rintro e wv3 ⟨rfl, bv3⟩
        have kv3 : Below w15.heap.size w15 wv3 := below_on kv2 bv3
        have zv3 := bv3.size
        replace rs := rs.on bv3
        replace r1 := r1.on bv3
        replace r61 := r61.on bv3
        replace r62 := r62.on bv3
        clear r61 r62
        go_wp2_with (fail)
        refine (C1 _).mono ?_
        rintro e wv4 ⟨rfl, bv4⟩
        have kv4 : Below w15.heap.size w15 wv4 := below_on kv3 bv4
        have zv4 := bv4.size
        replace rs := rs.on bv4
        replace r1 := r1.on bv4
        go_wp2_with (fail)
        refine (C2 _).mono ?_
        rintro e wv5 ⟨rfl, bv5⟩
        have kv5 : Below w15.heap.size w15 wv5 := below_on kv4 bv5
        have zv5 := bv5.size
        replace rs := rs.on bv5
        replace r1 := r1.on bv5
        go_wp2_with (fail)
        refine (CR _ rs.bytes (keys_below hKE kv5)).mono ?_
        rintro e wv6 ⟨rfl, bv6⟩
        have kv6 : Below w15.heap.size w15 wv6 := below_on kv5 bv6
        have zv6 := bv6.size
        replace rs := rs.on bv6
        replace r1 := r1.on bv6
        go_wp2_with (fail)
        go_ret
        exact ⟨rfl, below_on hE kv6⟩
  · have ea' : ((ks : Int) != 32) = true := by simp; omega
    have e0 : secN ks es = 0 := by rw [secN, hasB_no (fun hh => ea hh.1)]; rfl
    rw [e0]
    go_wp2_with (fail)
    go_ret
    exact ⟨rfl, hE⟩

theorem fnKeys_law (p : Option Addr) (n c : Nat) (xs : List Int) (w : World) (hx : xs.length = n) (h : BytesIn w p n xs) (hb : ∀ x ∈ xs, 0 ≤ x ∧ x < 256) (hK : KeysIs w) :
    Calls Tryz.prog 3 #[.slice p n c] w fun e w' => e = .returned (.bool true) ∧ Below w.heap.size w w' := by
  by_cases hn : n ≤ 1048576
  · exact fnKeys_small p n c xs w hn hx h hb hK
  · clear hx h hb hK
    have C := fun X => big_great p n c X hn
    go_enter Tryz.func3, Tryz.ntmps3
    go_wp2_with (fail)
    refine (C _).mono ?_
    rintro e w1 ⟨rfl, b1⟩
    go_wp2
    go_ret
    exact ⟨rfl, b1⟩

end Go.Proofs.YtdjdanpicbaieaaGreatDoor
