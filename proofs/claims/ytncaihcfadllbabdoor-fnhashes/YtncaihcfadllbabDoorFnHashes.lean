/-
  FnHashes returns true for any code, and writes nothing that was there; conditions: the code is of bytes, and the table of the rounds' numbers is as its text says (a code of more than 1048576 bytes is passed by).
-/
import Derived.Test.YtncaihcfadllbabDoorDraw3b
import Derived.Test.YtncaihcfadllbabDoorHash
import Derived.Test.YtncaihcfadllbabDoorSame
import Derived.Test.YtncaihcfadllbabDoorSameInts
import Derived.Test.YtncaihcfadllbabDoorBig
import Derived.Lib.LaidTab
namespace Go.Proofs.YtncaihcfadllbabDoor
open Go.RowKit

theorem keys_onH {w w' : World} (h : KeysIs w) (hb : Below w.heap.size w w') : KeysIs w' := fun t ht => (hb.cell (p := ⟨0, t, none⟩) (World.block_lt_of_cell? w ⟨0, t, none⟩ (h t ht))).trans (h t ht)
theorem keys_ofH {W : World} (h : Lib.TabIs Tryd.prog W "loop.example/g00473/impl.hashKeys" .u32 (natsL keysL)) : KeysIs W := fun t ht => by
  have := h.cell (g := 0) (by kernel_rfl) t (by rw [natsL_length]; exact ht)
  rw [this, ← natsL_getD]

set_option maxHeartbeats 8000000 in
theorem fnHashes_small (p : Option Addr) (n c : Nat) (xs : List Int) (w : World) (hn : n ≤ 1048576) (hx : xs.length = n) (h : BytesIn w p n xs) (hr : ∀ x ∈ xs, 0 ≤ x ∧ x < 256) (hK : KeysIs w) :
    Calls Tryd.prog 3 #[.slice p n c] w fun e w' => e = .returned (.bool true) ∧ Below w.heap.size w w' := by
  go_enter Tryd.func3, Tryd.ntmps3
  go_wp2_with (fail)
  refine (big_small p n c _ hn).mono ?_
  rintro e w1 ⟨rfl, b1⟩
  have k1 : Below w.heap.size w w1 := below_on (Below.refl _ _) b1
  have z1 := b1.size
  go_wp2_with (fail)
  refine (drawHash_any p n c xs _ hn hx (in_below h k1) hr).mono ?_
  rintro e w2 ⟨gb, kb, cb, yb, rfl, hkb, sb, hyb, b2⟩
  have k2 : Below w.heap.size w w2 := below_on k1 b2
  have z2 := b2.size
  go_wp2_with (fail)
  refine (implHash_any (some ⟨gb, 0, none⟩) kb cb yb _ sb.len sb.bytes hyb (keys_onH hK k2)).mono ?_
  rintro e w3 ⟨pr1, cr1, rfl, r1, b3⟩
  have k3 : Below w.heap.size w w3 := below_on k2 b3
  have z3 := b3.size
  replace sb := sb.on b3
  go_wp2_with (fail)
  refine (implPad_any (some ⟨gb, 0, none⟩) kb cb yb _ (by omega) sb.len sb.bytes).mono ?_
  rintro e w4 ⟨pr2, cr2, rfl, r2, b4⟩
  have k4 : Below w.heap.size w w4 := below_on k3 b4
  have z4 := b4.size
  replace sb := sb.on b4
  replace r1 := r1.on b4
  go_wp2_with (fail)
  refine (drawHashBlock_any p n c xs _ hn hx (in_below h k4) hr).mono ?_
  rintro e w5 ⟨g1, k1, c1, ys, g2, k2, c2, zs, rfl, hk1, hk2, hly, hIy, sz, hzs, b5⟩
  have k5 : Below w.heap.size w w5 := below_on k4 b5
  have z5 := b5.size
  replace sb := sb.on b5
  replace r1 := r1.on b5
  replace r2 := r2.on b5
  go_wp2_with (fail)
  refine (drawHashPad_any p n c xs _ hn hx (in_below h k5) hr).mono ?_
  rintro e w6 ⟨gq, kq, cq, yq, rfl, hkq, sq, hyq, b6⟩
  have k6 : Below w.heap.size w w6 := below_on k5 b6
  have z6 := b6.size
  replace sb := sb.on b6
  replace r1 := r1.on b6
  replace r2 := r2.on b6
  replace sz := sz.on b6
  replace hIy := in_belowI hIy b6
  go_wp2_with (fail)
  refine (specHash_any (some ⟨gb, 0, none⟩) kb cb yb _ sb.len sb.bytes hyb).mono ?_
  rintro e w7 ⟨pr3, cr3, rfl, r3, b7⟩
  have k7 : Below w.heap.size w w7 := below_on k6 b7
  have z7 := b7.size
  replace sb := sb.on b7
  replace r1 := r1.on b7
  replace r2 := r2.on b7
  replace sz := sz.on b7
  replace sq := sq.on b7
  replace hIy := in_belowI hIy b7
  go_wp2_with (fail)
  refine (implSame_any pr1 pr3 (hashN kb) (hashN kb) cr1 cr3 (hashL yb) (hashL yb) _ r1.len r3.len r1.bytes r3.bytes).mono ?_
  rintro e w8 ⟨rfl, b8⟩
  have k8 : Below w.heap.size w w8 := below_on k7 b8
  have z8 := b8.size
  replace sb := sb.on b8
  replace r1 := r1.on b8
  replace r2 := r2.on b8
  replace sz := sz.on b8
  replace sq := sq.on b8
  replace r3 := r3.on b8
  replace hIy := in_belowI hIy b8
  clear r3
  go_wp2_with (fail)
  refine (specPad_any (some ⟨gb, 0, none⟩) kb cb yb _ (by omega) sb.len sb.bytes).mono ?_
  rintro e w9 ⟨pr4, cr4, rfl, r4, b9⟩
  have k9 : Below w.heap.size w w9 := below_on k8 b9
  have z9 := b9.size
  replace sb := sb.on b9
  replace r1 := r1.on b9
  replace r2 := r2.on b9
  replace sz := sz.on b9
  replace sq := sq.on b9
  replace hIy := in_belowI hIy b9
  go_wp2_with (fail)
  refine (implSame_any pr2 pr4 (padN kb) (padN kb) cr2 cr4 (padL yb) (padL yb) _ r2.len r4.len r2.bytes r4.bytes).mono ?_
  rintro e w10 ⟨rfl, b10⟩
  have k10 : Below w.heap.size w w10 := below_on k9 b10
  have z10 := b10.size
  replace sb := sb.on b10
  replace r1 := r1.on b10
  replace r2 := r2.on b10
  replace sz := sz.on b10
  replace sq := sq.on b10
  replace r4 := r4.on b10
  replace hIy := in_belowI hIy b10
  clear r4
  have hle := hbN_le k1 k2
  go_wp2_with (fail)
  refine (implHashBlock_any (some ⟨g1, 0, none⟩) (some ⟨g2, 0, none⟩) k1 k2 c1 c2 ys zs _ hly sz.len hIy sz.bytes hzs (keys_onH hK k10)).mono ?_
  rintro e w11 ⟨pr5, cr5, rfl, r5, b11⟩
  have k11 : Below w.heap.size w w11 := below_on k10 b11
  have z11 := b11.size
  replace sb := sb.on b11
  replace r1 := r1.on b11
  replace r2 := r2.on b11
  replace sz := sz.on b11
  replace sq := sq.on b11
  replace hIy := in_belowI hIy b11
  go_wp2_with (fail)
  refine (specHashBlock_any (some ⟨g1, 0, none⟩) (some ⟨g2, 0, none⟩) k1 k2 c1 c2 ys zs _ hly sz.len hIy sz.bytes hzs).mono ?_
  rintro e w12 ⟨pr6, cr6, rfl, r6, b12⟩
  have k12 : Below w.heap.size w w12 := below_on k11 b12
  have z12 := b12.size
  replace sb := sb.on b12
  replace r1 := r1.on b12
  replace r2 := r2.on b12
  replace sz := sz.on b12
  replace sq := sq.on b12
  replace r5 := r5.on b12
  replace hIy := in_belowI hIy b12
  go_wp2_with (fail)
  refine (sameInts_any pr5 pr6 (hbN k1 k2) (hbN k1 k2) cr5 cr6 (hbL ys zs) (hbL ys zs) _ (by omega) r5.len r6.len r5.ints r6.ints).mono ?_
  rintro e w13 ⟨rfl, b13⟩
  have k13 : Below w.heap.size w w13 := below_on k12 b13
  have z13 := b13.size
  replace sb := sb.on b13
  replace r1 := r1.on b13
  replace r2 := r2.on b13
  replace sz := sz.on b13
  replace sq := sq.on b13
  replace r5 := r5.on b13
  replace r6 := r6.on b13
  replace hIy := in_belowI hIy b13
  clear r5 r6
  go_wp2_with (fail)
  refine (implPad_any (some ⟨gq, 0, none⟩) kq cq yq _ (by omega) sq.len sq.bytes).mono ?_
  rintro e w14 ⟨pr7, cr7, rfl, r7, b14⟩
  have k14 : Below w.heap.size w w14 := below_on k13 b14
  have z14 := b14.size
  replace sb := sb.on b14
  replace r1 := r1.on b14
  replace r2 := r2.on b14
  replace sz := sz.on b14
  replace sq := sq.on b14
  replace hIy := in_belowI hIy b14
  go_wp2_with (fail)
  refine (specPad_any (some ⟨gq, 0, none⟩) kq cq yq _ (by omega) sq.len sq.bytes).mono ?_
  rintro e w15 ⟨pr8, cr8, rfl, r8, b15⟩
  have k15 : Below w.heap.size w w15 := below_on k14 b15
  have z15 := b15.size
  replace sb := sb.on b15
  replace r1 := r1.on b15
  replace r2 := r2.on b15
  replace sz := sz.on b15
  replace sq := sq.on b15
  replace r7 := r7.on b15
  replace hIy := in_belowI hIy b15
  go_wp2_with (fail)
  refine (implSame_any pr7 pr8 (padN kq) (padN kq) cr7 cr8 (padL yq) (padL yq) _ r7.len r8.len r7.bytes r8.bytes).mono ?_
  rintro e w16 ⟨rfl, b16⟩
  have k16 : Below w.heap.size w w16 := below_on k15 b16
  have z16 := b16.size
  replace sb := sb.on b16
  replace r1 := r1.on b16
  replace r2 := r2.on b16
  replace sz := sz.on b16
  replace sq := sq.on b16
  replace r7 := r7.on b16
  replace r8 := r8.on b16
  replace hIy := in_belowI hIy b16
  clear r7 r8
  by_cases hb4 : kb ≤ 4000
  · obtain ⟨hM, hM2⟩ := pad64 hb4
    have hP : padN kb = kb + 1 + zerosN kb + 8 := if_pos hb4
    have hZ : zerosN kb = (64 - (kb + 9) % 64) % 64 := rfl
    have hkl := sb.len
    have e2 : hashN kb = 32 := if_pos hb4
    have e3 : hashL yb = bytesL true (natsL (foldN (padL yb) (padN kb / 64))) := by unfold hashL; rw [hkl, if_pos hb4]
    have hpre : (padL yb).take kb = yb := by unfold padL; rw [hkl, if_pos hb4]; simp [hkl]
    have hzb := padL_byte hyb
    have hzl := r2.len
    rw [e2, e3] at r1
    have hM9 : kb + 9 ≤ padN kb := by omega
    have hM3 : 64 ≤ padN kb := by omega
    rw [e2]
    generalize hKe : padN kb / 64 = K at hM r1
    clear hKe hP hZ e2 e3
    generalize padN kb = M at hM hM2 hM9 hM3 hzl r2 ⊢
    generalize padL yb = zp at hpre hzb hzl r1 r2
    have hMK : Hid (M = 64 * K) := hM
    have c4 : ¬ (4000 : Int) < (kb : Int) := by omega
    have hm0 : ((M : Int) % 64 == 0) = true := by simp; omega
    have hmt : (M : Int).tmod 64 = 0 := by rw [Int.tmod_eq_emod_of_nonneg (by omega)]; omega
    clear hM
    have hcp := r2.cap
    obtain ⟨gp, rfl⟩ := owns_at r2.1 (by omega)
    go_wp2_with (fail)
    refine (implStart_any _).mono ?_
    rintro e wS ⟨pS, cS, rfl, rS, bS⟩
    have kS := below_on k16 bS
    replace sb := sb.on bS
    replace r1 := r1.on bS
    replace r2 := r2.on bS
    have hs0 : IntsIn wS pS 8 (natsL (foldN zp 0)) := rS.ints
    have hin := r2.bytes
    clear rS bS
    go_wp2_with (fail)
    go_loopw [9, 10] (fun v i wr => ∃ (k j : Nat) (p3 : Option Addr) (c3 : Nat), k ≤ K ∧ Hid (j = 64 * k) ∧ i = .int .i64 j ∧ v = .slice p3 8 c3 ∧ IntsIn wr p3 8 (natsL (foldN zp k)) ∧ Below wS.heap.size wS wr)
      (fun _ i _ => M + 64 - (intOf i).toNat)
    case atStart => exact ⟨0, 0, pS, cS, by omega, rfl, rfl, rfl, hs0, Below.refl _ _⟩
    case round =>
      clear hs0
      obtain ⟨k, j, p3, c3, hk, hj, rfl, rfl, hI, hbl⟩ := hrel
      have hj2 : j ≤ M := by have := hj.out; have := hMK.out; omega
      have hl8 : (natsL (foldN zp k)).length = 8 := by rw [natsL_length, foldN_length]
      by_cases hlt : k < K
      · have hjl : j + 64 ≤ M := by have := hj.out; have := hMK.out; omega
        have hjl2 : j < M := by omega
        obtain ⟨b, o, hbo, hc⟩ := hin (by omega)
        simp only [Option.some.injEq, Addr.mk.injEq, and_true] at hbo
        obtain ⟨rfl, rfl⟩ := hbo
        have hX : ((zp.drop j).take 64).length = 64 := by simp [hzl]; omega
        have hXb := part_byte hzb j
        have HQ : ∀ q, q = some ⟨gp, j, none⟩ → BytesIn wr q 64 ((zp.drop j).take 64) := by
          intro q hq _
          refine ⟨gp, j, hq, fun i hi => ?_⟩
          have hci := hc (j + i) (by omega)
          rw [Nat.zero_add] at hci
          rw [hbl.cell (p := ⟨gp, j + i, none⟩) (World.block_lt_of_cell? wS ⟨gp, j + i, none⟩ hci), hci]
          simp [List.getD, hi]
        have HF : Hid (blockN (wsOf ((zp.drop j).take 64)) (wordsN (natsL (foldN zp k))) = foldN zp (k + 1)) := by rw [Hid, hj.out]; exact foldN_step zp k
        have CB := fun q d h => implHashBlock_yes p3 q c3 d (natsL (foldN zp k)) ((zp.drop j).take 64) wr hl8 hX hI h hXb (keys_onH hK (below_on kS hbl))
        rw [HF.out] at CB
        clear hc HF hX hXb hI
        go_wp2_with (fail)
        refine (CB _ _ (HQ _ (by first | rfl | exact if_neg (by omega) | simp [Addr.add]))).mono ?_
        rintro e w4 ⟨p4, c4', rfl, r4, b4⟩
        clear CB HQ
        have hI4 := r4.ints
        clear r4
        go_wp2
        go_roundw
        case rel => exact ⟨k + 1, j + 64, p4, c4', by omega, by have := hj.out; rw [Hid]; omega, by go_num, rfl, hI4, below_on hbl b4⟩
        case measure => simp [intOf]; omega
      · have hkK : k = K := by omega
        have hnl : ¬ ((j : Int) < (M : Int)) := by have := hj.out; have := hMK.out; omega
        rw [hkK] at hI hl8
        replace sb := sb.on hbl
        replace r1 := r1.on hbl
        replace r2 := r2.on hbl
        have kR := below_on kS hbl
        have hpl : ((zp.take kb)).length = kb := by rw [hpre]; exact hkl
        have i2 := in_prefix r2.bytes (show kb ≤ M by omega)
        rw [hpre] at i2
        clear hin
        go_wp2_with (fail)
        refine (implSame_any (some ⟨gp, 0, none⟩) (some ⟨gb, 0, none⟩) kb kb _ cb yb yb _ hkl hkl i2 sb.bytes).mono ?_
        rintro e w5 ⟨rfl, b5⟩
        replace r1 := r1.on b5
        replace hI := in_belowI hI b5
        have k5 := below_on kR b5
        go_wp2_with (fail)
        refine (implWordBytes_any p3 8 c3 true (natsL (foldN zp K)) _ (by omega) hl8 hI).mono ?_
        rintro e w6 ⟨p6, c6, rfl, r6, b6⟩
        replace r1 := r1.on b6
        have k6 := below_on k5 b6
        go_wp2_with (fail)
        refine (implSame_any p6 pr1 32 32 c6 cr1 _ _ _ r6.len r1.len r6.bytes r1.bytes).mono ?_
        rintro e w7 ⟨rfl, b7⟩
        go_wp2
        go_ret
        exact ⟨rfl, below_on k6 b7⟩
  · have e1 : padN kb = 0 := if_neg hb4
    have e2 : hashN kb = 0 := if_neg hb4
    have c4 : (4000 : Int) < (kb : Int) := by omega
    rw [e1, e2]
    go_wp2
    go_ret
    exact ⟨rfl, k16⟩

theorem fnHashes_great (p : Option Addr) (n c : Nat) (w : World) (hn : ¬ n ≤ 1048576) : Calls Tryd.prog 3 #[.slice p n c] w fun e w' => e = .returned (.bool true) ∧ Below w.heap.size w w' := by
  go_enter Tryd.func3, Tryd.ntmps3
  go_wp2_with (fail)
  refine (big_great p n c _ hn).mono ?_
  rintro e w1 ⟨rfl, b1⟩
  go_wp2_with (fail)
  go_ret
  exact ⟨rfl, b1⟩

theorem fnHashes_law (p : Option Addr) (n c : Nat) (xs : List Int) (w : World) (hx : xs.length = n) (h : BytesIn w p n xs) (hr : ∀ x ∈ xs, 0 ≤ x ∧ x < 256) (hK : KeysIs w) :
    Calls Tryd.prog 3 #[.slice p n c] w fun e w' => e = .returned (.bool true) ∧ Below w.heap.size w w' := by
  by_cases hn : n ≤ 1048576
  · exact fnHashes_small p n c xs w hn hx h hr hK
  · exact fnHashes_great p n c w hn

end Go.Proofs.YtncaihcfadllbabDoor
