/-
  What the specification's l9Ladder answers: the bytes of the point's number. Conditions: 32 bytes; parts of 16 bits or nearly so.
-/
import Derived.Test.YtnpffnhiefgglaaGreatDoorParw32
namespace Go.Proofs.YtnpffnhiefgglaaGreatDoor
open Go.RowKit
set_option maxRecDepth 100000
set_option maxHeartbeats 32000000 in
theorem l9Ladder_any (bk ok ck : Nat) (ks : List Int) (fx : Nat → Int) (w : World) (hb : ∀ x ∈ ks, 0 ≤ x ∧ x < 256) (hk : ∀ i, i < 32 → w.cell? ⟨bk, ok + i, none⟩ = some (.int .u8 (ks.getD i 0))) (hx : smZ fx) :
    Calls Tryz.prog 99 #[.slice (some ⟨bk, ok, none⟩) 32 ck, .agg (zV fx 16).toArray] w fun e w' => ∃ p' c', e = .returned (.slice p' 32 c') ∧ Own 5 w' w.heap.size w'.heap.size (.slice p' 32 c') 32 (numB (ladZ (bitB ks) (valZ fx 16))) ∧ Below w.heap.size w w' := by
  have hz := (zero_of_info infoZ16).1
  have hblt : bk < w.heap.size := World.block_lt_of_cell? w ⟨bk, ok + 0, none⟩ (hk 0 (by decide))
  have HK : Hid (∀ X, Below w.heap.size w X → ∀ i, i < 32 → X.cell? ⟨bk, ok + i, none⟩ = some (.int .u8 (ks.getD i 0))) := fun X hX i hi => (hX.cell (p := ⟨bk, ok + i, none⟩) hblt).trans (hk i hi)
  have HB : Hid (∀ i, 0 ≤ ks.getD i 0 ∧ ks.getD i 0 < 256) := fun i => byteZ hb i
  obtain ⟨bit, hbit⟩ : ∃ bit, bit = bitB ks := ⟨_, rfl⟩
  rw [← hbit]
  replace hbit : Hid (bit = bitB ks) := hbit
  obtain ⟨V, hV⟩ : ∃ V, V = numB (ladZ bit (valZ fx 16)) := ⟨_, rfl⟩
  rw [← hV]
  replace hV : Hid (V = numB (ladZ bit (valZ fx 16))) := hV
  have HO : Hid (∀ n, azOk (azN bit fx n)) := fun n => azN_ok hx bit n
  obtain ⟨Z, hZ⟩ : ∃ Z, Z = (zV (fun _ => 0) 16).toArray := ⟨_, rfl⟩
  rw [← hZ] at hz
  obtain ⟨Lx, ix⟩ : ∃ L, IsZ L fx := ⟨_, ⟨rfl⟩⟩
  obtain ⟨Lm, im⟩ : ∃ L, IsZ L mZ := ⟨_, ⟨rfl⟩⟩
  rw [ix.eq]
  clear hblt hk hb
  have m0 := RowZ.made w 125 16 w.heap.size fx (by decide) (Nat.le_refl _)
  rw [ix.eq] at m0
  obtain ⟨W0, hW0⟩ : ∃ W, W = w.alloc (.cells Lx.toArray 125) := ⟨_, rfl⟩
  rw [← hW0] at m0
  have s0 : W0.heap.size = w.heap.size + 1 := by rw [hW0]; simp
  have bel : Below w.heap.size w W0 := by rw [hW0]; exact (Below.refl _ _).alloc (Nat.le_refl _) _
  have m1 := RowZ.made W0 125 16 w.heap.size (fun _ => 0) (by decide) (by omega)
  rw [← hZ, s0] at m1
  have b1 : Below W0.heap.size W0 (W0.alloc (.cells Z 125)) := (Below.refl _ _).alloc (Nat.le_refl _) _
  obtain ⟨W1, hW1⟩ : ∃ W, W = W0.alloc (.cells Z 125) := ⟨_, rfl⟩
  rw [← hW1] at m1 b1
  have s1 : W1.heap.size = w.heap.size + 1 + 1 := by rw [hW1]; simp [s0]
  replace m0 := m0.below b1
  replace bel := below_on bel b1
  have m2 := RowZ.made W1 125 16 w.heap.size (fun _ => 0) (by decide) (by omega)
  rw [← hZ, s1] at m2
  have b2 : Below W1.heap.size W1 (W1.alloc (.cells Z 125)) := (Below.refl _ _).alloc (Nat.le_refl _) _
  obtain ⟨W2, hW2⟩ : ∃ W, W = W1.alloc (.cells Z 125) := ⟨_, rfl⟩
  rw [← hW2] at m2 b2
  have s2 : W2.heap.size = w.heap.size + 1 + 1 + 1 := by rw [hW2]; simp [s1]
  replace m0 := m0.below b2
  replace m1 := m1.below b2
  replace bel := below_on bel b2
  have m3 := RowZ.made W2 125 16 w.heap.size (fun _ => 0) (by decide) (by omega)
  rw [← hZ, s2] at m3
  have b3 : Below W2.heap.size W2 (W2.alloc (.cells Z 125)) := (Below.refl _ _).alloc (Nat.le_refl _) _
  obtain ⟨W3, hW3⟩ : ∃ W, W = W2.alloc (.cells Z 125) := ⟨_, rfl⟩
  rw [← hW3] at m3 b3
  have s3 : W3.heap.size = w.heap.size + 1 + 1 + 1 + 1 := by rw [hW3]; simp [s2]
  replace m0 := m0.below b3
  replace m1 := m1.below b3
  replace m2 := m2.below b3
  replace bel := below_on bel b3
  have m4 := RowZ.made W3 125 16 w.heap.size (fun _ => 0) (by decide) (by omega)
  rw [← hZ, s3] at m4
  have b4 : Below W3.heap.size W3 (W3.alloc (.cells Z 125)) := (Below.refl _ _).alloc (Nat.le_refl _) _
  obtain ⟨W4, hW4⟩ : ∃ W, W = W3.alloc (.cells Z 125) := ⟨_, rfl⟩
  rw [← hW4] at m4 b4
  have s4 : W4.heap.size = w.heap.size + 1 + 1 + 1 + 1 + 1 := by rw [hW4]; simp [s3]
  replace m0 := m0.below b4
  replace m1 := m1.below b4
  replace m2 := m2.below b4
  replace m3 := m3.below b4
  replace bel := below_on bel b4
  have m5 := RowZ.made W4 125 16 w.heap.size (fun _ => 0) (by decide) (by omega)
  rw [← hZ, s4] at m5
  have b5 : Below W4.heap.size W4 (W4.alloc (.cells Z 125)) := (Below.refl _ _).alloc (Nat.le_refl _) _
  obtain ⟨W5, hW5⟩ : ∃ W, W = W4.alloc (.cells Z 125) := ⟨_, rfl⟩
  rw [← hW5] at m5 b5
  have s5 : W5.heap.size = w.heap.size + 1 + 1 + 1 + 1 + 1 + 1 := by rw [hW5]; simp [s4]
  replace m0 := m0.below b5
  replace m1 := m1.below b5
  replace m2 := m2.below b5
  replace m3 := m3.below b5
  replace m4 := m4.below b5
  replace bel := below_on bel b5
  replace hZ : Hid (Z = (zV (fun _ => 0) 16).toArray) := hZ
  have qx := ix.range m0
  obtain ⟨mb, gb, tb⟩ := ix.put m2
  replace m0 := m0.kept gb (by omega)
  replace m1 := m1.kept gb (by omega)
  replace m3 := m3.kept gb (by omega)
  replace m4 := m4.kept gb (by omega)
  replace m5 := m5.kept gb (by omega)
  replace bel := bel.grown gb bel.size (fun k hk => by cases hk; omega)
  clear m2
  have c10 := m1.cell 0 (by decide)
  have f10 := m1.frozen 0
  have st := m1.set 0 1
  replace m0 := m0.kept st.2 (by omega)
  replace m3 := m3.kept st.2 (by omega)
  replace m4 := m4.kept st.2 (by omega)
  replace m5 := m5.kept st.2 (by omega)
  replace mb := mb.kept st.2 (by omega)
  replace bel := bel.grown st.2 bel.size (fun k hk => by cases hk; omega)
  replace m1 := st.1
  clear st
  have c40 := m4.cell 0 (by decide)
  have f40 := m4.frozen 0
  have st := m4.set 0 1
  replace m0 := m0.kept st.2 (by omega)
  replace m1 := m1.kept st.2 (by omega)
  replace m3 := m3.kept st.2 (by omega)
  replace m5 := m5.kept st.2 (by omega)
  replace mb := mb.kept st.2 (by omega)
  replace bel := bel.grown st.2 bel.size (fun k hk => by cases hk; omega)
  replace m4 := st.1
  clear st
  have c50 := m5.cell 0 (by decide)
  have f50 := m5.frozen 0
  have st := m5.set 0 56129
  replace m0 := m0.kept st.2 (by omega)
  replace m1 := m1.kept st.2 (by omega)
  replace m3 := m3.kept st.2 (by omega)
  replace m4 := m4.kept st.2 (by omega)
  replace mb := mb.kept st.2 (by omega)
  replace bel := bel.grown st.2 bel.size (fun k hk => by cases hk; omega)
  replace m5 := st.1
  clear st
  have c51 := m5.cell 1 (by decide)
  rw [if_neg (by decide)] at c51
  have f51 := m5.frozen 1
  have st := m5.set 1 1
  replace m0 := m0.kept st.2 (by omega)
  replace m1 := m1.kept st.2 (by omega)
  replace m3 := m3.kept st.2 (by omega)
  replace m4 := m4.kept st.2 (by omega)
  replace mb := mb.kept st.2 (by omega)
  replace bel := bel.grown st.2 bel.size (fun k hk => by cases hk; omega)
  replace m5 := st.1
  clear st
  replace m1 := m1.congr (f' := oneAt 1) fun i _ => rfl
  replace m4 := m4.congr (f' := oneAt 1) fun i _ => rfl
  replace m5 := m5.congr (f' := mZ) fun i _ => mZ_set i
  rw [hW5, hW4, hW3, hW2, hW1, hW0] at m0 m1 mb m3 m4 m5 bel qx tb c10 f10 c40 f40 c50 f50 c51 f51
  clear hW5 hW4 hW3 hW2 hW1 hW0 s0 s1 s2 s3 s4 s5 b1 b2 b3 b4 b5 gb
  clear W0 W1 W2 W3 W4 W5
  go_enter Tryz.func99, Tryz.ntmps99
  go_wp2_with (first | (with_reducible refine wpList_load_mid rfl 125 _ rfl w.heap.size 0 rfl Lx _ qx Tryz.underlying125 rfl ix.sz ?_) | (with_reducible refine wpList_store_mid rfl 125 _ _ rfl (w.heap.size + 1 + 1) 0 Lx.toArray rfl rfl tb ix.sz2 (all_oneCell_toArray ix.one) ?_; (try dsimp only); generalize World.setCells _ (w.heap.size + 1 + 1) 0 _ = W9 at m0 m1 mb m3 m4 m5 bel c10 f10 c40 f40 c50 f50 c51 f51 ⊢))
  clear qx tb c10 f10 c40 f40 c50 f50 c51 f51
  generalize ((((W9.setCell ⟨w.heap.size + 1, 0, none⟩ (.int .i64 1)).setCell ⟨w.heap.size + 1 + 1 + 1 + 1, 0, none⟩ (.int .i64 1)).setCell ⟨w.heap.size + 1 + 1 + 1 + 1 + 1, 0, none⟩ (.int .i64 56129)).setCell ⟨w.heap.size + 1 + 1 + 1 + 1 + 1, 1, none⟩ (.int .i64 1)) = wb at m0 m1 mb m3 m4 m5 bel ⊢
  obtain ⟨Ga, hGa⟩ : ∃ G, G = w.heap.size + 1 := ⟨_, rfl⟩
  rw [← hGa] at m1 mb m3 m4 m5 ⊢
  obtain ⟨Gb, hGb⟩ : ∃ G, G = Ga + 1 := ⟨_, rfl⟩
  rw [← hGb] at mb m3 m4 m5 ⊢
  obtain ⟨Gc, hGc⟩ : ∃ G, G = Gb + 1 := ⟨_, rfl⟩
  rw [← hGc] at m3 m4 m5 ⊢
  obtain ⟨Gd, hGd⟩ : ∃ G, G = Gc + 1 := ⟨_, rfl⟩
  rw [← hGd] at m4 m5 ⊢
  obtain ⟨Gm, hGm⟩ : ∃ G, G = Gd + 1 := ⟨_, rfl⟩
  rw [← hGm] at m5 ⊢
  have o1 : w.heap.size < Ga := by omega
  have o2 : Ga < Gb := by omega
  have o3 : Gb < Gc := by omega
  have o4 : Gc < Gd := by omega
  have o5 : Gd < Gm := by omega
  clear hGa hGb hGc hGd hGm
  have ra := m1
  have rb := mb
  have rc := m3
  have rd := m4
  have rm := m5
  have rx := m0
  clear m0 m1 mb m3 m4 m5
  go_loopw [10, 11] (fun l i wr => ∃ n : Nat, n ≤ 255 ∧ i = .int .i64 (254 - (n : Int)) ∧ l = .int .i64 (bitI (lastB bit n)) ∧ RowZ 125 16 wr w.heap.size w.heap.size fx ∧ RowZ 125 16 wr w.heap.size Ga (azN bit fx n).a ∧ RowZ 125 16 wr w.heap.size Gb (azN bit fx n).b ∧ RowZ 125 16 wr w.heap.size Gc (azN bit fx n).c ∧ RowZ 125 16 wr w.heap.size Gd (azN bit fx n).d ∧ RowZ 125 16 wr w.heap.size Gm mZ ∧ Below w.heap.size w wr)
    (fun _ i _ => (intOf i + 1).toNat)
  case atStart => exact ⟨0, by omega, rfl, rfl, rx, ra, rb, rc, rd, rm, bel⟩
  case round =>
    clear rx ra rb rc rd rm bel
    obtain ⟨n, hn, rfl, rfl, rx, ra, rb, rc, rd, rm, bel⟩ := hrel
    by_cases hlt : n < 255
    · obtain ⟨j, hj⟩ : ∃ j : Nat, j = 254 - n := ⟨_, rfl⟩
      have ej : (254 : Int) - (n : Int) = (j : Int) := by omega
      rw [ej]
      have lj : j < 256 := by omega
      have hge : (j : Int) ≥ 0 := by omega
      have cv := HK.out _ bel (j / 8) (by omega)
      have hvb := HB.out (j / 8)
      obtain ⟨v, hv⟩ : ∃ v : Nat, (v : Int) = ks.getD (j / 8) 0 := ⟨(ks.getD (j / 8) 0).toNat, by omega⟩
      rw [← hv] at cv
      have a7 := and7 j lj
      obtain ⟨q, hq⟩ : ∃ q : Nat, q = j / 8 := ⟨_, rfl⟩
      rw [← hq] at cv
      have eq : (j : Int) / 8 = (q : Int) := by omega
      have lq : (q : Int) < 32 := by omega
      obtain ⟨r, hr⟩ : ∃ r : Nat, r = j % 8 := ⟨_, rfl⟩
      rw [← hr] at a7
      have lr : r < 8 := by omega
      have lr' : (r : Int) < 64 := by omega
      have hvl : v < 256 := by omega
      obtain ⟨u, hu⟩ : ∃ u : Nat, u = v / 2 ^ r := ⟨_, rfl⟩
      have eu : (v : Int) / 2 ^ r = (u : Int) := by rw [hu, Int.natCast_ediv, Int.natCast_pow]; rfl
      have lu : u < 256 := by rw [hu]; exact Nat.lt_of_le_of_lt (Nat.div_le_self _ _) hvl
      have a1 := and1 u lu
      have hv2 : (ks.getD q 0).toNat = v := by rw [hq]; omega
      have ebt : decide (u % 2 = 1) = bit j := by rw [hbit.out]; unfold bitB; rw [← hq, ← hr, hv2, hu]
      rw [ebt] at a1
      obtain ⟨lb, hlb⟩ : ∃ lb, lb = lastB bit n := ⟨_, rfl⟩
      rw [← hlb]
      obtain ⟨bj, hbj⟩ : ∃ bj, bj = bit j := ⟨_, rfl⟩
      rw [← hbj] at a1
      have lvv : (v : Int) < 256 := by omega
      have luu : (u : Int) < 256 := by omega
      clear hq hr hu ebt hvb hv hv2
      have hO := HO.out n
      obtain ⟨P, hP⟩ : ∃ P, P = azN bit fx n := ⟨_, rfl⟩
      rw [← hP] at ra rb rc rd hO
      by_cases hsw : bj = lb
      · have hne : (bitI bj != bitI lb) = false := by rw [hsw]; simp
        obtain ⟨S, hSe⟩ : ∃ S, S = P := ⟨_, rfl⟩
        have hSn : Hid (azN bit fx (n + 1) = azStep fx S) := by rw [Hid, azN, hSe, hP, ← hj, ← hbj, ← hlb, hsw]; simp [azIf]
        rw [← hSe] at ra rb rc rd hO
        have hS := hO
        clear hO hSe hP hsw
        obtain ⟨La, ia⟩ : ∃ L, IsZ L S.a := ⟨_, ⟨rfl⟩⟩
        obtain ⟨Lb, ib⟩ : ∃ L, IsZ L S.b := ⟨_, ⟨rfl⟩⟩
        obtain ⟨Lc, ic⟩ : ∃ L, IsZ L S.c := ⟨_, ⟨rfl⟩⟩
        obtain ⟨Ld, id⟩ : ∃ L, IsZ L S.d := ⟨_, ⟨rfl⟩⟩
        replace hj : Hid (j = 254 - n) := hj
        replace hbj : Hid (bj = bit j) := hbj
        clear hlb
        have k1 := add_ok hS.1 hS.2.2.1
        have k2 := sub_ok hS.1 hS.2.2.1
        have k3 := add_ok hS.2.1 hS.2.2.2
        have k4 := sub_ok hS.2.1 hS.2.2.2
        have k5 := azEE_sm hS
        have k6 := azFF_sm hS
        have k7 := azHE_sm hS
        have k8 := azGF_sm hS
        have k9 := add_ok k7 k8
        have k10 := sub_ok k7 k8
        obtain ⟨Lv1, iv1⟩ : ∃ L, IsZ L (addZ S.a S.c) := ⟨_, ⟨rfl⟩⟩
        have Cv1 := fun X => cAdd ia ic iv1 hS.1.ok hS.2.2.1.ok X
        obtain ⟨Lv2, iv2⟩ : ∃ L, IsZ L (subZ S.a S.c) := ⟨_, ⟨rfl⟩⟩
        have Cv2 := fun X => cSub ia ic iv2 hS.1.ok hS.2.2.1.ok X
        obtain ⟨Lv3, iv3⟩ : ∃ L, IsZ L (addZ S.b S.d) := ⟨_, ⟨rfl⟩⟩
        have Cv3 := fun X => cAdd ib id iv3 hS.2.1.ok hS.2.2.2.ok X
        obtain ⟨Lv4, iv4⟩ : ∃ L, IsZ L (subZ S.b S.d) := ⟨_, ⟨rfl⟩⟩
        have Cv4 := fun X => cSub ib id iv4 hS.2.1.ok hS.2.2.2.ok X
        obtain ⟨Lv5, iv5⟩ : ∃ L, IsZ L (azEE S) := ⟨_, ⟨rfl⟩⟩
        have Cv5 := fun X => cMul iv1 iv1 iv5 k1 k1 X
        obtain ⟨Lv6, iv6⟩ : ∃ L, IsZ L (azFF S) := ⟨_, ⟨rfl⟩⟩
        have Cv6 := fun X => cMul iv2 iv2 iv6 k2 k2 X
        obtain ⟨Lv7, iv7⟩ : ∃ L, IsZ L (azHE S) := ⟨_, ⟨rfl⟩⟩
        have Cv7 := fun X => cMul iv4 iv1 iv7 k4 k1 X
        obtain ⟨Lv8, iv8⟩ : ∃ L, IsZ L (azGF S) := ⟨_, ⟨rfl⟩⟩
        have Cv8 := fun X => cMul iv3 iv2 iv8 k3 k2 X
        obtain ⟨Lv9, iv9⟩ : ∃ L, IsZ L (addZ (azHE S) (azGF S)) := ⟨_, ⟨rfl⟩⟩
        have Cv9 := fun X => cAdd iv7 iv8 iv9 k7.ok k8.ok X
        obtain ⟨Lv10, iv10⟩ : ∃ L, IsZ L (subZ (azHE S) (azGF S)) := ⟨_, ⟨rfl⟩⟩
        have Cv10 := fun X => cSub iv7 iv8 iv10 k7.ok k8.ok X
        obtain ⟨Ln1, in1⟩ : ∃ L, IsZ L ((azStep fx S).b) := ⟨_, ⟨rfl⟩⟩
        have Cn1 := fun X => cMul iv9 iv9 in1 k9 k9 X
        obtain ⟨Ln2, in2⟩ : ∃ L, IsZ L (mulZ (subZ (azHE S) (azGF S)) (subZ (azHE S) (azGF S))) := ⟨_, ⟨rfl⟩⟩
        have Cn2 := fun X => cMul iv10 iv10 in2 k10 k10 X
        obtain ⟨Ln3, in3⟩ : ∃ L, IsZ L ((azStep fx S).d) := ⟨_, ⟨rfl⟩⟩
        have Cn3 := fun X => cMul ix in2 in3 hx.ok (mulZ_sm k10 k10).ok X
        obtain ⟨Lv11, iv11⟩ : ∃ L, IsZ L (azW S) := ⟨_, ⟨rfl⟩⟩
        have Cv11 := fun X => cSub iv5 iv6 iv11 k5.ok k6.ok X
        obtain ⟨Ln4, in4⟩ : ∃ L, IsZ L ((azStep fx S).a) := ⟨_, ⟨rfl⟩⟩
        have Cn4 := fun X => cMul iv5 iv6 in4 k5.ok k6.ok X
        obtain ⟨Ln5, in5⟩ : ∃ L, IsZ L (mulZ (azW S) mZ) := ⟨_, ⟨rfl⟩⟩
        have Cn5 := fun X => cMul iv11 im in5 (azW_ok hS) mZ_sm.ok X
        obtain ⟨Ln6, in6⟩ : ∃ L, IsZ L (addZ (azEE S) (mulZ (azW S) mZ)) := ⟨_, ⟨rfl⟩⟩
        have Cn6 := fun X => cAdd iv5 in5 in6 k5.ok (azWM_sm hS).ok X
        obtain ⟨Ln7, in7⟩ : ∃ L, IsZ L ((azStep fx S).c) := ⟨_, ⟨rfl⟩⟩
        have Cn7 := fun X => cMul iv11 in6 in7 (azW_ok hS) (add_ok k5 (azWM_sm hS)) X
        clear k1 k2 k3 k4 k5 k6 k7 k8 k9 k10
        clear hS
        have q0 := ia.range ra
        have q1 := ic.range rc
        go_wp2_with (first | (with_reducible refine wpList_load_mid rfl 125 _ rfl Ga 0 rfl La _ q0 Tryz.underlying125 rfl ia.sz ?_) | (with_reducible refine wpList_load_mid rfl 125 _ rfl Gc 0 rfl Lc _ q1 Tryz.underlying125 rfl ic.sz ?_))
        clear q0 q1
        refine (Cv1 _).mono ?_
        rintro e wk1 ⟨rfl, bk1⟩
        have belk := below_on bel bk1
        obtain ⟨rv1, b2, tn⟩ := iv1.made wk1 w.heap.size belk.size hZ.out
        have hv1 : Gm < wk1.heap.size := by have := rm.lt; have := bk1.size; omega
        have b3 := below_on bk1 b2
        replace rx := rx.below b3
        replace ra := ra.below b3
        replace rb := rb.below b3
        replace rc := rc.below b3
        replace rd := rd.below b3
        replace rm := rm.below b3
        replace bel := below_on bel b3
        have q0 := ia.range ra
        have q1 := ic.range rc
        go_wp2_with (first | (with_reducible refine wpList_store_mid rfl 125 _ _ rfl wk1.heap.size 0 Lv1.toArray rfl rfl tn iv1.sz2 (all_oneCell_toArray iv1.one) ?_; (try dsimp only)) | (with_reducible refine wpList_load_mid rfl 125 _ rfl Ga 0 rfl La _ q0 Tryz.underlying125 rfl ia.sz ?_) | (with_reducible refine wpList_load_mid rfl 125 _ rfl Gc 0 rfl Lc _ q1 Tryz.underlying125 rfl ic.sz ?_))
        clear belk b2 b3 tn bk1 q0 q1
        generalize (wk1.alloc (.cells Z 125)).setCells wk1.heap.size 0 Lv1 = wq2 at rx ra rb rc rd rm rv1 bel ⊢
        generalize wk1.heap.size = Gv1 at rv1 hv1 ⊢
        refine (Cv2 _).mono ?_
        rintro e wk3 ⟨rfl, bk3⟩
        have belk := below_on bel bk3
        obtain ⟨rv2, b2, tn⟩ := iv2.made wk3 w.heap.size belk.size hZ.out
        have hv2 : Gm < wk3.heap.size := by have := rm.lt; have := bk3.size; omega
        have b3 := below_on bk3 b2
        replace rx := rx.below b3
        replace ra := ra.below b3
        replace rb := rb.below b3
        replace rc := rc.below b3
        replace rd := rd.below b3
        replace rm := rm.below b3
        replace rv1 := rv1.below b3
        replace bel := below_on bel b3
        have q0 := ib.range rb
        have q1 := id.range rd
        go_wp2_with (first | (with_reducible refine wpList_store_mid rfl 125 _ _ rfl wk3.heap.size 0 Lv2.toArray rfl rfl tn iv2.sz2 (all_oneCell_toArray iv2.one) ?_; (try dsimp only)) | (with_reducible refine wpList_load_mid rfl 125 _ rfl Gb 0 rfl Lb _ q0 Tryz.underlying125 rfl ib.sz ?_) | (with_reducible refine wpList_load_mid rfl 125 _ rfl Gd 0 rfl Ld _ q1 Tryz.underlying125 rfl id.sz ?_))
        clear belk b2 b3 tn bk3 q0 q1
        generalize (wk3.alloc (.cells Z 125)).setCells wk3.heap.size 0 Lv2 = wq4 at rx ra rb rc rd rm rv1 rv2 bel ⊢
        generalize wk3.heap.size = Gv2 at rv2 hv2 ⊢
        refine (Cv3 _).mono ?_
        rintro e wk5 ⟨rfl, bk5⟩
        have belk := below_on bel bk5
        obtain ⟨rv3, b2, tn⟩ := iv3.made wk5 w.heap.size belk.size hZ.out
        have hv3 : Gm < wk5.heap.size := by have := rm.lt; have := bk5.size; omega
        have b3 := below_on bk5 b2
        replace rx := rx.below b3
        replace ra := ra.below b3
        replace rb := rb.below b3
        replace rc := rc.below b3
        replace rd := rd.below b3
        replace rm := rm.below b3
        replace rv1 := rv1.below b3
        replace rv2 := rv2.below b3
        replace bel := below_on bel b3
        have q0 := ib.range rb
        have q1 := id.range rd
        go_wp2_with (first | (with_reducible refine wpList_store_mid rfl 125 _ _ rfl wk5.heap.size 0 Lv3.toArray rfl rfl tn iv3.sz2 (all_oneCell_toArray iv3.one) ?_; (try dsimp only)) | (with_reducible refine wpList_load_mid rfl 125 _ rfl Gb 0 rfl Lb _ q0 Tryz.underlying125 rfl ib.sz ?_) | (with_reducible refine wpList_load_mid rfl 125 _ rfl Gd 0 rfl Ld _ q1 Tryz.underlying125 rfl id.sz ?_))
        clear belk b2 b3 tn bk5 q0 q1
        generalize (wk5.alloc (.cells Z 125)).setCells wk5.heap.size 0 Lv3 = wq6 at rx ra rb rc rd rm rv1 rv2 rv3 bel ⊢
        generalize wk5.heap.size = Gv3 at rv3 hv3 ⊢
        refine (Cv4 _).mono ?_
        rintro e wk7 ⟨rfl, bk7⟩
        have belk := below_on bel bk7
        obtain ⟨rv4, b2, tn⟩ := iv4.made wk7 w.heap.size belk.size hZ.out
        have hv4 : Gm < wk7.heap.size := by have := rm.lt; have := bk7.size; omega
        have b3 := below_on bk7 b2
        replace rx := rx.below b3
        replace ra := ra.below b3
        replace rb := rb.below b3
        replace rc := rc.below b3
        replace rd := rd.below b3
        replace rm := rm.below b3
        replace rv1 := rv1.below b3
        replace rv2 := rv2.below b3
        replace rv3 := rv3.below b3
        replace bel := below_on bel b3
        have q0 := iv1.range rv1
        go_wp2_with (first | (with_reducible refine wpList_store_mid rfl 125 _ _ rfl wk7.heap.size 0 Lv4.toArray rfl rfl tn iv4.sz2 (all_oneCell_toArray iv4.one) ?_; (try dsimp only)) | (with_reducible refine wpList_load_mid rfl 125 _ rfl Gv1 0 rfl Lv1 _ q0 Tryz.underlying125 rfl iv1.sz ?_))
        clear belk b2 b3 tn bk7 q0
        generalize (wk7.alloc (.cells Z 125)).setCells wk7.heap.size 0 Lv4 = wq8 at rx ra rb rc rd rm rv1 rv2 rv3 rv4 bel ⊢
        generalize wk7.heap.size = Gv4 at rv4 hv4 ⊢
        refine (Cv5 _).mono ?_
        rintro e wk9 ⟨rfl, bk9⟩
        have belk := below_on bel bk9
        obtain ⟨rv5, b2, tn⟩ := iv5.made wk9 w.heap.size belk.size hZ.out
        have hv5 : Gm < wk9.heap.size := by have := rm.lt; have := bk9.size; omega
        have b3 := below_on bk9 b2
        replace rx := rx.below b3
        replace ra := ra.below b3
        replace rb := rb.below b3
        replace rc := rc.below b3
        replace rd := rd.below b3
        replace rm := rm.below b3
        replace rv1 := rv1.below b3
        replace rv2 := rv2.below b3
        replace rv3 := rv3.below b3
        replace rv4 := rv4.below b3
        replace bel := below_on bel b3
        have q0 := iv2.range rv2
        go_wp2_with (first | (with_reducible refine wpList_store_mid rfl 125 _ _ rfl wk9.heap.size 0 Lv5.toArray rfl rfl tn iv5.sz2 (all_oneCell_toArray iv5.one) ?_; (try dsimp only)) | (with_reducible refine wpList_load_mid rfl 125 _ rfl Gv2 0 rfl Lv2 _ q0 Tryz.underlying125 rfl iv2.sz ?_))
        clear belk b2 b3 tn bk9 q0
        generalize (wk9.alloc (.cells Z 125)).setCells wk9.heap.size 0 Lv5 = wq10 at rx ra rb rc rd rm rv1 rv2 rv3 rv4 rv5 bel ⊢
        generalize wk9.heap.size = Gv5 at rv5 hv5 ⊢
        refine (Cv6 _).mono ?_
        rintro e wk11 ⟨rfl, bk11⟩
        have belk := below_on bel bk11
        obtain ⟨rv6, b2, tn⟩ := iv6.made wk11 w.heap.size belk.size hZ.out
        have hv6 : Gm < wk11.heap.size := by have := rm.lt; have := bk11.size; omega
        have b3 := below_on bk11 b2
        replace rx := rx.below b3
        replace ra := ra.below b3
        replace rb := rb.below b3
        replace rc := rc.below b3
        replace rd := rd.below b3
        replace rm := rm.below b3
        replace rv1 := rv1.below b3
        replace rv2 := rv2.below b3
        replace rv3 := rv3.below b3
        replace rv4 := rv4.below b3
        replace rv5 := rv5.below b3
        replace bel := below_on bel b3
        have q0 := iv4.range rv4
        have q1 := iv1.range rv1
        go_wp2_with (first | (with_reducible refine wpList_store_mid rfl 125 _ _ rfl wk11.heap.size 0 Lv6.toArray rfl rfl tn iv6.sz2 (all_oneCell_toArray iv6.one) ?_; (try dsimp only)) | (with_reducible refine wpList_load_mid rfl 125 _ rfl Gv4 0 rfl Lv4 _ q0 Tryz.underlying125 rfl iv4.sz ?_) | (with_reducible refine wpList_load_mid rfl 125 _ rfl Gv1 0 rfl Lv1 _ q1 Tryz.underlying125 rfl iv1.sz ?_))
        clear belk b2 b3 tn bk11 q0 q1
        generalize (wk11.alloc (.cells Z 125)).setCells wk11.heap.size 0 Lv6 = wq12 at rx ra rb rc rd rm rv1 rv2 rv3 rv4 rv5 rv6 bel ⊢
        generalize wk11.heap.size = Gv6 at rv6 hv6 ⊢
        refine (Cv7 _).mono ?_
        rintro e wk13 ⟨rfl, bk13⟩
        have belk := below_on bel bk13
        obtain ⟨rv7, b2, tn⟩ := iv7.made wk13 w.heap.size belk.size hZ.out
        have hv7 : Gm < wk13.heap.size := by have := rm.lt; have := bk13.size; omega
        have b3 := below_on bk13 b2
        replace rx := rx.below b3
        replace ra := ra.below b3
        replace rb := rb.below b3
        replace rc := rc.below b3
        replace rd := rd.below b3
        replace rm := rm.below b3
        replace rv1 := rv1.below b3
        replace rv2 := rv2.below b3
        replace rv3 := rv3.below b3
        replace rv4 := rv4.below b3
        replace rv5 := rv5.below b3
        replace rv6 := rv6.below b3
        replace bel := below_on bel b3
        have q0 := iv3.range rv3
        have q1 := iv2.range rv2
        go_wp2_with (first | (with_reducible refine wpList_store_mid rfl 125 _ _ rfl wk13.heap.size 0 Lv7.toArray rfl rfl tn iv7.sz2 (all_oneCell_toArray iv7.one) ?_; (try dsimp only)) | (with_reducible refine wpList_load_mid rfl 125 _ rfl Gv3 0 rfl Lv3 _ q0 Tryz.underlying125 rfl iv3.sz ?_) | (with_reducible refine wpList_load_mid rfl 125 _ rfl Gv2 0 rfl Lv2 _ q1 Tryz.underlying125 rfl iv2.sz ?_))
        clear belk b2 b3 tn bk13 q0 q1
        clear rv1 rv4
        generalize (wk13.alloc (.cells Z 125)).setCells wk13.heap.size 0 Lv7 = wq14 at rx ra rb rc rd rm rv2 rv3 rv5 rv6 rv7 bel ⊢
        generalize wk13.heap.size = Gv7 at rv7 hv7 ⊢
        refine (Cv8 _).mono ?_
        rintro e wk15 ⟨rfl, bk15⟩
        have belk := below_on bel bk15
        obtain ⟨rv8, b2, tn⟩ := iv8.made wk15 w.heap.size belk.size hZ.out
        have hv8 : Gm < wk15.heap.size := by have := rm.lt; have := bk15.size; omega
        have b3 := below_on bk15 b2
        replace rx := rx.below b3
        replace ra := ra.below b3
        replace rb := rb.below b3
        replace rc := rc.below b3
        replace rd := rd.below b3
        replace rm := rm.below b3
        replace rv2 := rv2.below b3
        replace rv3 := rv3.below b3
        replace rv5 := rv5.below b3
        replace rv6 := rv6.below b3
        replace rv7 := rv7.below b3
        replace bel := below_on bel b3
        have q0 := iv7.range rv7
        have q1 := iv8.range rv8
        go_wp2_with (first | (with_reducible refine wpList_store_mid rfl 125 _ _ rfl wk15.heap.size 0 Lv8.toArray rfl rfl tn iv8.sz2 (all_oneCell_toArray iv8.one) ?_; (try dsimp only)) | (with_reducible refine wpList_load_mid rfl 125 _ rfl Gv7 0 rfl Lv7 _ q0 Tryz.underlying125 rfl iv7.sz ?_) | (with_reducible refine wpList_load_mid rfl 125 _ rfl _ 0 rfl Lv8 _ q1 Tryz.underlying125 rfl iv8.sz ?_))
        clear belk b2 b3 tn bk15 q0 q1
        clear rv2 rv3
        generalize (wk15.alloc (.cells Z 125)).setCells wk15.heap.size 0 Lv8 = wq16 at rx ra rb rc rd rm rv5 rv6 rv7 rv8 bel ⊢
        generalize wk15.heap.size = Gv8 at rv8 hv8 ⊢
        refine (Cv9 _).mono ?_
        rintro e wk17 ⟨rfl, bk17⟩
        have belk := below_on bel bk17
        obtain ⟨rv9, b2, tn⟩ := iv9.made wk17 w.heap.size belk.size hZ.out
        have hv9 : Gm < wk17.heap.size := by have := rm.lt; have := bk17.size; omega
        have b3 := below_on bk17 b2
        replace rx := rx.below b3
        replace ra := ra.below b3
        replace rb := rb.below b3
        replace rc := rc.below b3
        replace rd := rd.below b3
        replace rm := rm.below b3
        replace rv5 := rv5.below b3
        replace rv6 := rv6.below b3
        replace rv7 := rv7.below b3
        replace rv8 := rv8.below b3
        replace bel := below_on bel b3
        have q0 := iv7.range rv7
        have q1 := iv8.range rv8
        go_wp2_with (first | (with_reducible refine wpList_store_mid rfl 125 _ _ rfl wk17.heap.size 0 Lv9.toArray rfl rfl tn iv9.sz2 (all_oneCell_toArray iv9.one) ?_; (try dsimp only)) | (with_reducible refine wpList_load_mid rfl 125 _ rfl Gv7 0 rfl Lv7 _ q0 Tryz.underlying125 rfl iv7.sz ?_) | (with_reducible refine wpList_load_mid rfl 125 _ rfl Gv8 0 rfl Lv8 _ q1 Tryz.underlying125 rfl iv8.sz ?_))
        clear belk b2 b3 tn bk17 q0 q1
        generalize (wk17.alloc (.cells Z 125)).setCells wk17.heap.size 0 Lv9 = wq18 at rx ra rb rc rd rm rv5 rv6 rv7 rv8 rv9 bel ⊢
        generalize wk17.heap.size = Gv9 at rv9 hv9 ⊢
        refine (Cv10 _).mono ?_
        rintro e wk19 ⟨rfl, bk19⟩
        have belk := below_on bel bk19
        obtain ⟨rv10, b2, tn⟩ := iv10.made wk19 w.heap.size belk.size hZ.out
        have hv10 : Gm < wk19.heap.size := by have := rm.lt; have := bk19.size; omega
        have b3 := below_on bk19 b2
        replace rx := rx.below b3
        replace ra := ra.below b3
        replace rb := rb.below b3
        replace rc := rc.below b3
        replace rd := rd.below b3
        replace rm := rm.below b3
        replace rv5 := rv5.below b3
        replace rv6 := rv6.below b3
        replace rv7 := rv7.below b3
        replace rv8 := rv8.below b3
        replace rv9 := rv9.below b3
        replace bel := below_on bel b3
        have q0 := iv9.range rv9
        go_wp2_with (first | (with_reducible refine wpList_store_mid rfl 125 _ _ rfl wk19.heap.size 0 Lv10.toArray rfl rfl tn iv10.sz2 (all_oneCell_toArray iv10.one) ?_; (try dsimp only)) | (with_reducible refine wpList_load_mid rfl 125 _ rfl Gv9 0 rfl Lv9 _ q0 Tryz.underlying125 rfl iv9.sz ?_))
        clear belk b2 b3 tn bk19 q0
        clear rv7 rv8
        generalize (wk19.alloc (.cells Z 125)).setCells wk19.heap.size 0 Lv10 = wq20 at rx ra rb rc rd rm rv5 rv6 rv9 rv10 bel ⊢
        generalize wk19.heap.size = Gv10 at rv10 hv10 ⊢
        refine (Cn1 _).mono ?_
        rintro e wk21 ⟨rfl, bk21⟩
        replace rx := rx.below bk21
        replace ra := ra.below bk21
        replace rb := rb.below bk21
        replace rc := rc.below bk21
        replace rd := rd.below bk21
        replace rm := rm.below bk21
        replace rv5 := rv5.below bk21
        replace rv6 := rv6.below bk21
        replace rv9 := rv9.below bk21
        replace rv10 := rv10.below bk21
        replace bel := below_on bel bk21
        have rlo := rb.lt
        obtain ⟨rb', gn, tn⟩ := in1.put rb
        replace rx := rx.kept gn (by omega)
        replace ra := ra.kept gn (by omega)
        replace rc := rc.kept gn (by omega)
        replace rd := rd.kept gn (by omega)
        replace rm := rm.kept gn (by omega)
        replace rv5 := rv5.kept gn (by omega)
        replace rv6 := rv6.kept gn (by omega)
        replace rv9 := rv9.kept gn (by omega)
        replace rv10 := rv10.kept gn (by omega)
        replace bel := bel.grown gn (by omega) (fun k hk => by cases hk; exact rlo.1)
        clear rb rlo
        have rb := rb'
        clear rb'
        go_wp2_with (first | (with_reducible refine wpList_store_mid rfl 125 _ _ rfl Gb 0 Ln1.toArray rfl rfl tn in1.sz2 (all_oneCell_toArray in1.one) ?_; (try dsimp only)))
        clear tn gn bk21
        clear rv9
        generalize wk21.setCells Gb 0 Ln1 = wq22 at rx ra rb rc rd rm rv5 rv6 rv10 bel ⊢
        have hd0 : Below wq22.heap.size wq22 wq22.drew := (Below.refl _ _).drew
        refine wp_region_noPanic ?_
        refine wp_region_T 99 (fun X => X.rangeAt w.heap.size 0 Lx ∧ X.rangeAt Gv10 0 Lv10) (fun _ => True) (by kernel_rfl) ?_
        generalize wq22.drew = wd23 at hd0 ⊢
        replace rx := rx.below hd0
        replace ra := ra.below hd0
        replace rb := rb.below hd0
        replace rc := rc.below hd0
        replace rd := rd.below hd0
        replace rm := rm.below hd0
        replace rv5 := rv5.below hd0
        replace rv6 := rv6.below hd0
        replace rv10 := rv10.below hd0
        replace bel := below_on bel hd0
        clear hd0
        have hT : wd23.rangeAt w.heap.size 0 Lx ∧ wd23.rangeAt Gv10 0 Lv10 := ⟨ix.range rx, iv10.range rv10⟩
        refine anyT_takeT (i := 0) rfl (by kernel_rfl) (by kernel_rfl) (by kernel_rfl) (by kernel_rfl) (fun _ _ _ h => h) (yieldsIf_load_mid (by rfl) _ _ rfl _ _ rfl Lx _ (fun _ hw => hw.1) Tryz.underlying125 rfl ix.sz) hT (fun _ => trivial) ?_
        simp only [Act.put, List.getElem_toArray, List.getElem_cons_zero, List.setIfInBounds_toArray, List.set_cons_zero, List.set_cons_succ]
        refine anyT_takeT (i := 1) rfl (by kernel_rfl) (by kernel_rfl) (by kernel_rfl) (by kernel_rfl) (fun _ _ _ h => h) (yieldsIf_load_mid (by rfl) _ _ rfl _ _ rfl Lv10 _ (fun _ hw => hw.2) Tryz.underlying125 rfl iv10.sz) hT (fun _ => trivial) ?_
        simp only [Act.put, List.getElem_toArray, List.getElem_cons_zero, List.getElem_cons_succ, List.setIfInBounds_toArray, List.set_cons_zero, List.set_cons_succ]
        refine anyT_takeT (i := 2) rfl (by kernel_rfl) (by kernel_rfl) (by kernel_rfl) (by kernel_rfl) (fun _ _ _ h => h) (yieldsIf_load_mid (by rfl) _ _ rfl _ _ rfl Lv10 _ (fun _ hw => hw.2) Tryz.underlying125 rfl iv10.sz) hT (fun _ => trivial) ?_
        simp only [Act.put, List.getElem_toArray, List.getElem_cons_zero, List.getElem_cons_succ, List.setIfInBounds_toArray, List.set_cons_zero, List.set_cons_succ]
        refine anyT_one (i := 3) (by kernel_rfl) rfl (fun K hK => ?_)
        go_simp
        refine (Cn2 _).mono ?_
        rintro e wc24 ⟨rfl, bc⟩
        replace rx := rx.below bc
        replace ra := ra.below bc
        replace rb := rb.below bc
        replace rc := rc.below bc
        replace rd := rd.below bc
        replace rm := rm.below bc
        replace rv5 := rv5.below bc
        replace rv6 := rv6.below bc
        replace rv10 := rv10.below bc
        replace bel := below_on bel bc
        go_wp2_with (fail)
        refine hK.out _ _ ⟨ix.range rx, iv10.range rv10⟩ (fun _ => trivial) ?_
        clear hK K bc
        refine anyT_one (i := 4) (by kernel_rfl) rfl (fun K hK => ?_)
        go_simp
        refine (Cn3 _).mono ?_
        rintro e wc25 ⟨rfl, bc⟩
        replace rx := rx.below bc
        replace ra := ra.below bc
        replace rb := rb.below bc
        replace rc := rc.below bc
        replace rd := rd.below bc
        replace rm := rm.below bc
        replace rv5 := rv5.below bc
        replace rv6 := rv6.below bc
        replace rv10 := rv10.below bc
        replace bel := below_on bel bc
        go_wp2_with (fail)
        refine hK.out _ _ ⟨ix.range rx, iv10.range rv10⟩ (fun _ => trivial) ?_
        clear hK K bc
        clear hT
        have rlo := rd.lt
        obtain ⟨rd', gn, tn⟩ := in3.put rd
        replace rx := rx.kept gn (by omega)
        replace ra := ra.kept gn (by omega)
        replace rb := rb.kept gn (by omega)
        replace rc := rc.kept gn (by omega)
        replace rm := rm.kept gn (by omega)
        replace rv5 := rv5.kept gn (by omega)
        replace rv6 := rv6.kept gn (by omega)
        replace rv10 := rv10.kept gn (by omega)
        replace bel := bel.grown gn (by omega) (fun k hk => by cases hk; exact rlo.1)
        clear rd rlo
        have rd := rd'
        clear rd'
        refine anyT_one (i := 5) (by kernel_rfl) rfl (fun K hK => ?_)
        refine wp_store_mid 125 _ _ rfl Gd 0 Ln3.toArray rfl rfl tn in3.sz2 (all_oneCell_toArray in3.one) ?_
        (try dsimp only)
        refine hK.out _ _ ⟨ix.range rx, iv10.range rv10⟩ (fun _ => trivial) ?_
        clear hK K
        refine anyT_done (by kernel_rfl) ?_ _
        refine NoPanic.normal ?_
        clear tn gn
        clear rv10
        generalize wc25.setCells Gd 0 Ln3 = wq26 at rx ra rb rc rd rm rv5 rv6 bel ⊢
        have q0 := iv5.range rv5
        have q1 := iv6.range rv6
        go_wp2_with (first | (with_reducible refine wpList_load_mid rfl 125 _ rfl Gv5 0 rfl Lv5 _ q0 Tryz.underlying125 rfl iv5.sz ?_) | (with_reducible refine wpList_load_mid rfl 125 _ rfl _ 0 rfl Lv6 _ q1 Tryz.underlying125 rfl iv6.sz ?_))
        clear q0 q1
        refine (Cv11 _).mono ?_
        rintro e wk27 ⟨rfl, bk27⟩
        have belk := below_on bel bk27
        obtain ⟨rv11, b2, tn⟩ := iv11.made wk27 w.heap.size belk.size hZ.out
        have hv11 : Gm < wk27.heap.size := by have := rm.lt; have := bk27.size; omega
        have b3 := below_on bk27 b2
        replace rx := rx.below b3
        replace ra := ra.below b3
        replace rb := rb.below b3
        replace rc := rc.below b3
        replace rd := rd.below b3
        replace rm := rm.below b3
        replace rv5 := rv5.below b3
        replace rv6 := rv6.below b3
        replace bel := below_on bel b3
        have q0 := iv5.range rv5
        have q1 := iv6.range rv6
        go_wp2_with (first | (with_reducible refine wpList_store_mid rfl 125 _ _ rfl wk27.heap.size 0 Lv11.toArray rfl rfl tn iv11.sz2 (all_oneCell_toArray iv11.one) ?_; (try dsimp only)) | (with_reducible refine wpList_load_mid rfl 125 _ rfl Gv5 0 rfl Lv5 _ q0 Tryz.underlying125 rfl iv5.sz ?_) | (with_reducible refine wpList_load_mid rfl 125 _ rfl Gv6 0 rfl Lv6 _ q1 Tryz.underlying125 rfl iv6.sz ?_))
        clear belk b2 b3 tn bk27 q0 q1
        generalize (wk27.alloc (.cells Z 125)).setCells wk27.heap.size 0 Lv11 = wq28 at rx ra rb rc rd rm rv5 rv6 rv11 bel ⊢
        generalize wk27.heap.size = Gv11 at rv11 hv11 ⊢
        refine (Cn4 _).mono ?_
        rintro e wk29 ⟨rfl, bk29⟩
        replace rx := rx.below bk29
        replace ra := ra.below bk29
        replace rb := rb.below bk29
        replace rc := rc.below bk29
        replace rd := rd.below bk29
        replace rm := rm.below bk29
        replace rv5 := rv5.below bk29
        replace rv6 := rv6.below bk29
        replace rv11 := rv11.below bk29
        replace bel := below_on bel bk29
        have rlo := ra.lt
        obtain ⟨ra', gn, tn⟩ := in4.put ra
        replace rx := rx.kept gn (by omega)
        replace rb := rb.kept gn (by omega)
        replace rc := rc.kept gn (by omega)
        replace rd := rd.kept gn (by omega)
        replace rm := rm.kept gn (by omega)
        replace rv5 := rv5.kept gn (by omega)
        replace rv6 := rv6.kept gn (by omega)
        replace rv11 := rv11.kept gn (by omega)
        replace bel := bel.grown gn (by omega) (fun k hk => by cases hk; exact rlo.1)
        clear ra rlo
        have ra := ra'
        clear ra'
        go_wp2_with (first | (with_reducible refine wpList_store_mid rfl 125 _ _ rfl Ga 0 Ln4.toArray rfl rfl tn in4.sz2 (all_oneCell_toArray in4.one) ?_; (try dsimp only)))
        clear tn gn bk29
        clear rv6
        generalize wk29.setCells Ga 0 Ln4 = wq30 at rx ra rb rc rd rm rv5 rv11 bel ⊢
        have hd0 : Below wq30.heap.size wq30 wq30.drew := (Below.refl _ _).drew
        refine wp_region_noPanic ?_
        refine wp_region_T 99 (fun X => X.rangeAt Gv11 0 Lv11 ∧ X.rangeAt Gv5 0 Lv5 ∧ X.rangeAt Gm 0 Lm) (fun _ => True) (by kernel_rfl) ?_
        generalize wq30.drew = wd31 at hd0 ⊢
        replace rx := rx.below hd0
        replace ra := ra.below hd0
        replace rb := rb.below hd0
        replace rc := rc.below hd0
        replace rd := rd.below hd0
        replace rm := rm.below hd0
        replace rv5 := rv5.below hd0
        replace rv11 := rv11.below hd0
        replace bel := below_on bel hd0
        clear hd0
        have hT : wd31.rangeAt Gv11 0 Lv11 ∧ wd31.rangeAt Gv5 0 Lv5 ∧ wd31.rangeAt Gm 0 Lm := ⟨iv11.range rv11, iv5.range rv5, im.range rm⟩
        refine anyT_takeT (i := 0) rfl (by kernel_rfl) (by kernel_rfl) (by kernel_rfl) (by kernel_rfl) (fun _ _ _ h => h) (yieldsIf_load_mid (by rfl) _ _ rfl _ _ rfl Lv11 _ (fun _ hw => hw.1) Tryz.underlying125 rfl iv11.sz) hT (fun _ => trivial) ?_
        simp only [Act.put, List.getElem_toArray, List.getElem_cons_zero, List.setIfInBounds_toArray, List.set_cons_zero, List.set_cons_succ]
        refine anyT_takeT (i := 1) rfl (by kernel_rfl) (by kernel_rfl) (by kernel_rfl) (by kernel_rfl) (fun _ _ _ h => h) (yieldsIf_load_mid (by rfl) _ _ rfl _ _ rfl Lv5 _ (fun _ hw => hw.2.1) Tryz.underlying125 rfl iv5.sz) hT (fun _ => trivial) ?_
        simp only [Act.put, List.getElem_toArray, List.getElem_cons_zero, List.getElem_cons_succ, List.setIfInBounds_toArray, List.set_cons_zero, List.set_cons_succ]
        refine anyT_takeT (i := 2) rfl (by kernel_rfl) (by kernel_rfl) (by kernel_rfl) (by kernel_rfl) (fun _ _ _ h => h) (yieldsIf_load_mid (by rfl) _ _ rfl _ _ rfl Lv11 _ (fun _ hw => hw.1) Tryz.underlying125 rfl iv11.sz) hT (fun _ => trivial) ?_
        simp only [Act.put, List.getElem_toArray, List.getElem_cons_zero, List.getElem_cons_succ, List.setIfInBounds_toArray, List.set_cons_zero, List.set_cons_succ]
        refine anyT_takeT (i := 3) rfl (by kernel_rfl) (by kernel_rfl) (by kernel_rfl) (by kernel_rfl) (fun _ _ _ h => h) (yieldsIf_load_mid (by rfl) _ _ rfl _ _ rfl Lm _ (fun _ hw => hw.2.2) Tryz.underlying125 rfl im.sz) hT (fun _ => trivial) ?_
        simp only [Act.put, List.getElem_toArray, List.getElem_cons_zero, List.getElem_cons_succ, List.setIfInBounds_toArray, List.set_cons_zero, List.set_cons_succ]
        refine anyT_one (i := 4) (by kernel_rfl) rfl (fun K hK => ?_)
        go_simp
        refine (Cn5 _).mono ?_
        rintro e wc32 ⟨rfl, bc⟩
        replace rx := rx.below bc
        replace ra := ra.below bc
        replace rb := rb.below bc
        replace rc := rc.below bc
        replace rd := rd.below bc
        replace rm := rm.below bc
        replace rv5 := rv5.below bc
        replace rv11 := rv11.below bc
        replace bel := below_on bel bc
        go_wp2_with (fail)
        refine hK.out _ _ ⟨iv11.range rv11, iv5.range rv5, im.range rm⟩ (fun _ => trivial) ?_
        clear hK K bc
        refine anyT_one (i := 5) (by kernel_rfl) rfl (fun K hK => ?_)
        go_simp
        refine (Cn6 _).mono ?_
        rintro e wc33 ⟨rfl, bc⟩
        replace rx := rx.below bc
        replace ra := ra.below bc
        replace rb := rb.below bc
        replace rc := rc.below bc
        replace rd := rd.below bc
        replace rm := rm.below bc
        replace rv5 := rv5.below bc
        replace rv11 := rv11.below bc
        replace bel := below_on bel bc
        go_wp2_with (fail)
        refine hK.out _ _ ⟨iv11.range rv11, iv5.range rv5, im.range rm⟩ (fun _ => trivial) ?_
        clear hK K bc
        refine anyT_one (i := 6) (by kernel_rfl) rfl (fun K hK => ?_)
        go_simp
        refine (Cn7 _).mono ?_
        rintro e wc34 ⟨rfl, bc⟩
        replace rx := rx.below bc
        replace ra := ra.below bc
        replace rb := rb.below bc
        replace rc := rc.below bc
        replace rd := rd.below bc
        replace rm := rm.below bc
        replace rv5 := rv5.below bc
        replace rv11 := rv11.below bc
        replace bel := below_on bel bc
        go_wp2_with (fail)
        refine hK.out _ _ ⟨iv11.range rv11, iv5.range rv5, im.range rm⟩ (fun _ => trivial) ?_
        clear hK K bc
        clear hT
        have rlo := rc.lt
        obtain ⟨rc', gn, tn⟩ := in7.put rc
        replace rx := rx.kept gn (by omega)
        replace ra := ra.kept gn (by omega)
        replace rb := rb.kept gn (by omega)
        replace rd := rd.kept gn (by omega)
        replace rm := rm.kept gn (by omega)
        replace rv5 := rv5.kept gn (by omega)
        replace rv11 := rv11.kept gn (by omega)
        replace bel := bel.grown gn (by omega) (fun k hk => by cases hk; exact rlo.1)
        clear rc rlo
        have rc := rc'
        clear rc'
        refine anyT_one (i := 7) (by kernel_rfl) rfl (fun K hK => ?_)
        refine wp_store_mid 125 _ _ rfl Gc 0 Ln7.toArray rfl rfl tn in7.sz2 (all_oneCell_toArray in7.one) ?_
        (try dsimp only)
        refine hK.out _ _ ⟨iv11.range rv11, iv5.range rv5, im.range rm⟩ (fun _ => trivial) ?_
        clear hK K
        refine anyT_done (by kernel_rfl) ?_ _
        refine NoPanic.normal ?_
        clear tn gn
        clear rv5 rv11
        generalize wc34.setCells Gc 0 Ln7 = wq35 at rx ra rb rc rd rm bel ⊢
        go_wp2_with (fail)
        go_roundw
        case rel => exact ⟨n + 1, by omega, by have := hj.out; congr 1; omega, by rw [hbj.out, hj.out]; unfold lastB; rw [if_neg (by omega), show 255 - (n + 1) = 254 - n by omega], rx, by rw [hSn.out]; exact ra, by rw [hSn.out]; exact rb, by rw [hSn.out]; exact rc, by rw [hSn.out]; exact rd, rm, bel⟩
        case measure => simp [intOf]
      · have hne : (bitI bj != bitI lb) = true := by cases bj <;> cases lb <;> simp_all [bitI]
        have hsb : (bj != lb) = true := by simpa using hsw
        obtain ⟨S, hSe⟩ : ∃ S, S = azSw P := ⟨_, rfl⟩
        have hSn : Hid (azN bit fx (n + 1) = azStep fx S) := by rw [Hid, azN, hSe, hP, ← hj, ← hbj, ← hlb, hsb]; rfl
        have hS : azOk S := by rw [hSe]; exact ⟨hO.2.1, hO.1, hO.2.2.2, hO.2.2.1⟩
        have ra0 : RowZ 125 16 wr w.heap.size Ga S.b := by rw [hSe]; exact ra
        have rb0 : RowZ 125 16 wr w.heap.size Gb S.a := by rw [hSe]; exact rb
        have rc0 : RowZ 125 16 wr w.heap.size Gc S.d := by rw [hSe]; exact rc
        have rd0 : RowZ 125 16 wr w.heap.size Gd S.c := by rw [hSe]; exact rd
        clear ra rb rc rd hO hSe hP hsw hsb
        have ra := ra0
        have rb := rb0
        have rc := rc0
        have rd := rd0
        clear ra0 rb0 rc0 rd0
        obtain ⟨La, ia⟩ : ∃ L, IsZ L S.a := ⟨_, ⟨rfl⟩⟩
        obtain ⟨Lb, ib⟩ : ∃ L, IsZ L S.b := ⟨_, ⟨rfl⟩⟩
        obtain ⟨Lc, ic⟩ : ∃ L, IsZ L S.c := ⟨_, ⟨rfl⟩⟩
        obtain ⟨Ld, id⟩ : ∃ L, IsZ L S.d := ⟨_, ⟨rfl⟩⟩
        replace hj : Hid (j = 254 - n) := hj
        replace hbj : Hid (bj = bit j) := hbj
        clear hlb
        have k1 := add_ok hS.1 hS.2.2.1
        have k2 := sub_ok hS.1 hS.2.2.1
        have k3 := add_ok hS.2.1 hS.2.2.2
        have k4 := sub_ok hS.2.1 hS.2.2.2
        have k5 := azEE_sm hS
        have k6 := azFF_sm hS
        have k7 := azHE_sm hS
        have k8 := azGF_sm hS
        have k9 := add_ok k7 k8
        have k10 := sub_ok k7 k8
        obtain ⟨Lv1, iv1⟩ : ∃ L, IsZ L (addZ S.a S.c) := ⟨_, ⟨rfl⟩⟩
        have Cv1 := fun X => cAdd ia ic iv1 hS.1.ok hS.2.2.1.ok X
        obtain ⟨Lv2, iv2⟩ : ∃ L, IsZ L (subZ S.a S.c) := ⟨_, ⟨rfl⟩⟩
        have Cv2 := fun X => cSub ia ic iv2 hS.1.ok hS.2.2.1.ok X
        obtain ⟨Lv3, iv3⟩ : ∃ L, IsZ L (addZ S.b S.d) := ⟨_, ⟨rfl⟩⟩
        have Cv3 := fun X => cAdd ib id iv3 hS.2.1.ok hS.2.2.2.ok X
        obtain ⟨Lv4, iv4⟩ : ∃ L, IsZ L (subZ S.b S.d) := ⟨_, ⟨rfl⟩⟩
        have Cv4 := fun X => cSub ib id iv4 hS.2.1.ok hS.2.2.2.ok X
        obtain ⟨Lv5, iv5⟩ : ∃ L, IsZ L (azEE S) := ⟨_, ⟨rfl⟩⟩
        have Cv5 := fun X => cMul iv1 iv1 iv5 k1 k1 X
        obtain ⟨Lv6, iv6⟩ : ∃ L, IsZ L (azFF S) := ⟨_, ⟨rfl⟩⟩
        have Cv6 := fun X => cMul iv2 iv2 iv6 k2 k2 X
        obtain ⟨Lv7, iv7⟩ : ∃ L, IsZ L (azHE S) := ⟨_, ⟨rfl⟩⟩
        have Cv7 := fun X => cMul iv4 iv1 iv7 k4 k1 X
        obtain ⟨Lv8, iv8⟩ : ∃ L, IsZ L (azGF S) := ⟨_, ⟨rfl⟩⟩
        have Cv8 := fun X => cMul iv3 iv2 iv8 k3 k2 X
        obtain ⟨Lv9, iv9⟩ : ∃ L, IsZ L (addZ (azHE S) (azGF S)) := ⟨_, ⟨rfl⟩⟩
        have Cv9 := fun X => cAdd iv7 iv8 iv9 k7.ok k8.ok X
        obtain ⟨Lv10, iv10⟩ : ∃ L, IsZ L (subZ (azHE S) (azGF S)) := ⟨_, ⟨rfl⟩⟩
        have Cv10 := fun X => cSub iv7 iv8 iv10 k7.ok k8.ok X
        obtain ⟨Ln1, in1⟩ : ∃ L, IsZ L ((azStep fx S).b) := ⟨_, ⟨rfl⟩⟩
        have Cn1 := fun X => cMul iv9 iv9 in1 k9 k9 X
        obtain ⟨Ln2, in2⟩ : ∃ L, IsZ L (mulZ (subZ (azHE S) (azGF S)) (subZ (azHE S) (azGF S))) := ⟨_, ⟨rfl⟩⟩
        have Cn2 := fun X => cMul iv10 iv10 in2 k10 k10 X
        obtain ⟨Ln3, in3⟩ : ∃ L, IsZ L ((azStep fx S).d) := ⟨_, ⟨rfl⟩⟩
        have Cn3 := fun X => cMul ix in2 in3 hx.ok (mulZ_sm k10 k10).ok X
        obtain ⟨Lv11, iv11⟩ : ∃ L, IsZ L (azW S) := ⟨_, ⟨rfl⟩⟩
        have Cv11 := fun X => cSub iv5 iv6 iv11 k5.ok k6.ok X
        obtain ⟨Ln4, in4⟩ : ∃ L, IsZ L ((azStep fx S).a) := ⟨_, ⟨rfl⟩⟩
        have Cn4 := fun X => cMul iv5 iv6 in4 k5.ok k6.ok X
        obtain ⟨Ln5, in5⟩ : ∃ L, IsZ L (mulZ (azW S) mZ) := ⟨_, ⟨rfl⟩⟩
        have Cn5 := fun X => cMul iv11 im in5 (azW_ok hS) mZ_sm.ok X
        obtain ⟨Ln6, in6⟩ : ∃ L, IsZ L (addZ (azEE S) (mulZ (azW S) mZ)) := ⟨_, ⟨rfl⟩⟩
        have Cn6 := fun X => cAdd iv5 in5 in6 k5.ok (azWM_sm hS).ok X
        obtain ⟨Ln7, in7⟩ : ∃ L, IsZ L ((azStep fx S).c) := ⟨_, ⟨rfl⟩⟩
        have Cn7 := fun X => cMul iv11 in6 in7 (azW_ok hS) (add_ok k5 (azWM_sm hS)) X
        clear k1 k2 k3 k4 k5 k6 k7 k8 k9 k10
        clear hS
        have p1 := ib.range ra
        obtain ⟨rt, bq, t1⟩ := ib.made wr w.heap.size bel.size hZ.out
        have ht : Gm < wr.heap.size := rm.lt.2
        replace rx := rx.below bq
        replace ra := ra.below bq
        replace rb := rb.below bq
        replace rc := rc.below bq
        replace rd := rd.below bq
        replace rm := rm.below bq
        replace bel := below_on bel bq
        have p2 := ia.range rb
        have rlo := ra.lt
        obtain ⟨rr, gq, t2⟩ := ia.put ra
        replace rx := rx.kept gq (by omega)
        replace rb := rb.kept gq (by omega)
        replace rc := rc.kept gq (by omega)
        replace rd := rd.kept gq (by omega)
        replace rm := rm.kept gq (by omega)
        replace rt := rt.kept gq (by omega)
        replace bel := bel.grown gq bel.size (fun k hk => by cases hk; exact rlo.1)
        clear ra rlo gq
        have ra := rr
        clear rr
        have p3 := ib.range rt
        have rlo := rb.lt
        obtain ⟨rr, gq, t3⟩ := ib.put rb
        replace rx := rx.kept gq (by omega)
        replace ra := ra.kept gq (by omega)
        replace rc := rc.kept gq (by omega)
        replace rd := rd.kept gq (by omega)
        replace rm := rm.kept gq (by omega)
        replace rt := rt.kept gq (by omega)
        replace bel := bel.grown gq bel.size (fun k hk => by cases hk; exact rlo.1)
        clear rb rlo gq
        have rb := rr
        clear rr
        have p4 := id.range rc
        have rlo := rt.lt
        obtain ⟨rr, gq, t4⟩ := id.put rt
        replace rx := rx.kept gq (by omega)
        replace ra := ra.kept gq (by omega)
        replace rb := rb.kept gq (by omega)
        replace rc := rc.kept gq (by omega)
        replace rd := rd.kept gq (by omega)
        replace rm := rm.kept gq (by omega)
        replace bel := bel.grown gq bel.size (fun k hk => by cases hk; exact rlo.1)
        clear rt rlo gq
        have rt := rr
        clear rr
        have p5 := ic.range rd
        have rlo := rc.lt
        obtain ⟨rr, gq, t5⟩ := ic.put rc
        replace rx := rx.kept gq (by omega)
        replace ra := ra.kept gq (by omega)
        replace rb := rb.kept gq (by omega)
        replace rd := rd.kept gq (by omega)
        replace rm := rm.kept gq (by omega)
        replace rt := rt.kept gq (by omega)
        replace bel := bel.grown gq bel.size (fun k hk => by cases hk; exact rlo.1)
        clear rc rlo gq
        have rc := rr
        clear rr
        have p6 := id.range rt
        have rlo := rd.lt
        obtain ⟨rr, gq, t6⟩ := id.put rd
        replace rx := rx.kept gq (by omega)
        replace ra := ra.kept gq (by omega)
        replace rb := rb.kept gq (by omega)
        replace rc := rc.kept gq (by omega)
        replace rm := rm.kept gq (by omega)
        replace rt := rt.kept gq (by omega)
        replace bel := bel.grown gq bel.size (fun k hk => by cases hk; exact rlo.1)
        clear rd rlo gq
        have rd := rr
        clear rr
        have p7 := ia.range ra
        have p8 := ic.range rc
        go_wp2_with (first | (with_reducible refine wpList_load_mid rfl 125 _ rfl Ga 0 rfl Lb _ p1 Tryz.underlying125 rfl ib.sz ?_) | (with_reducible refine wpList_store_mid rfl 125 _ _ rfl wr.heap.size 0 Lb.toArray rfl rfl t1 ib.sz2 (all_oneCell_toArray ib.one) ?_; (try dsimp only)) | (with_reducible refine wpList_load_mid rfl 125 _ rfl Gb 0 rfl La _ p2 Tryz.underlying125 rfl ia.sz ?_) | (with_reducible refine wpList_store_mid rfl 125 _ _ rfl Ga 0 La.toArray rfl rfl t2 ia.sz2 (all_oneCell_toArray ia.one) ?_; (try dsimp only)) | (with_reducible refine wpList_load_mid rfl 125 _ rfl wr.heap.size 0 rfl Lb _ p3 Tryz.underlying125 rfl ib.sz ?_) | (with_reducible refine wpList_store_mid rfl 125 _ _ rfl Gb 0 Lb.toArray rfl rfl t3 ib.sz2 (all_oneCell_toArray ib.one) ?_; (try dsimp only)) | (with_reducible refine wpList_load_mid rfl 125 _ rfl Gc 0 rfl Ld _ p4 Tryz.underlying125 rfl id.sz ?_) | (with_reducible refine wpList_store_mid rfl 125 _ _ rfl wr.heap.size 0 Ld.toArray rfl rfl t4 id.sz2 (all_oneCell_toArray id.one) ?_; (try dsimp only)) | (with_reducible refine wpList_load_mid rfl 125 _ rfl Gd 0 rfl Lc _ p5 Tryz.underlying125 rfl ic.sz ?_) | (with_reducible refine wpList_store_mid rfl 125 _ _ rfl Gc 0 Lc.toArray rfl rfl t5 ic.sz2 (all_oneCell_toArray ic.one) ?_; (try dsimp only)) | (with_reducible refine wpList_load_mid rfl 125 _ rfl wr.heap.size 0 rfl Ld _ p6 Tryz.underlying125 rfl id.sz ?_) | (with_reducible refine wpList_store_mid rfl 125 _ _ rfl Gd 0 Ld.toArray rfl rfl t6 id.sz2 (all_oneCell_toArray id.one) ?_; (try dsimp only)) | (with_reducible refine wpList_load_mid rfl 125 _ rfl Ga 0 rfl La _ p7 Tryz.underlying125 rfl ia.sz ?_) | (with_reducible refine wpList_load_mid rfl 125 _ rfl Gc 0 rfl Lc _ p8 Tryz.underlying125 rfl ic.sz ?_))
        clear rt ht p1 p2 p3 p4 p5 p6 p7 p8 t1 t2 t3 t4 t5 t6 bq
        generalize World.setCells _ Gd 0 _ = wz at rx ra rb rc rd rm bel ⊢
        refine (Cv1 _).mono ?_
        rintro e wk1 ⟨rfl, bk1⟩
        have belk := below_on bel bk1
        obtain ⟨rv1, b2, tn⟩ := iv1.made wk1 w.heap.size belk.size hZ.out
        have hv1 : Gm < wk1.heap.size := by have := rm.lt; have := bk1.size; omega
        have b3 := below_on bk1 b2
        replace rx := rx.below b3
        replace ra := ra.below b3
        replace rb := rb.below b3
        replace rc := rc.below b3
        replace rd := rd.below b3
        replace rm := rm.below b3
        replace bel := below_on bel b3
        have q0 := ia.range ra
        have q1 := ic.range rc
        go_wp2_with (first | (with_reducible refine wpList_store_mid rfl 125 _ _ rfl wk1.heap.size 0 Lv1.toArray rfl rfl tn iv1.sz2 (all_oneCell_toArray iv1.one) ?_; (try dsimp only)) | (with_reducible refine wpList_load_mid rfl 125 _ rfl Ga 0 rfl La _ q0 Tryz.underlying125 rfl ia.sz ?_) | (with_reducible refine wpList_load_mid rfl 125 _ rfl Gc 0 rfl Lc _ q1 Tryz.underlying125 rfl ic.sz ?_))
        clear belk b2 b3 tn bk1 q0 q1
        generalize (wk1.alloc (.cells Z 125)).setCells wk1.heap.size 0 Lv1 = wq2 at rx ra rb rc rd rm rv1 bel ⊢
        generalize wk1.heap.size = Gv1 at rv1 hv1 ⊢
        refine (Cv2 _).mono ?_
        rintro e wk3 ⟨rfl, bk3⟩
        have belk := below_on bel bk3
        obtain ⟨rv2, b2, tn⟩ := iv2.made wk3 w.heap.size belk.size hZ.out
        have hv2 : Gm < wk3.heap.size := by have := rm.lt; have := bk3.size; omega
        have b3 := below_on bk3 b2
        replace rx := rx.below b3
        replace ra := ra.below b3
        replace rb := rb.below b3
        replace rc := rc.below b3
        replace rd := rd.below b3
        replace rm := rm.below b3
        replace rv1 := rv1.below b3
        replace bel := below_on bel b3
        have q0 := ib.range rb
        have q1 := id.range rd
        go_wp2_with (first | (with_reducible refine wpList_store_mid rfl 125 _ _ rfl wk3.heap.size 0 Lv2.toArray rfl rfl tn iv2.sz2 (all_oneCell_toArray iv2.one) ?_; (try dsimp only)) | (with_reducible refine wpList_load_mid rfl 125 _ rfl Gb 0 rfl Lb _ q0 Tryz.underlying125 rfl ib.sz ?_) | (with_reducible refine wpList_load_mid rfl 125 _ rfl Gd 0 rfl Ld _ q1 Tryz.underlying125 rfl id.sz ?_))
        clear belk b2 b3 tn bk3 q0 q1
        generalize (wk3.alloc (.cells Z 125)).setCells wk3.heap.size 0 Lv2 = wq4 at rx ra rb rc rd rm rv1 rv2 bel ⊢
        generalize wk3.heap.size = Gv2 at rv2 hv2 ⊢
        refine (Cv3 _).mono ?_
        rintro e wk5 ⟨rfl, bk5⟩
        have belk := below_on bel bk5
        obtain ⟨rv3, b2, tn⟩ := iv3.made wk5 w.heap.size belk.size hZ.out
        have hv3 : Gm < wk5.heap.size := by have := rm.lt; have := bk5.size; omega
        have b3 := below_on bk5 b2
        replace rx := rx.below b3
        replace ra := ra.below b3
        replace rb := rb.below b3
        replace rc := rc.below b3
        replace rd := rd.below b3
        replace rm := rm.below b3
        replace rv1 := rv1.below b3
        replace rv2 := rv2.below b3
        replace bel := below_on bel b3
        have q0 := ib.range rb
        have q1 := id.range rd
        go_wp2_with (first | (with_reducible refine wpList_store_mid rfl 125 _ _ rfl wk5.heap.size 0 Lv3.toArray rfl rfl tn iv3.sz2 (all_oneCell_toArray iv3.one) ?_; (try dsimp only)) | (with_reducible refine wpList_load_mid rfl 125 _ rfl Gb 0 rfl Lb _ q0 Tryz.underlying125 rfl ib.sz ?_) | (with_reducible refine wpList_load_mid rfl 125 _ rfl Gd 0 rfl Ld _ q1 Tryz.underlying125 rfl id.sz ?_))
        clear belk b2 b3 tn bk5 q0 q1
        generalize (wk5.alloc (.cells Z 125)).setCells wk5.heap.size 0 Lv3 = wq6 at rx ra rb rc rd rm rv1 rv2 rv3 bel ⊢
        generalize wk5.heap.size = Gv3 at rv3 hv3 ⊢
        refine (Cv4 _).mono ?_
        rintro e wk7 ⟨rfl, bk7⟩
        have belk := below_on bel bk7
        obtain ⟨rv4, b2, tn⟩ := iv4.made wk7 w.heap.size belk.size hZ.out
        have hv4 : Gm < wk7.heap.size := by have := rm.lt; have := bk7.size; omega
        have b3 := below_on bk7 b2
        replace rx := rx.below b3
        replace ra := ra.below b3
        replace rb := rb.below b3
        replace rc := rc.below b3
        replace rd := rd.below b3
        replace rm := rm.below b3
        replace rv1 := rv1.below b3
        replace rv2 := rv2.below b3
        replace rv3 := rv3.below b3
        replace bel := below_on bel b3
        have q0 := iv1.range rv1
        go_wp2_with (first | (with_reducible refine wpList_store_mid rfl 125 _ _ rfl wk7.heap.size 0 Lv4.toArray rfl rfl tn iv4.sz2 (all_oneCell_toArray iv4.one) ?_; (try dsimp only)) | (with_reducible refine wpList_load_mid rfl 125 _ rfl Gv1 0 rfl Lv1 _ q0 Tryz.underlying125 rfl iv1.sz ?_))
        clear belk b2 b3 tn bk7 q0
        generalize (wk7.alloc (.cells Z 125)).setCells wk7.heap.size 0 Lv4 = wq8 at rx ra rb rc rd rm rv1 rv2 rv3 rv4 bel ⊢
        generalize wk7.heap.size = Gv4 at rv4 hv4 ⊢
        refine (Cv5 _).mono ?_
        rintro e wk9 ⟨rfl, bk9⟩
        have belk := below_on bel bk9
        obtain ⟨rv5, b2, tn⟩ := iv5.made wk9 w.heap.size belk.size hZ.out
        have hv5 : Gm < wk9.heap.size := by have := rm.lt; have := bk9.size; omega
        have b3 := below_on bk9 b2
        replace rx := rx.below b3
        replace ra := ra.below b3
        replace rb := rb.below b3
        replace rc := rc.below b3
        replace rd := rd.below b3
        replace rm := rm.below b3
        replace rv1 := rv1.below b3
        replace rv2 := rv2.below b3
        replace rv3 := rv3.below b3
        replace rv4 := rv4.below b3
        replace bel := below_on bel b3
        have q0 := iv2.range rv2
        go_wp2_with (first | (with_reducible refine wpList_store_mid rfl 125 _ _ rfl wk9.heap.size 0 Lv5.toArray rfl rfl tn iv5.sz2 (all_oneCell_toArray iv5.one) ?_; (try dsimp only)) | (with_reducible refine wpList_load_mid rfl 125 _ rfl Gv2 0 rfl Lv2 _ q0 Tryz.underlying125 rfl iv2.sz ?_))
        clear belk b2 b3 tn bk9 q0
        generalize (wk9.alloc (.cells Z 125)).setCells wk9.heap.size 0 Lv5 = wq10 at rx ra rb rc rd rm rv1 rv2 rv3 rv4 rv5 bel ⊢
        generalize wk9.heap.size = Gv5 at rv5 hv5 ⊢
        refine (Cv6 _).mono ?_
        rintro e wk11 ⟨rfl, bk11⟩
        have belk := below_on bel bk11
        obtain ⟨rv6, b2, tn⟩ := iv6.made wk11 w.heap.size belk.size hZ.out
        have hv6 : Gm < wk11.heap.size := by have := rm.lt; have := bk11.size; omega
        have b3 := below_on bk11 b2
        replace rx := rx.below b3
        replace ra := ra.below b3
        replace rb := rb.below b3
        replace rc := rc.below b3
        replace rd := rd.below b3
        replace rm := rm.below b3
        replace rv1 := rv1.below b3
        replace rv2 := rv2.below b3
        replace rv3 := rv3.below b3
        replace rv4 := rv4.below b3
        replace rv5 := rv5.below b3
        replace bel := below_on bel b3
        have q0 := iv4.range rv4
        have q1 := iv1.range rv1
        go_wp2_with (first | (with_reducible refine wpList_store_mid rfl 125 _ _ rfl wk11.heap.size 0 Lv6.toArray rfl rfl tn iv6.sz2 (all_oneCell_toArray iv6.one) ?_; (try dsimp only)) | (with_reducible refine wpList_load_mid rfl 125 _ rfl Gv4 0 rfl Lv4 _ q0 Tryz.underlying125 rfl iv4.sz ?_) | (with_reducible refine wpList_load_mid rfl 125 _ rfl Gv1 0 rfl Lv1 _ q1 Tryz.underlying125 rfl iv1.sz ?_))
        clear belk b2 b3 tn bk11 q0 q1
        generalize (wk11.alloc (.cells Z 125)).setCells wk11.heap.size 0 Lv6 = wq12 at rx ra rb rc rd rm rv1 rv2 rv3 rv4 rv5 rv6 bel ⊢
        generalize wk11.heap.size = Gv6 at rv6 hv6 ⊢
        refine (Cv7 _).mono ?_
        rintro e wk13 ⟨rfl, bk13⟩
        have belk := below_on bel bk13
        obtain ⟨rv7, b2, tn⟩ := iv7.made wk13 w.heap.size belk.size hZ.out
        have hv7 : Gm < wk13.heap.size := by have := rm.lt; have := bk13.size; omega
        have b3 := below_on bk13 b2
        replace rx := rx.below b3
        replace ra := ra.below b3
        replace rb := rb.below b3
        replace rc := rc.below b3
        replace rd := rd.below b3
        replace rm := rm.below b3
        replace rv1 := rv1.below b3
        replace rv2 := rv2.below b3
        replace rv3 := rv3.below b3
        replace rv4 := rv4.below b3
        replace rv5 := rv5.below b3
        replace rv6 := rv6.below b3
        replace bel := below_on bel b3
        have q0 := iv3.range rv3
        have q1 := iv2.range rv2
        go_wp2_with (first | (with_reducible refine wpList_store_mid rfl 125 _ _ rfl wk13.heap.size 0 Lv7.toArray rfl rfl tn iv7.sz2 (all_oneCell_toArray iv7.one) ?_; (try dsimp only)) | (with_reducible refine wpList_load_mid rfl 125 _ rfl Gv3 0 rfl Lv3 _ q0 Tryz.underlying125 rfl iv3.sz ?_) | (with_reducible refine wpList_load_mid rfl 125 _ rfl Gv2 0 rfl Lv2 _ q1 Tryz.underlying125 rfl iv2.sz ?_))
        clear belk b2 b3 tn bk13 q0 q1
        clear rv1 rv4
        generalize (wk13.alloc (.cells Z 125)).setCells wk13.heap.size 0 Lv7 = wq14 at rx ra rb rc rd rm rv2 rv3 rv5 rv6 rv7 bel ⊢
        generalize wk13.heap.size = Gv7 at rv7 hv7 ⊢
        refine (Cv8 _).mono ?_
        rintro e wk15 ⟨rfl, bk15⟩
        have belk := below_on bel bk15
        obtain ⟨rv8, b2, tn⟩ := iv8.made wk15 w.heap.size belk.size hZ.out
        have hv8 : Gm < wk15.heap.size := by have := rm.lt; have := bk15.size; omega
        have b3 := below_on bk15 b2
        replace rx := rx.below b3
        replace ra := ra.below b3
        replace rb := rb.below b3
        replace rc := rc.below b3
        replace rd := rd.below b3
        replace rm := rm.below b3
        replace rv2 := rv2.below b3
        replace rv3 := rv3.below b3
        replace rv5 := rv5.below b3
        replace rv6 := rv6.below b3
        replace rv7 := rv7.below b3
        replace bel := below_on bel b3
        have q0 := iv7.range rv7
        have q1 := iv8.range rv8
        go_wp2_with (first | (with_reducible refine wpList_store_mid rfl 125 _ _ rfl wk15.heap.size 0 Lv8.toArray rfl rfl tn iv8.sz2 (all_oneCell_toArray iv8.one) ?_; (try dsimp only)) | (with_reducible refine wpList_load_mid rfl 125 _ rfl Gv7 0 rfl Lv7 _ q0 Tryz.underlying125 rfl iv7.sz ?_) | (with_reducible refine wpList_load_mid rfl 125 _ rfl _ 0 rfl Lv8 _ q1 Tryz.underlying125 rfl iv8.sz ?_))
        clear belk b2 b3 tn bk15 q0 q1
        clear rv2 rv3
        generalize (wk15.alloc (.cells Z 125)).setCells wk15.heap.size 0 Lv8 = wq16 at rx ra rb rc rd rm rv5 rv6 rv7 rv8 bel ⊢
        generalize wk15.heap.size = Gv8 at rv8 hv8 ⊢
        refine (Cv9 _).mono ?_
        rintro e wk17 ⟨rfl, bk17⟩
        have belk := below_on bel bk17
        obtain ⟨rv9, b2, tn⟩ := iv9.made wk17 w.heap.size belk.size hZ.out
        have hv9 : Gm < wk17.heap.size := by have := rm.lt; have := bk17.size; omega
        have b3 := below_on bk17 b2
        replace rx := rx.below b3
        replace ra := ra.below b3
        replace rb := rb.below b3
        replace rc := rc.below b3
        replace rd := rd.below b3
        replace rm := rm.below b3
        replace rv5 := rv5.below b3
        replace rv6 := rv6.below b3
        replace rv7 := rv7.below b3
        replace rv8 := rv8.below b3
        replace bel := below_on bel b3
        have q0 := iv7.range rv7
        have q1 := iv8.range rv8
        go_wp2_with (first | (with_reducible refine wpList_store_mid rfl 125 _ _ rfl wk17.heap.size 0 Lv9.toArray rfl rfl tn iv9.sz2 (all_oneCell_toArray iv9.one) ?_; (try dsimp only)) | (with_reducible refine wpList_load_mid rfl 125 _ rfl Gv7 0 rfl Lv7 _ q0 Tryz.underlying125 rfl iv7.sz ?_) | (with_reducible refine wpList_load_mid rfl 125 _ rfl Gv8 0 rfl Lv8 _ q1 Tryz.underlying125 rfl iv8.sz ?_))
        clear belk b2 b3 tn bk17 q0 q1
        generalize (wk17.alloc (.cells Z 125)).setCells wk17.heap.size 0 Lv9 = wq18 at rx ra rb rc rd rm rv5 rv6 rv7 rv8 rv9 bel ⊢
        generalize wk17.heap.size = Gv9 at rv9 hv9 ⊢
        refine (Cv10 _).mono ?_
        rintro e wk19 ⟨rfl, bk19⟩
        have belk := below_on bel bk19
        obtain ⟨rv10, b2, tn⟩ := iv10.made wk19 w.heap.size belk.size hZ.out
        have hv10 : Gm < wk19.heap.size := by have := rm.lt; have := bk19.size; omega
        have b3 := below_on bk19 b2
        replace rx := rx.below b3
        replace ra := ra.below b3
        replace rb := rb.below b3
        replace rc := rc.below b3
        replace rd := rd.below b3
        replace rm := rm.below b3
        replace rv5 := rv5.below b3
        replace rv6 := rv6.below b3
        replace rv7 := rv7.below b3
        replace rv8 := rv8.below b3
        replace rv9 := rv9.below b3
        replace bel := below_on bel b3
        have q0 := iv9.range rv9
        go_wp2_with (first | (with_reducible refine wpList_store_mid rfl 125 _ _ rfl wk19.heap.size 0 Lv10.toArray rfl rfl tn iv10.sz2 (all_oneCell_toArray iv10.one) ?_; (try dsimp only)) | (with_reducible refine wpList_load_mid rfl 125 _ rfl Gv9 0 rfl Lv9 _ q0 Tryz.underlying125 rfl iv9.sz ?_))
        clear belk b2 b3 tn bk19 q0
        clear rv7 rv8
        generalize (wk19.alloc (.cells Z 125)).setCells wk19.heap.size 0 Lv10 = wq20 at rx ra rb rc rd rm rv5 rv6 rv9 rv10 bel ⊢
        generalize wk19.heap.size = Gv10 at rv10 hv10 ⊢
        refine (Cn1 _).mono ?_
        rintro e wk21 ⟨rfl, bk21⟩
        replace rx := rx.below bk21
        replace ra := ra.below bk21
        replace rb := rb.below bk21
        replace rc := rc.below bk21
        replace rd := rd.below bk21
        replace rm := rm.below bk21
        replace rv5 := rv5.below bk21
        replace rv6 := rv6.below bk21
        replace rv9 := rv9.below bk21
        replace rv10 := rv10.below bk21
        replace bel := below_on bel bk21
        have rlo := rb.lt
        obtain ⟨rb', gn, tn⟩ := in1.put rb
        replace rx := rx.kept gn (by omega)
        replace ra := ra.kept gn (by omega)
        replace rc := rc.kept gn (by omega)
        replace rd := rd.kept gn (by omega)
        replace rm := rm.kept gn (by omega)
        replace rv5 := rv5.kept gn (by omega)
        replace rv6 := rv6.kept gn (by omega)
        replace rv9 := rv9.kept gn (by omega)
        replace rv10 := rv10.kept gn (by omega)
        replace bel := bel.grown gn (by omega) (fun k hk => by cases hk; exact rlo.1)
        clear rb rlo
        have rb := rb'
        clear rb'
        go_wp2_with (first | (with_reducible refine wpList_store_mid rfl 125 _ _ rfl Gb 0 Ln1.toArray rfl rfl tn in1.sz2 (all_oneCell_toArray in1.one) ?_; (try dsimp only)))
        clear tn gn bk21
        clear rv9
        generalize wk21.setCells Gb 0 Ln1 = wq22 at rx ra rb rc rd rm rv5 rv6 rv10 bel ⊢
        have hd0 : Below wq22.heap.size wq22 wq22.drew := (Below.refl _ _).drew
        refine wp_region_noPanic ?_
        refine wp_region_T 99 (fun X => X.rangeAt w.heap.size 0 Lx ∧ X.rangeAt Gv10 0 Lv10) (fun _ => True) (by kernel_rfl) ?_
        generalize wq22.drew = wd23 at hd0 ⊢
        replace rx := rx.below hd0
        replace ra := ra.below hd0
        replace rb := rb.below hd0
        replace rc := rc.below hd0
        replace rd := rd.below hd0
        replace rm := rm.below hd0
        replace rv5 := rv5.below hd0
        replace rv6 := rv6.below hd0
        replace rv10 := rv10.below hd0
        replace bel := below_on bel hd0
        clear hd0
        have hT : wd23.rangeAt w.heap.size 0 Lx ∧ wd23.rangeAt Gv10 0 Lv10 := ⟨ix.range rx, iv10.range rv10⟩
        refine anyT_takeT (i := 0) rfl (by kernel_rfl) (by kernel_rfl) (by kernel_rfl) (by kernel_rfl) (fun _ _ _ h => h) (yieldsIf_load_mid (by rfl) _ _ rfl _ _ rfl Lx _ (fun _ hw => hw.1) Tryz.underlying125 rfl ix.sz) hT (fun _ => trivial) ?_
        simp only [Act.put, List.getElem_toArray, List.getElem_cons_zero, List.setIfInBounds_toArray, List.set_cons_zero, List.set_cons_succ]
        refine anyT_takeT (i := 1) rfl (by kernel_rfl) (by kernel_rfl) (by kernel_rfl) (by kernel_rfl) (fun _ _ _ h => h) (yieldsIf_load_mid (by rfl) _ _ rfl _ _ rfl Lv10 _ (fun _ hw => hw.2) Tryz.underlying125 rfl iv10.sz) hT (fun _ => trivial) ?_
        simp only [Act.put, List.getElem_toArray, List.getElem_cons_zero, List.getElem_cons_succ, List.setIfInBounds_toArray, List.set_cons_zero, List.set_cons_succ]
        refine anyT_takeT (i := 2) rfl (by kernel_rfl) (by kernel_rfl) (by kernel_rfl) (by kernel_rfl) (fun _ _ _ h => h) (yieldsIf_load_mid (by rfl) _ _ rfl _ _ rfl Lv10 _ (fun _ hw => hw.2) Tryz.underlying125 rfl iv10.sz) hT (fun _ => trivial) ?_
        simp only [Act.put, List.getElem_toArray, List.getElem_cons_zero, List.getElem_cons_succ, List.setIfInBounds_toArray, List.set_cons_zero, List.set_cons_succ]
        refine anyT_one (i := 3) (by kernel_rfl) rfl (fun K hK => ?_)
        go_simp
        refine (Cn2 _).mono ?_
        rintro e wc24 ⟨rfl, bc⟩
        replace rx := rx.below bc
        replace ra := ra.below bc
        replace rb := rb.below bc
        replace rc := rc.below bc
        replace rd := rd.below bc
        replace rm := rm.below bc
        replace rv5 := rv5.below bc
        replace rv6 := rv6.below bc
        replace rv10 := rv10.below bc
        replace bel := below_on bel bc
        go_wp2_with (fail)
        refine hK.out _ _ ⟨ix.range rx, iv10.range rv10⟩ (fun _ => trivial) ?_
        clear hK K bc
        refine anyT_one (i := 4) (by kernel_rfl) rfl (fun K hK => ?_)
        go_simp
        refine (Cn3 _).mono ?_
        rintro e wc25 ⟨rfl, bc⟩
        replace rx := rx.below bc
        replace ra := ra.below bc
        replace rb := rb.below bc
        replace rc := rc.below bc
        replace rd := rd.below bc
        replace rm := rm.below bc
        replace rv5 := rv5.below bc
        replace rv6 := rv6.below bc
        replace rv10 := rv10.below bc
        replace bel := below_on bel bc
        go_wp2_with (fail)
        refine hK.out _ _ ⟨ix.range rx, iv10.range rv10⟩ (fun _ => trivial) ?_
        clear hK K bc
        clear hT
        have rlo := rd.lt
        obtain ⟨rd', gn, tn⟩ := in3.put rd
        replace rx := rx.kept gn (by omega)
        replace ra := ra.kept gn (by omega)
        replace rb := rb.kept gn (by omega)
        replace rc := rc.kept gn (by omega)
        replace rm := rm.kept gn (by omega)
        replace rv5 := rv5.kept gn (by omega)
        replace rv6 := rv6.kept gn (by omega)
        replace rv10 := rv10.kept gn (by omega)
        replace bel := bel.grown gn (by omega) (fun k hk => by cases hk; exact rlo.1)
        clear rd rlo
        have rd := rd'
        clear rd'
        refine anyT_one (i := 5) (by kernel_rfl) rfl (fun K hK => ?_)
        refine wp_store_mid 125 _ _ rfl Gd 0 Ln3.toArray rfl rfl tn in3.sz2 (all_oneCell_toArray in3.one) ?_
        (try dsimp only)
        refine hK.out _ _ ⟨ix.range rx, iv10.range rv10⟩ (fun _ => trivial) ?_
        clear hK K
        refine anyT_done (by kernel_rfl) ?_ _
        refine NoPanic.normal ?_
        clear tn gn
        clear rv10
        generalize wc25.setCells Gd 0 Ln3 = wq26 at rx ra rb rc rd rm rv5 rv6 bel ⊢
        have q0 := iv5.range rv5
        have q1 := iv6.range rv6
        go_wp2_with (first | (with_reducible refine wpList_load_mid rfl 125 _ rfl Gv5 0 rfl Lv5 _ q0 Tryz.underlying125 rfl iv5.sz ?_) | (with_reducible refine wpList_load_mid rfl 125 _ rfl _ 0 rfl Lv6 _ q1 Tryz.underlying125 rfl iv6.sz ?_))
        clear q0 q1
        refine (Cv11 _).mono ?_
        rintro e wk27 ⟨rfl, bk27⟩
        have belk := below_on bel bk27
        obtain ⟨rv11, b2, tn⟩ := iv11.made wk27 w.heap.size belk.size hZ.out
        have hv11 : Gm < wk27.heap.size := by have := rm.lt; have := bk27.size; omega
        have b3 := below_on bk27 b2
        replace rx := rx.below b3
        replace ra := ra.below b3
        replace rb := rb.below b3
        replace rc := rc.below b3
        replace rd := rd.below b3
        replace rm := rm.below b3
        replace rv5 := rv5.below b3
        replace rv6 := rv6.below b3
        replace bel := below_on bel b3
        have q0 := iv5.range rv5
        have q1 := iv6.range rv6
        go_wp2_with (first | (with_reducible refine wpList_store_mid rfl 125 _ _ rfl wk27.heap.size 0 Lv11.toArray rfl rfl tn iv11.sz2 (all_oneCell_toArray iv11.one) ?_; (try dsimp only)) | (with_reducible refine wpList_load_mid rfl 125 _ rfl Gv5 0 rfl Lv5 _ q0 Tryz.underlying125 rfl iv5.sz ?_) | (with_reducible refine wpList_load_mid rfl 125 _ rfl Gv6 0 rfl Lv6 _ q1 Tryz.underlying125 rfl iv6.sz ?_))
        clear belk b2 b3 tn bk27 q0 q1
        generalize (wk27.alloc (.cells Z 125)).setCells wk27.heap.size 0 Lv11 = wq28 at rx ra rb rc rd rm rv5 rv6 rv11 bel ⊢
        generalize wk27.heap.size = Gv11 at rv11 hv11 ⊢
        refine (Cn4 _).mono ?_
        rintro e wk29 ⟨rfl, bk29⟩
        replace rx := rx.below bk29
        replace ra := ra.below bk29
        replace rb := rb.below bk29
        replace rc := rc.below bk29
        replace rd := rd.below bk29
        replace rm := rm.below bk29
        replace rv5 := rv5.below bk29
        replace rv6 := rv6.below bk29
        replace rv11 := rv11.below bk29
        replace bel := below_on bel bk29
        have rlo := ra.lt
        obtain ⟨ra', gn, tn⟩ := in4.put ra
        replace rx := rx.kept gn (by omega)
        replace rb := rb.kept gn (by omega)
        replace rc := rc.kept gn (by omega)
        replace rd := rd.kept gn (by omega)
        replace rm := rm.kept gn (by omega)
        replace rv5 := rv5.kept gn (by omega)
        replace rv6 := rv6.kept gn (by omega)
        replace rv11 := rv11.kept gn (by omega)
        replace bel := bel.grown gn (by omega) (fun k hk => by cases hk; exact rlo.1)
        clear ra rlo
        have ra := ra'
        clear ra'
        go_wp2_with (first | (with_reducible refine wpList_store_mid rfl 125 _ _ rfl Ga 0 Ln4.toArray rfl rfl tn in4.sz2 (all_oneCell_toArray in4.one) ?_; (try dsimp only)))
        clear tn gn bk29
        clear rv6
        generalize wk29.setCells Ga 0 Ln4 = wq30 at rx ra rb rc rd rm rv5 rv11 bel ⊢
        have hd0 : Below wq30.heap.size wq30 wq30.drew := (Below.refl _ _).drew
        refine wp_region_noPanic ?_
        refine wp_region_T 99 (fun X => X.rangeAt Gv11 0 Lv11 ∧ X.rangeAt Gv5 0 Lv5 ∧ X.rangeAt Gm 0 Lm) (fun _ => True) (by kernel_rfl) ?_
        generalize wq30.drew = wd31 at hd0 ⊢
        replace rx := rx.below hd0
        replace ra := ra.below hd0
        replace rb := rb.below hd0
        replace rc := rc.below hd0
        replace rd := rd.below hd0
        replace rm := rm.below hd0
        replace rv5 := rv5.below hd0
        replace rv11 := rv11.below hd0
        replace bel := below_on bel hd0
        clear hd0
        have hT : wd31.rangeAt Gv11 0 Lv11 ∧ wd31.rangeAt Gv5 0 Lv5 ∧ wd31.rangeAt Gm 0 Lm := ⟨iv11.range rv11, iv5.range rv5, im.range rm⟩
        refine anyT_takeT (i := 0) rfl (by kernel_rfl) (by kernel_rfl) (by kernel_rfl) (by kernel_rfl) (fun _ _ _ h => h) (yieldsIf_load_mid (by rfl) _ _ rfl _ _ rfl Lv11 _ (fun _ hw => hw.1) Tryz.underlying125 rfl iv11.sz) hT (fun _ => trivial) ?_
        simp only [Act.put, List.getElem_toArray, List.getElem_cons_zero, List.setIfInBounds_toArray, List.set_cons_zero, List.set_cons_succ]
        refine anyT_takeT (i := 1) rfl (by kernel_rfl) (by kernel_rfl) (by kernel_rfl) (by kernel_rfl) (fun _ _ _ h => h) (yieldsIf_load_mid (by rfl) _ _ rfl _ _ rfl Lv5 _ (fun _ hw => hw.2.1) Tryz.underlying125 rfl iv5.sz) hT (fun _ => trivial) ?_
        simp only [Act.put, List.getElem_toArray, List.getElem_cons_zero, List.getElem_cons_succ, List.setIfInBounds_toArray, List.set_cons_zero, List.set_cons_succ]
        refine anyT_takeT (i := 2) rfl (by kernel_rfl) (by kernel_rfl) (by kernel_rfl) (by kernel_rfl) (fun _ _ _ h => h) (yieldsIf_load_mid (by rfl) _ _ rfl _ _ rfl Lv11 _ (fun _ hw => hw.1) Tryz.underlying125 rfl iv11.sz) hT (fun _ => trivial) ?_
        simp only [Act.put, List.getElem_toArray, List.getElem_cons_zero, List.getElem_cons_succ, List.setIfInBounds_toArray, List.set_cons_zero, List.set_cons_succ]
        refine anyT_takeT (i := 3) rfl (by kernel_rfl) (by kernel_rfl) (by kernel_rfl) (by kernel_rfl) (fun _ _ _ h => h) (yieldsIf_load_mid (by rfl) _ _ rfl _ _ rfl Lm _ (fun _ hw => hw.2.2) Tryz.underlying125 rfl im.sz) hT (fun _ => trivial) ?_
        simp only [Act.put, List.getElem_toArray, List.getElem_cons_zero, List.getElem_cons_succ, List.setIfInBounds_toArray, List.set_cons_zero, List.set_cons_succ]
        refine anyT_one (i := 4) (by kernel_rfl) rfl (fun K hK => ?_)
        go_simp
        refine (Cn5 _).mono ?_
        rintro e wc32 ⟨rfl, bc⟩
        replace rx := rx.below bc
        replace ra := ra.below bc
        replace rb := rb.below bc
        replace rc := rc.below bc
        replace rd := rd.below bc
        replace rm := rm.below bc
        replace rv5 := rv5.below bc
        replace rv11 := rv11.below bc
        replace bel := below_on bel bc
        go_wp2_with (fail)
        refine hK.out _ _ ⟨iv11.range rv11, iv5.range rv5, im.range rm⟩ (fun _ => trivial) ?_
        clear hK K bc
        refine anyT_one (i := 5) (by kernel_rfl) rfl (fun K hK => ?_)
        go_simp
        refine (Cn6 _).mono ?_
        rintro e wc33 ⟨rfl, bc⟩
        replace rx := rx.below bc
        replace ra := ra.below bc
        replace rb := rb.below bc
        replace rc := rc.below bc
        replace rd := rd.below bc
        replace rm := rm.below bc
        replace rv5 := rv5.below bc
        replace rv11 := rv11.below bc
        replace bel := below_on bel bc
        go_wp2_with (fail)
        refine hK.out _ _ ⟨iv11.range rv11, iv5.range rv5, im.range rm⟩ (fun _ => trivial) ?_
        clear hK K bc
        refine anyT_one (i := 6) (by kernel_rfl) rfl (fun K hK => ?_)
        go_simp
        refine (Cn7 _).mono ?_
        rintro e wc34 ⟨rfl, bc⟩
        replace rx := rx.below bc
        replace ra := ra.below bc
        replace rb := rb.below bc
        replace rc := rc.below bc
        replace rd := rd.below bc
        replace rm := rm.below bc
        replace rv5 := rv5.below bc
        replace rv11 := rv11.below bc
        replace bel := below_on bel bc
        go_wp2_with (fail)
        refine hK.out _ _ ⟨iv11.range rv11, iv5.range rv5, im.range rm⟩ (fun _ => trivial) ?_
        clear hK K bc
        clear hT
        have rlo := rc.lt
        obtain ⟨rc', gn, tn⟩ := in7.put rc
        replace rx := rx.kept gn (by omega)
        replace ra := ra.kept gn (by omega)
        replace rb := rb.kept gn (by omega)
        replace rd := rd.kept gn (by omega)
        replace rm := rm.kept gn (by omega)
        replace rv5 := rv5.kept gn (by omega)
        replace rv11 := rv11.kept gn (by omega)
        replace bel := bel.grown gn (by omega) (fun k hk => by cases hk; exact rlo.1)
        clear rc rlo
        have rc := rc'
        clear rc'
        refine anyT_one (i := 7) (by kernel_rfl) rfl (fun K hK => ?_)
        refine wp_store_mid 125 _ _ rfl Gc 0 Ln7.toArray rfl rfl tn in7.sz2 (all_oneCell_toArray in7.one) ?_
        (try dsimp only)
        refine hK.out _ _ ⟨iv11.range rv11, iv5.range rv5, im.range rm⟩ (fun _ => trivial) ?_
        clear hK K
        refine anyT_done (by kernel_rfl) ?_ _
        refine NoPanic.normal ?_
        clear tn gn
        clear rv5 rv11
        generalize wc34.setCells Gc 0 Ln7 = wq35 at rx ra rb rc rd rm bel ⊢
        go_wp2_with (fail)
        go_roundw
        case rel => exact ⟨n + 1, by omega, by have := hj.out; congr 1; omega, by rw [hbj.out, hj.out]; unfold lastB; rw [if_neg (by omega), show 255 - (n + 1) = 254 - n by omega], rx, by rw [hSn.out]; exact ra, by rw [hSn.out]; exact rb, by rw [hSn.out]; exact rc, by rw [hSn.out]; exact rd, rm, bel⟩
        case measure => simp [intOf]
    · obtain rfl : n = 255 := by omega
      have e1 : (254 : Int) - ((255 : Nat) : Int) = -1 := by decide
      rw [e1]
      have e2 : lastB bit 255 = bit 0 := rfl
      rw [e2]
      have hfz := az_point (x := fx) bit
      have hO := HO.out 255
      obtain ⟨P, hP⟩ : ∃ P, P = azN bit fx 255 := ⟨_, rfl⟩
      rw [← hP] at ra rb rc rd hO hfz
      clear hP HO HK HB rx rm
      generalize bit 0 = b0 at hfz ⊢
      cases b0 with
      | false =>
        obtain ⟨S, hSe⟩ : ∃ S, S = P := ⟨_, rfl⟩
        have hfin : Hid (valZ (mulZ S.a (invZ S.c 254)) 16 % fldP = ladZ bit (valZ fx 16)) := by rw [hSe]; exact hfz
        rw [← hSe] at ra rc hO
        have hS := hO
        clear hO hSe hfz rb rd
        obtain ⟨La, ia⟩ : ∃ L, IsZ L S.a := ⟨_, ⟨rfl⟩⟩
        obtain ⟨Lc, ic⟩ : ∃ L, IsZ L S.c := ⟨_, ⟨rfl⟩⟩
        have hbI : bitI false = 0 := rfl
        rw [hbI]
        obtain ⟨Li, ii⟩ : ∃ L, IsZ L (invZ S.c 254) := ⟨_, ⟨rfl⟩⟩
        obtain ⟨Lq, iq⟩ : ∃ L, IsZ L (mulZ S.a (invZ S.c 254)) := ⟨_, ⟨rfl⟩⟩
        have CI : ∀ X, Calls Tryz.prog 138 #[.agg Lc.toArray] X fun e w' => e = .returned (.agg Li.toArray) ∧ Below X.heap.size X w' := fun X => by
          have h := l8Inv_any S.c X hS.2.2.1.ok
          rw [ii.eq, ic.eq] at h
          exact h
        have CM := fun X => cMul ia ii iq hS.1.ok (invZ_ok hS.2.2.1.ok 254) X
        have hw := okZ_wide (mulZ_ok hS.1.ok (invZ_ok hS.2.2.1.ok 254))
        have CB : ∀ X, Calls Tryz.prog 137 #[.agg Lq.toArray] X fun e w' => ∃ p' c', e = .returned (.slice p' 32 c') ∧ Own 5 w' X.heap.size w'.heap.size (.slice p' 32 c') 32 V ∧ Below X.heap.size X w' := fun X => by
          have h := l8Bytes_any (mulZ S.a (invZ S.c 254)) X hw.1 hw.2
          rw [red_bytes hw.1 hw.2, hfin.out, ← hV.out, iq.eq] at h
          exact h
        clear hw hfin hV hS
        go_wp2_with (fail)
        have hd0 : Below wr.heap.size wr wr.drew := (Below.refl _ _).drew
        refine wp_region_noPanic ?_
        refine wp_region_T 99 (fun X => X.rangeAt Ga 0 La ∧ X.rangeAt Gc 0 Lc) (fun _ => True) (by kernel_rfl) ?_
        generalize wr.drew = wd at hd0 ⊢
        replace ra := ra.below hd0
        replace rc := rc.below hd0
        replace bel := below_on bel hd0
        have hT : wd.rangeAt Ga 0 La ∧ wd.rangeAt Gc 0 Lc := ⟨ia.range ra, ic.range rc⟩
        refine anyT_takeT (i := 0) rfl (by kernel_rfl) (by kernel_rfl) (by kernel_rfl) (by kernel_rfl) (fun _ _ _ h => h) (yieldsIf_load_mid (by rfl) _ _ rfl _ _ rfl La _ (fun _ hw => hw.1) Tryz.underlying125 rfl ia.sz) hT (fun _ => trivial) ?_
        simp only [Act.put, List.getElem_toArray, List.getElem_cons_zero, List.setIfInBounds_toArray, List.set_cons_zero, List.set_cons_succ]
        refine anyT_takeT (i := 1) rfl (by kernel_rfl) (by kernel_rfl) (by kernel_rfl) (by kernel_rfl) (fun _ _ _ h => h) (yieldsIf_load_mid (by rfl) _ _ rfl _ _ rfl Lc _ (fun _ hw => hw.2) Tryz.underlying125 rfl ic.sz) hT (fun _ => trivial) ?_
        simp only [Act.put, List.getElem_toArray, List.getElem_cons_zero, List.getElem_cons_succ, List.setIfInBounds_toArray, List.set_cons_zero, List.set_cons_succ]
        clear hd0
        refine anyT_one (i := 2) (by kernel_rfl) rfl (fun K hK => ?_)
        go_simp
        refine (CI _).mono ?_
        rintro e we2 ⟨rfl, bc⟩
        replace ra := ra.below bc
        replace rc := rc.below bc
        replace bel := below_on bel bc
        go_wp2_with (fail)
        refine hK.out _ _ ⟨ia.range ra, ic.range rc⟩ (fun _ => trivial) ?_
        clear hK K bc
        refine anyT_one (i := 3) (by kernel_rfl) rfl (fun K hK => ?_)
        go_simp
        refine (CM _).mono ?_
        rintro e we3 ⟨rfl, bc⟩
        replace ra := ra.below bc
        replace rc := rc.below bc
        replace bel := below_on bel bc
        go_wp2_with (fail)
        refine hK.out _ _ ⟨ia.range ra, ic.range rc⟩ (fun _ => trivial) ?_
        clear hK K bc
        refine anyT_one (i := 4) (by kernel_rfl) rfl (fun K hK => ?_)
        go_simp
        refine (CB _).mono ?_
        rintro e wl ⟨pl, cl, rfl, ol, bl⟩
        have hsz := bel.size
        replace ra := ra.below bl
        replace rc := rc.below bl
        replace bel := below_on bel bl
        go_wp2_with (fail)
        refine hK.out _ _ ⟨ia.range ra, ic.range rc⟩ (fun _ => trivial) ?_
        clear hK K bl hT
        have hT : wl.rangeAt Ga 0 La ∧ wl.rangeAt Gc 0 Lc := ⟨ia.range ra, ic.range rc⟩
        refine anyT_takeT (i := 5) (v := .slice pl 32 cl) rfl (by kernel_rfl) (by kernel_rfl) (by kernel_rfl) (by kernel_rfl) (fun _ _ _ h => h) (Or.inl ⟨by rfl, fun X hSw => by ((try dsimp only at hSw); go_simp)⟩) hT (fun _ => trivial) ?_
        simp only [Act.put, List.getElem_toArray, List.getElem_cons_zero, List.getElem_cons_succ, List.setIfInBounds_toArray, List.set_cons_zero, List.set_cons_succ]
        refine anyT_done (by kernel_rfl) ?_ _
        refine NoPanic.normal ?_
        go_wp2_with (fail)
        go_ret
        exact ⟨_, _, rfl, ⟨owns_mono ol.1 hsz, ol.2⟩, bel⟩
      | true =>
        obtain ⟨S, hSe⟩ : ∃ S, S = azSw P := ⟨_, rfl⟩
        have hfin : Hid (valZ (mulZ S.a (invZ S.c 254)) 16 % fldP = ladZ bit (valZ fx 16)) := by rw [hSe]; exact hfz
        have hS : azOk S := by rw [hSe]; exact ⟨hO.2.1, hO.1, hO.2.2.2, hO.2.2.1⟩
        have rb0 : RowZ 125 16 wr w.heap.size Gb S.a := by rw [hSe]; exact rb
        have rd0 : RowZ 125 16 wr w.heap.size Gd S.c := by rw [hSe]; exact rd
        clear rb rd hO hSe hfz
        obtain ⟨La, ia⟩ : ∃ L, IsZ L S.a := ⟨_, ⟨rfl⟩⟩
        obtain ⟨Lc, ic⟩ : ∃ L, IsZ L S.c := ⟨_, ⟨rfl⟩⟩
        have hbI : bitI true = 1 := rfl
        rw [hbI]
        obtain ⟨Li, ii⟩ : ∃ L, IsZ L (invZ S.c 254) := ⟨_, ⟨rfl⟩⟩
        obtain ⟨Lq, iq⟩ : ∃ L, IsZ L (mulZ S.a (invZ S.c 254)) := ⟨_, ⟨rfl⟩⟩
        have CI : ∀ X, Calls Tryz.prog 138 #[.agg Lc.toArray] X fun e w' => e = .returned (.agg Li.toArray) ∧ Below X.heap.size X w' := fun X => by
          have h := l8Inv_any S.c X hS.2.2.1.ok
          rw [ii.eq, ic.eq] at h
          exact h
        have CM := fun X => cMul ia ii iq hS.1.ok (invZ_ok hS.2.2.1.ok 254) X
        have hw := okZ_wide (mulZ_ok hS.1.ok (invZ_ok hS.2.2.1.ok 254))
        have CB : ∀ X, Calls Tryz.prog 137 #[.agg Lq.toArray] X fun e w' => ∃ p' c', e = .returned (.slice p' 32 c') ∧ Own 5 w' X.heap.size w'.heap.size (.slice p' 32 c') 32 V ∧ Below X.heap.size X w' := fun X => by
          have h := l8Bytes_any (mulZ S.a (invZ S.c 254)) X hw.1 hw.2
          rw [red_bytes hw.1 hw.2, hfin.out, ← hV.out, iq.eq] at h
          exact h
        clear hw hfin hV hS
        have p1 := ia.range rb0
        have rlo := ra.lt
        obtain ⟨ra1, ga, t1⟩ := ia.put ra
        replace rc := rc.kept ga (by omega)
        replace rd0 := rd0.kept ga (by omega)
        replace bel := bel.grown ga bel.size (fun k hk => by cases hk; exact rlo.1)
        clear ra rlo
        have p2 := ic.range rd0
        have rlo := rc.lt
        obtain ⟨rc1, gc, t2⟩ := ic.put rc
        have ra := ra1.kept gc (by omega)
        replace bel := bel.grown gc bel.size (fun k hk => by cases hk; exact rlo.1)
        clear rc rlo ra1 ga gc rd0 rb0
        have rc := rc1
        clear rc1
        go_wp2_with (first | (with_reducible refine wpList_load_mid rfl 125 _ rfl Gb 0 rfl La _ p1 Tryz.underlying125 rfl ia.sz ?_) | (with_reducible refine wpList_store_mid rfl 125 _ _ rfl Ga 0 La.toArray rfl rfl t1 ia.sz2 (all_oneCell_toArray ia.one) ?_; (try dsimp only)) | (with_reducible refine wpList_load_mid rfl 125 _ rfl Gd 0 rfl Lc _ p2 Tryz.underlying125 rfl ic.sz ?_) | (with_reducible refine wpList_store_mid rfl 125 _ _ rfl Gc 0 Lc.toArray rfl rfl t2 ic.sz2 (all_oneCell_toArray ic.one) ?_; (try dsimp only)))
        clear p1 p2 t1 t2
        generalize World.setCells _ Gc 0 _ = wz at ra rc bel ⊢
        have hd0 : Below wz.heap.size wz wz.drew := (Below.refl _ _).drew
        refine wp_region_noPanic ?_
        refine wp_region_T 99 (fun X => X.rangeAt Ga 0 La ∧ X.rangeAt Gc 0 Lc) (fun _ => True) (by kernel_rfl) ?_
        generalize wz.drew = wd at hd0 ⊢
        replace ra := ra.below hd0
        replace rc := rc.below hd0
        replace bel := below_on bel hd0
        have hT : wd.rangeAt Ga 0 La ∧ wd.rangeAt Gc 0 Lc := ⟨ia.range ra, ic.range rc⟩
        refine anyT_takeT (i := 0) rfl (by kernel_rfl) (by kernel_rfl) (by kernel_rfl) (by kernel_rfl) (fun _ _ _ h => h) (yieldsIf_load_mid (by rfl) _ _ rfl _ _ rfl La _ (fun _ hw => hw.1) Tryz.underlying125 rfl ia.sz) hT (fun _ => trivial) ?_
        simp only [Act.put, List.getElem_toArray, List.getElem_cons_zero, List.setIfInBounds_toArray, List.set_cons_zero, List.set_cons_succ]
        refine anyT_takeT (i := 1) rfl (by kernel_rfl) (by kernel_rfl) (by kernel_rfl) (by kernel_rfl) (fun _ _ _ h => h) (yieldsIf_load_mid (by rfl) _ _ rfl _ _ rfl Lc _ (fun _ hw => hw.2) Tryz.underlying125 rfl ic.sz) hT (fun _ => trivial) ?_
        simp only [Act.put, List.getElem_toArray, List.getElem_cons_zero, List.getElem_cons_succ, List.setIfInBounds_toArray, List.set_cons_zero, List.set_cons_succ]
        clear hd0
        refine anyT_one (i := 2) (by kernel_rfl) rfl (fun K hK => ?_)
        go_simp
        refine (CI _).mono ?_
        rintro e we2 ⟨rfl, bc⟩
        replace ra := ra.below bc
        replace rc := rc.below bc
        replace bel := below_on bel bc
        go_wp2_with (fail)
        refine hK.out _ _ ⟨ia.range ra, ic.range rc⟩ (fun _ => trivial) ?_
        clear hK K bc
        refine anyT_one (i := 3) (by kernel_rfl) rfl (fun K hK => ?_)
        go_simp
        refine (CM _).mono ?_
        rintro e we3 ⟨rfl, bc⟩
        replace ra := ra.below bc
        replace rc := rc.below bc
        replace bel := below_on bel bc
        go_wp2_with (fail)
        refine hK.out _ _ ⟨ia.range ra, ic.range rc⟩ (fun _ => trivial) ?_
        clear hK K bc
        refine anyT_one (i := 4) (by kernel_rfl) rfl (fun K hK => ?_)
        go_simp
        refine (CB _).mono ?_
        rintro e wl ⟨pl, cl, rfl, ol, bl⟩
        have hsz := bel.size
        replace ra := ra.below bl
        replace rc := rc.below bl
        replace bel := below_on bel bl
        go_wp2_with (fail)
        refine hK.out _ _ ⟨ia.range ra, ic.range rc⟩ (fun _ => trivial) ?_
        clear hK K bl hT
        have hT : wl.rangeAt Ga 0 La ∧ wl.rangeAt Gc 0 Lc := ⟨ia.range ra, ic.range rc⟩
        refine anyT_takeT (i := 5) (v := .slice pl 32 cl) rfl (by kernel_rfl) (by kernel_rfl) (by kernel_rfl) (by kernel_rfl) (fun _ _ _ h => h) (Or.inl ⟨by rfl, fun X hSw => by ((try dsimp only at hSw); go_simp)⟩) hT (fun _ => trivial) ?_
        simp only [Act.put, List.getElem_toArray, List.getElem_cons_zero, List.getElem_cons_succ, List.setIfInBounds_toArray, List.set_cons_zero, List.set_cons_succ]
        refine anyT_done (by kernel_rfl) ?_ _
        refine NoPanic.normal ?_
        go_wp2_with (fail)
        go_ret
        exact ⟨_, _, rfl, ⟨owns_mono ol.1 hsz, ol.2⟩, bel⟩
end Go.Proofs.YtnpffnhiefgglaaGreatDoor
