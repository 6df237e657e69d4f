/-
  A part of the proof.
-/
import Derived.Test.YtnpffnhiefgglaaGreatDoorParw21
import Derived.Laws.Cover3
import Derived.Test.YtnpffnhiefgglaaGreatDoorParw16
import Derived.Test.YtnpffnhiefgglaaGreatDoorParw15
import Derived.Test.YtnpffnhiefgglaaGreatDoorParw11
import Derived.Test.YtnpffnhiefgglaaGreatDoorParw19
import Derived.Test.YtnpffnhiefgglaaGreatDoorParw18
import Derived.ArgAppend
import Derived.Laws.CopyOwn
import Derived.Test.YtnpffnhiefgglaaGreatDoorParw09
import Derived.KernelRfl
namespace Go.Proofs.YtnpffnhiefgglaaGreatDoor
open Go.RowKit
set_option maxRecDepth 100000
theorem keyD_take (ks : List Int) : keyD (ks.take 16) = keyD ks := by
  funext i
  unfold keyD
  by_cases h : 16 ≤ i
  · rw [if_pos h, if_pos h]
  · have e : byN (ks.take 16) i = byN ks i := by simp [byN, show i < 16 by omega]
    rw [if_neg h, if_neg h, e]
theorem key_small {ks : List Int} (hb : ∀ x ∈ ks, 0 ≤ x ∧ x < 256) : valN (keyD ks) 17 < 67108864 ^ 5 := by
  have h : valN (keyD ks) 16 < 256 ^ 16 := valN_lt fun i _ => keyD_lt hb i
  have e : valN (keyD ks) 17 = valN (keyD ks) 16 + keyD ks 16 * 256 ^ 16 := rfl
  rw [e, show keyD ks 16 = 0 from rfl, Nat.zero_mul, Nat.add_zero]
  exact Nat.lt_trans h (by decide)
theorem num_last (xs : List Int) (l : Nat) (hl : l ≤ 16) : valN (numD xs l 1) 17 = valN (byN xs) l + 1 * 256 ^ l := by
  have e := valN_split (numD xs l 1) (l + 1) (16 - l)
  rw [show l + 1 + (16 - l) = 17 by omega] at e
  rw [e, valN_congr (f := fun i => numD xs l 1 (l + 1 + i)) (g := fun _ => 0) (fun i _ => by unfold numD; rw [if_neg (by omega), if_neg (by omega)]), valN_zero, Nat.mul_zero, Nat.add_zero, valN, valN_congr (g := byN xs) (fun i hi => by unfold numD; rw [if_pos hi])]
  congr 1
  unfold numD
  rw [if_neg (by omega), if_pos rfl]
theorem num_half (xs : List Int) : valN (numD xs 16 0) 17 = valN (byN xs) 16 := by
  have e : valN (numD xs 16 0) 17 = valN (numD xs 16 0) 16 + numD xs 16 0 16 * 256 ^ 16 := rfl
  rw [e, show numD xs 16 0 16 = 0 from rfl, Nat.zero_mul, Nat.add_zero]
  exact valN_congr fun i hi => by unfold numD; rw [if_pos hi]
def lenS : Value → Nat
  | .slice _ n _ => n
  | _ => 0
theorem slice_from (b j m cc l : Nat) (h0 : 0 < l) (h : l ≤ m) (hc : m ≤ cc) : ∃ q', Hid (l < m → q' = some ⟨b, j + l, none⟩) ∧ ∀ W, (Instr.slice 22 (.slice (some ⟨b, j, none⟩) m cc) (some (.int .i64 (l : Int))) none none).run Tryz.prog W = .ok (.slice q' (m - l) (cc - l)) W := by
  refine ⟨if cc = l then some ⟨b, j, none⟩ else some ⟨b, j + l, none⟩, fun h64 => if_neg (by omega), fun W => ?_⟩
  have ht' : Tryz.prog.underlying 22 = some (.slice (Tryz.prog.elem 22)) := by simp [Program.elem, Tryz.underlying22]
  have he : Tryz.prog.elem 22 = 5 := by simp [Program.elem, Tryz.underlying22]
  obtain ⟨i0, hi, hz0, hz1, hz2⟩ := info_parts infoByte
  rw [run_slice_l W 22 _ _ _ ht' .i64 l (by omega) (by omega), he]
  simp [sizeOf, typeInfo, hi, hz1, sliced, Addr.add, show l ≠ 0 by omega]
set_option maxHeartbeats 2400000 in
theorem implTag_no (p q : Option Addr) (n m c d : Nat) (w : World) (hno : ¬ tagOk n m) :
    Calls Tryz.prog 111 #[.slice p n c, .slice q m d] w fun e w' => ∃ p' c', e = .returned (.slice p' 0 c') ∧ Own 5 w' w.heap.size w'.heap.size (.slice p' 0 c') 0 [] ∧ Below w.heap.size w w' := by
  have hown0 : w.ownsRow w.heap.size 5 1 (.slice none 0 0) 0 (([] : List Int).map (Value.int .u8)) := ⟨rfl, .inl ⟨rfl, rfl⟩⟩
  unfold tagOk at hno
  by_cases t0 : n = 32
  · subst t0
    have h1 : (4000 : Int) < (m : Int) := by omega
    clear hno
    go_enter Tryz.func111, Tryz.ntmps111
    go_wp2_with (fail)
    go_ret
    exact ⟨_, _, rfl, .of hown0, Below.refl _ _⟩
  · have z0 : ((n : Int) != 32) = true := by simp; omega
    clear hno
    go_enter Tryz.func111, Tryz.ntmps111
    go_wp2_with (fail)
    go_ret
    exact ⟨_, _, rfl, .of hown0, Below.refl _ _⟩
set_option maxHeartbeats 4000000 in
theorem implTag_yes (p q : Option Addr) (m c d : Nat) (ks bs : List Int) (w : World) (hc : 32 ≤ c) (hd : m ≤ d) (hm : m ≤ 4000) (hx : ks.length = 32) (hy : bs.length = m) (h : BytesIn w p 32 ks) (h' : BytesIn w q m bs) (hb1 : ∀ x ∈ ks, 0 ≤ x ∧ x < 256) (hb2 : ∀ x ∈ bs, 0 ≤ x ∧ x < 256) :
    Calls Tryz.prog 111 #[.slice p 32 c, .slice q m d] w fun e w' => ∃ p' c', e = .returned (.slice p' 16 c') ∧ Own 5 w' w.heap.size w'.heap.size (.slice p' 16 c') 16 (tagB ks bs m) ∧ Below w.heap.size w w' := by
  obtain ⟨bk, ok, rfl, hck⟩ := h (by decide)
  have hbk : bk < w.heap.size := World.block_lt_of_cell? w ⟨bk, ok + 0, none⟩ (hck 0 (by decide))
  obtain ⟨b2, o2, hq2, hlt2⟩ : ∃ b2 o2, Hid (0 < m → q = some ⟨b2, o2, none⟩ ∧ ∀ i, i < m → w.cell? ⟨b2, o2 + i, none⟩ = some (.int .u8 (bs.getD i 0))) ∧ (0 < m → b2 < w.heap.size) := by
    rcases Nat.eq_zero_or_pos m with h0 | h0
    · exact ⟨0, 0, fun k => by omega, fun k => by omega⟩
    · obtain ⟨b, o, rfl, hcc⟩ := h' h0
      exact ⟨b, o, fun _ => ⟨rfl, hcc⟩, fun _ => World.block_lt_of_cell? w ⟨b, o + 0, none⟩ (hcc 0 h0)⟩
  have hB : (ks.take 16).length = 16 := by simp [hx]
  have hBb : ∀ x ∈ ks.take 16, 0 ≤ x ∧ x < 256 := fun x hx => hb1 x (List.mem_of_mem_take hx)
  have hra : w.rangeAt bk ok ((ks.take 16).map (Value.int .u8)) := fun i v hv => by
    have hi : i < 16 := by have := (List.getElem?_eq_some_iff.1 hv).1; simp at this; omega
    rw [hck i (by omega), ← hv]
    simp [hi, List.getElem?_eq_getElem (show i < ks.length by omega)]
  have hsz : (Tryz.prog.info? 177).map (·.size) = some ((ks.take 16).map (Value.int .u8)).length := by
    rw [List.length_map, hB]
    kernel_rfl
  have hat : ∀ w, (Instr.arrayAt 177 (.slice (some ⟨bk, ok, none⟩) 32 c)).run Tryz.prog w = .ok (.pointer (some ⟨bk, ok, none⟩)) w := fun w => run_arrayAt w 177 _ 16 _ 32 c Tryz.underlying177 (by omega)
  have CF := tagFactor_any (ks.take 16) w hB hBb
  rw [keyD_take] at CF
  have hkey := key_small hb1
  have HK : Hid (∀ X, Below w.heap.size w X → BytesIn X (some ⟨bk, ok + 16, none⟩) 16 (ks.drop 16)) := fun X hX => by
    intro _
    refine ⟨bk, ok + 16, rfl, fun i hi => ?_⟩
    rw [hX.cell (p := ⟨bk, ok + 16 + i, none⟩) hbk, Nat.add_assoc, hck (16 + i) (by omega)]
    simp
  have HQ : Hid (∀ X, Below w.heap.size w X → ∀ j, j < m → BytesIn X (some ⟨b2, o2 + j, none⟩) (m - j) (bs.drop j)) := fun X hX j hj => by
    intro _
    refine ⟨b2, o2 + j, rfl, fun i hi => ?_⟩
    rw [hX.cell (p := ⟨b2, o2 + j + i, none⟩) (hlt2 (by omega)), Nat.add_assoc, (hq2.out (by omega)).2 (j + i) (by omega)]
    simp
  have hq0 : Hid (0 < m → q = some ⟨b2, o2, none⟩) := fun hp => (hq2.out hp).1
  have hpoly : ∀ k, polyN bs m (keyD ks) (k + 1) = ((polyN bs m (keyD ks) k + valN (chunkD bs m k) 17) * valN (keyD ks) 17) % tagP := fun k => rfl
  have hpl := polyN_lt bs m (keyD ks) (tagK m)
  have htag : tagB ks bs m = bytesV (polyN bs m (keyD ks) (tagK m) + valN (byN (ks.drop 16)) 16) := by rw [← num_half]; rfl
  have hp0 : polyN bs m (keyD ks) 0 = 0 := rfl
  rw [htag]
  generalize hAA : ((ks.take 16).map (Value.int .u8)) = AA at CF hra hsz
  clear hAA htag
  generalize polyN bs m (keyD ks) = PN at hpoly hpl hp0 ⊢
  generalize hKV : valN (keyD ks) 17 = KV at hkey hpoly CF
  have hKb := fun x (hx : x ∈ ks.drop 16) => hb1 x (List.mem_of_mem_drop hx)
  clear hKV hBb hB h h' hck hq2
  go_enter Tryz.func111, Tryz.ntmps111
  go_wp2_with (refine wpList_load_mid rfl 177 _ rfl bk ok rfl AA _ hra Tryz.underlying177 rfl hsz ?_)
  refine CF.mono ?_
  rintro e w1 ⟨gr, rfl, n1, bel1⟩
  clear CF hra hsz hat
  have hgr := n1.lt
  obtain ⟨w2, hw2⟩ : ∃ w2, w2 = w1.alloc (.cells #[.int .u64 0, .int .u64 0, .int .u64 0, .int .u64 0, .int .u64 0] 179) := ⟨_, rfl⟩
  have b2' : Below w1.heap.size w1 w2 := by rw [hw2]; exact (Below.refl _ _).alloc (Nat.le_refl _) _
  have hn2 : NumIs w2 w1.heap.size w1.heap.size zero5 := by rw [hw2]; exact NumIs.made w1 0 0 0 0 0
  have nr2 := n1.below b2'
  have bel2 := below_on bel1 b2'
  have hgs := bel1.size
  have hz5 : zero5 = digL 0 := by decide
  rw [hz5] at hn2
  have hns := hn2.mono bel1.size
  have hnegr : gr ≠ w1.heap.size := by omega
  obtain ⟨gs, hgs'⟩ : ∃ gs, gs = w1.heap.size := ⟨_, rfl⟩
  go_wp2_with (fail)
  rw [← hw2]
  rw [← hgs'] at hns hnegr hgs ⊢
  clear hw2 b2' n1 hn2 hz5 hgs' bel1 hgr
  go_loopw [7] (fun v wr => ∃ (k j : Nat) (q' : Option Addr) (cc V : Nat), Hid (k ≤ tagK m ∧ j = min (16 * k) m) ∧ v = .slice q' (m - j) cc ∧ m - j ≤ cc ∧ Hid (0 < m - j → q' = some ⟨b2, o2 + j, none⟩) ∧ NumIs wr w.heap.size gs (digL V) ∧ Hid (V < 67108864 ^ 5 ∧ alike V (PN k)) ∧ NumIs wr w.heap.size gr (digL KV) ∧ Below w.heap.size w wr)
    (fun v _ => lenS v)
  case atStart => exact ⟨0, 0, q, d, 0, ⟨Nat.zero_le _, by omega⟩, rfl, by omega, fun k => hq0.out (by omega), hns, ⟨by decide, by rw [hp0]; rfl⟩, nr2, bel2⟩
  case round =>
    clear hns nr2 bel2 hq0
    obtain ⟨k, j, q', cc, V, hkj, rfl, hcc, hq', hn, hV, hr, bel⟩ := hrel
    by_cases hlt : j < m
    · obtain ⟨hk1, hj1⟩ := hkj.out
      have hj : j = 16 * k := by omega
      obtain rfl := hq'.out (by omega)
      obtain ⟨n, hn'⟩ : ∃ n, n = m - j := ⟨_, rfl⟩
      have hin := HQ.out wr bel j hlt
      rw [← hn'] at hin hcc ⊢
      by_cases h16 : 16 ≤ n
      · have h16' : (16 : Int) ≤ (n : Int) := by omega
        have hl0 : 0 < 16 := by omega
        have hl16 : 16 ≤ 16 := by omega
        have hln : 16 ≤ n := by omega
        have hchunk : Hid (valN (chunkD bs m k) 17 = valN (byN (bs.drop j)) 16 + 1 * 256 ^ 16) := by
          rw [Hid, hj, ← num_last _ _ hl16, chunkD, chunkN, show min 16 (m - 16 * k) = 16 by omega]
        have hbd : ∀ x ∈ bs.drop j, 0 ≤ x ∧ x < 256 := fun x hx => hb2 x (List.mem_of_mem_drop hx)
        have hinl : BytesIn wr (some ⟨b2, o2 + j, none⟩) 16 (bs.drop j) := fun _ => by
          obtain ⟨b, o, hbo, hcell⟩ := hin (by omega)
          exact ⟨b, o, hbo, fun i hi => hcell i (by omega)⟩
        have hb2lt := hlt2 (by omega)
        have CP := put_any w.heap.size gs (digL V) (some ⟨b2, o2 + j, none⟩) 16 cc (bs.drop j) wr ((digL_less V).mono (by decide)) hl16 hbd hinl (fun a ha => by cases ha; show b2 ≠ gs; omega) hn
        have hL1 : lessP 4611686018427387904 (putsP (digL V) (byN (bs.drop j)) 16) := (putsP_less (digL_less V) (byN_lt hbd) 16).mono (by omega)
        have hV1 := (putsP_val (byN (bs.drop j)) (digL_length V) 16 (by omega)).2
        rw [val5_digL, Nat.mod_eq_of_lt hV.out.1] at hV1
        generalize putsP (digL V) (byN (bs.drop j)) 16 = S1 at CP hL1 hV1
        have CB := fun X (hX : NumIs X w.heap.size gs S1) => putByte_any w.heap.size gs S1 1 16 X (hL1.mono (by decide)) (by decide) hl16 hX
        have hL2 : lessP 9223372036854775808 (putP S1 1 16) := (putP_less (p := 16) hL1 (by decide)).mono (by decide)
        have hV2 : Hid (val5 (putP S1 1 16) = V + valN (chunkD bs m k) 17) := by
          rw [Hid, putP_val 1 16 hL1.1 hl16, hV1, hchunk.out]
          omega
        generalize putP S1 1 16 = S2 at CB hL2 hV2
        obtain ⟨j2, hj2⟩ : ∃ j2, o2 + j = j2 := ⟨_, rfl⟩
        rw [hj2] at CP ⊢
        obtain ⟨q2, hq2, hsl⟩ := slice_from b2 j2 n cc 16 hl0 hln hcc
        replace hsl : ∀ W, (Instr.slice 22 (.slice (some ⟨b2, j2, none⟩) n cc) (some (.int .i64 16)) none none).run Tryz.prog W = .ok (.slice q2 (n - 16) (cc - 16)) W := hsl
        have hm0 : (0 : Int) < (n : Int) := by omega
        have hcc' : (n : Int) ≤ (cc : Int) := by omega
        have hpk : Hid (PN (k + 1) = (PN k + valN (chunkD bs m k) 17) * KV % tagP) := hpoly k
        have hkn : k < tagK m := by unfold tagK; omega
        clear hin hinl hbd hV1 hchunk hq' hpoly hL1 hn hln hl0 hl16 hcc
        replace hn' : Hid (n = m - j) := hn'
        replace hj2 : Hid (o2 + j = j2) := hj2
        replace hj : Hid (j = 16 * k) := hj
        replace hj1 : Hid (j = min (16 * k) m) := hj1
        go_wp2_with (fail)
        refine CP.mono ?_
        rintro e w3 ⟨rfl, n3, g3⟩
        have bel3 := bel.grown g3 bel.size (fun k hk => by cases hk; exact hgs)
        have nr3 := hr.kept g3 hnegr
        clear CP
        go_wp2_with (fail)
        refine (CB _ n3).mono ?_
        rintro e w4 ⟨rfl, n4, g4⟩
        have bel4 := bel3.grown g4 bel3.size (fun k hk => by cases hk; exact hgs)
        have nr4 := nr3.kept g4 hnegr
        have CG := goRound_any _ _ _ _ hL2 n4
        rw [hV2.out] at CG
        clear CB n3 g3 n4 g4 bel3 nr3
        go_wp2_with (fail)
        refine CG.mono ?_
        rintro e w5 ⟨rfl, ⟨V5, hV5, n5, ha5⟩, g5⟩
        have bel5 := bel4.grown g5 bel4.size (fun k hk => by cases hk; exact hgs)
        have nr5 := nr4.kept g5 hnegr
        have CT := times_any _ _ _ _ _ _ _ (digL_less V5) (digL_less KV) n5 nr5 hnegr
        rw [val5_digL, val5_digL, Nat.mod_eq_of_lt hV5, Nat.mod_eq_of_lt hkey] at CT
        clear CG n5 g5 bel4 nr4 hL2 hV2
        go_wp2_with (fail)
        refine CT.mono ?_
        rintro e w6 ⟨rfl, ⟨T, n6, hT, ha6⟩, g6⟩
        have bel6 := bel5.grown g6 bel5.size (fun k hk => by cases hk; exact hgs)
        have nr6 := nr5.kept g6 hnegr
        have CG := goRound_any _ _ _ _ (hT.mono (by decide)) n6
        clear CT n6 g6 bel5 nr5
        go_wp2_with (fail)
        refine CG.mono ?_
        rintro e w7 ⟨rfl, ⟨V7, hV7, n7, ha7⟩, g7⟩
        have bel7 := bel6.grown g7 bel6.size (fun k hk => by cases hk; exact hgs)
        have nr7 := nr6.kept g7 hnegr
        clear CG g7 bel6 nr6 hT
        have hal : alike V7 (PN (k + 1)) := by
          rw [hpk.out]
          exact ha7.trans (ha6.trans (((ha5.trans (hV.out.2.add (alike.refl _))).mul (alike.refl _)).trans (alike_mod _).symm))
        go_wp2
        go_roundw
        case rel =>
          have e1 := hn'.out
          have e2 := hj.out
          exact ⟨k + 1, j + 16, q2, cc - 16, V7, ⟨by omega, by omega⟩, by rw [show m - (j + 16) = n - 16 by omega], by omega, fun hp => by rw [← Nat.add_assoc, hj2.out]; exact hq2.out (by omega), n7, ⟨hV7, hal⟩, nr7, bel7⟩
        case measure => simp only [lenS]; omega
      · have h16' : ¬ (16 : Int) ≤ (n : Int) := by omega
        have h17' : (n : Int) < 16 := by omega
        have hl0 : 0 < n := by omega
        have hl16 : n ≤ 16 := by omega
        have hln : n ≤ n := by omega
        have hchunk : Hid (valN (chunkD bs m k) 17 = valN (byN (bs.drop j)) n + 1 * 256 ^ n) := by
          rw [Hid, hj, ← num_last _ _ hl16, chunkD, chunkN, show min 16 (m - 16 * k) = n by omega]
        have hbd : ∀ x ∈ bs.drop j, 0 ≤ x ∧ x < 256 := fun x hx => hb2 x (List.mem_of_mem_drop hx)
        have hinl : BytesIn wr (some ⟨b2, o2 + j, none⟩) n (bs.drop j) := fun _ => by
          obtain ⟨b, o, hbo, hcell⟩ := hin (by omega)
          exact ⟨b, o, hbo, fun i hi => hcell i (by omega)⟩
        have hb2lt := hlt2 (by omega)
        have CP := put_any w.heap.size gs (digL V) (some ⟨b2, o2 + j, none⟩) n cc (bs.drop j) wr ((digL_less V).mono (by decide)) hl16 hbd hinl (fun a ha => by cases ha; show b2 ≠ gs; omega) hn
        have hL1 : lessP 4611686018427387904 (putsP (digL V) (byN (bs.drop j)) n) := (putsP_less (digL_less V) (byN_lt hbd) n).mono (by omega)
        have hV1 := (putsP_val (byN (bs.drop j)) (digL_length V) n (by omega)).2
        rw [val5_digL, Nat.mod_eq_of_lt hV.out.1] at hV1
        generalize putsP (digL V) (byN (bs.drop j)) n = S1 at CP hL1 hV1
        have CB := fun X (hX : NumIs X w.heap.size gs S1) => putByte_any w.heap.size gs S1 1 n X (hL1.mono (by decide)) (by decide) hl16 hX
        have hL2 : lessP 9223372036854775808 (putP S1 1 n) := (putP_less (p := n) hL1 (by decide)).mono (by decide)
        have hV2 : Hid (val5 (putP S1 1 n) = V + valN (chunkD bs m k) 17) := by
          rw [Hid, putP_val 1 n hL1.1 hl16, hV1, hchunk.out]
          omega
        generalize putP S1 1 n = S2 at CB hL2 hV2
        obtain ⟨j2, hj2⟩ : ∃ j2, o2 + j = j2 := ⟨_, rfl⟩
        rw [hj2] at CP ⊢
        obtain ⟨q2, hq2, hsl⟩ := slice_from b2 j2 n cc n hl0 hln hcc
        have hm0 : (0 : Int) < (n : Int) := by omega
        have hcc' : (n : Int) ≤ (cc : Int) := by omega
        have hpk : Hid (PN (k + 1) = (PN k + valN (chunkD bs m k) 17) * KV % tagP) := hpoly k
        have hkn : k < tagK m := by unfold tagK; omega
        clear hin hinl hbd hV1 hchunk hq' hpoly hL1 hn hln hl0 hl16 hcc
        replace hn' : Hid (n = m - j) := hn'
        replace hj2 : Hid (o2 + j = j2) := hj2
        replace hj : Hid (j = 16 * k) := hj
        replace hj1 : Hid (j = min (16 * k) m) := hj1
        go_wp2_with (fail)
        refine CP.mono ?_
        rintro e w3 ⟨rfl, n3, g3⟩
        have bel3 := bel.grown g3 bel.size (fun k hk => by cases hk; exact hgs)
        have nr3 := hr.kept g3 hnegr
        clear CP
        go_wp2_with (fail)
        refine (CB _ n3).mono ?_
        rintro e w4 ⟨rfl, n4, g4⟩
        have bel4 := bel3.grown g4 bel3.size (fun k hk => by cases hk; exact hgs)
        have nr4 := nr3.kept g4 hnegr
        have CG := goRound_any _ _ _ _ hL2 n4
        rw [hV2.out] at CG
        clear CB n3 g3 n4 g4 bel3 nr3
        go_wp2_with (fail)
        refine CG.mono ?_
        rintro e w5 ⟨rfl, ⟨V5, hV5, n5, ha5⟩, g5⟩
        have bel5 := bel4.grown g5 bel4.size (fun k hk => by cases hk; exact hgs)
        have nr5 := nr4.kept g5 hnegr
        have CT := times_any _ _ _ _ _ _ _ (digL_less V5) (digL_less KV) n5 nr5 hnegr
        rw [val5_digL, val5_digL, Nat.mod_eq_of_lt hV5, Nat.mod_eq_of_lt hkey] at CT
        clear CG n5 g5 bel4 nr4 hL2 hV2
        go_wp2_with (fail)
        refine CT.mono ?_
        rintro e w6 ⟨rfl, ⟨T, n6, hT, ha6⟩, g6⟩
        have bel6 := bel5.grown g6 bel5.size (fun k hk => by cases hk; exact hgs)
        have nr6 := nr5.kept g6 hnegr
        have CG := goRound_any _ _ _ _ (hT.mono (by decide)) n6
        clear CT n6 g6 bel5 nr5
        go_wp2_with (fail)
        refine CG.mono ?_
        rintro e w7 ⟨rfl, ⟨V7, hV7, n7, ha7⟩, g7⟩
        have bel7 := bel6.grown g7 bel6.size (fun k hk => by cases hk; exact hgs)
        have nr7 := nr6.kept g7 hnegr
        clear CG g7 bel6 nr6 hT
        have hal : alike V7 (PN (k + 1)) := by
          rw [hpk.out]
          exact ha7.trans (ha6.trans (((ha5.trans (hV.out.2.add (alike.refl _))).mul (alike.refl _)).trans (alike_mod _).symm))
        go_wp2
        go_roundw
        case rel =>
          have e1 := hn'.out
          have e2 := hj.out
          exact ⟨k + 1, j + n, q2, cc - n, V7, ⟨by omega, by omega⟩, by rw [show m - (j + n) = 0 by omega], by omega, fun hp => by rw [← Nat.add_assoc, hj2.out]; exact hq2.out (by omega), n7, ⟨hV7, hal⟩, nr7, bel7⟩
        case measure => simp only [lenS]; omega
    · obtain ⟨hk1, hj1⟩ := hkj.out
      have hmj : m - j = 0 := by omega
      have hk : k = tagK m := by unfold tagK at hk1 ⊢; omega
      rw [hmj]
      have hV1 := hV.out.1
      have hal := hV.out.2
      rw [hk] at hal
      have CT := takeRest_any _ _ _ _ (digL_less V) hn
      rw [val5_digL, Nat.mod_eq_of_lt hV1, show V % tagP = PN (tagK m) from Eq.trans hal (Nat.mod_eq_of_lt hpl)] at CT
      obtain ⟨q3, hq3, hsl⟩ := slice_from bk ok 32 c 16 (by decide) (by decide) hc
      obtain rfl := hq3.out (by decide)
      replace hsl : ∀ W, (Instr.slice 22 (.slice (some ⟨bk, ok, none⟩) 32 c) (some (.int .i64 16)) none none).run Tryz.prog W = .ok (.slice (some ⟨bk, ok + 16, none⟩) 16 (c - 16)) W := hsl
      clear hV1 hal hV hk hmj hk1 hj1 hkj hq' hn hpoly hpl hcc
      go_wp2_with (fail)
      refine CT.mono ?_
      rintro e w3 ⟨rfl, ⟨T, n3, hT, hTv⟩, g3⟩
      have bel3 := bel.grown g3 bel.size (fun k hk => by cases hk; exact hgs)
      have CP := put_any w.heap.size gs T (some ⟨bk, ok + 16, none⟩) 16 (c - 16) (ks.drop 16) w3 (hT.mono (by decide)) (by decide) hKb (HK.out _ bel3) (fun a ha => by cases ha; show bk ≠ gs; omega) n3
      have hL1 : lessP 9223372036854775808 (putsP T (byN (ks.drop 16)) 16) := (putsP_less hT (byN_lt hKb) 16).mono (by decide)
      have hV1 := (putsP_val (byN (ks.drop 16)) hT.1 16 (by omega)).2
      rw [hTv] at hV1
      generalize putsP T (byN (ks.drop 16)) 16 = S1 at CP hL1 hV1
      obtain ⟨TV, hTV⟩ : ∃ TV, PN (tagK m) + valN (byN (ks.drop 16)) 16 = TV := ⟨_, rfl⟩
      rw [hTV] at hV1
      replace hTV : Hid (PN (tagK m) + valN (byN (ks.drop 16)) 16 = TV) := hTV
      clear CT g3 n3 hT hTv
      go_wp2_with (fail)
      refine CP.mono ?_
      rintro e w4 ⟨rfl, n4, g4⟩
      have bel4 := bel3.grown g4 bel3.size (fun k hk => by cases hk; exact hgs)
      have CA := carry_any _ _ _ _ hL1 n4
      rw [hV1] at CA
      clear CP g4 n4 hL1 hV1 hsl
      go_wp2_with (fail)
      refine CA.mono ?_
      rintro e w5 ⟨rfl, n5, g5⟩
      have bel5 := bel4.grown g5 bel4.size (fun k hk => by cases hk; exact hgs)
      have CB := numBytes_any _ _ _ _ n5
      clear CA g5 n5
      go_wp2_with (fail)
      refine CB.mono ?_
      rintro e w6 ⟨p6, c6, rfl, r6, b6⟩
      clear CB
      go_wp2_with (fail)
      go_ret
      rw [hTV.out]
      exact ⟨_, _, rfl, ⟨owns_mono r6.1 bel5.size, r6.2⟩, below_on bel5 b6⟩
theorem implTag_any (p q : Option Addr) (n m c d : Nat) (ks bs : List Int) (w : World) (hx : ks.length = n) (hy : bs.length = m) (h : BytesIn w p n ks) (h' : BytesIn w q m bs) (hb1 : ∀ x ∈ ks, 0 ≤ x ∧ x < 256) (hb2 : ∀ x ∈ bs, 0 ≤ x ∧ x < 256) (hc : n ≤ c) (hd : m ≤ d) :
    Calls Tryz.prog 111 #[.slice p n c, .slice q m d] w fun e w' => ∃ p' c', e = .returned (.slice p' (tagN n m) c') ∧ Own 5 w' w.heap.size w'.heap.size (.slice p' (tagN n m) c') (tagN n m) (tagL ks bs) ∧ Below w.heap.size w w' := by
  unfold tagN tagL
  rw [hx, hy]
  by_cases hok : tagOk n m
  · rw [if_pos hok, if_pos hok]
    obtain ⟨rfl, hm⟩ := hok
    exact implTag_yes p q m c d ks bs w hc hd hm hx hy h h' hb1 hb2
  · rw [if_neg hok, if_neg hok]
    exact implTag_no p q n m c d w hok
def fillN (n : Nat) : Nat := (16 - n % 16) % 16
theorem fillN_lt (n : Nat) : fillN n < 16 := by unfold fillN; omega
def fillL (xs : List Int) : List Int := xs ++ List.replicate (fillN xs.length) 0
theorem fillL_length (xs : List Int) : (fillL xs).length = xs.length + fillN xs.length := by simp [fillL]
def ttN (n m : Nat) : Nat := n + fillN n + (m + fillN m) + 8 + 8
def ttL (xs ys : List Int) : List Int := fillL xs ++ fillL ys ++ littleL (xs.length : Int) 8 ++ littleL (ys.length : Int) 8
set_option maxHeartbeats 4000000 in
theorem l7Fill_any (p : Option Addr) (n c : Nat) (xs : List Int) (w : World) (hn : n ≤ 1048576) (hx : xs.length = n) (h : BytesIn w p n xs) :
    Calls Tryz.prog 164 #[.slice p n c] w fun e w' => ∃ p' c', e = .returned (.slice p' (n + fillN n) c') ∧ Own 5 w' w.heap.size w'.heap.size (.slice p' (n + fillN n) c') (n + fillN n) (fillL xs) ∧ Below w.heap.size w w' := by
  obtain ⟨i0, hi, hz0, hz1, hz2⟩ := info_parts infoByte
  have hzl := fillN_lt n
  have HZ : Hid (fillN n = (16 - n % 16) % 16) := rfl
  have HF : Hid (fillL xs = xs ++ List.replicate (fillN n) 0) := by rw [Hid, fillL, hx]
  generalize fillN n = Z at hzl HZ HF ⊢
  generalize fillL xs = FL at HF ⊢
  go_enter Tryz.func164, Tryz.ntmps164
  have hown0 : (w.alloc (.cells #[] 5)).ownsRow w.heap.size 5 1 (.slice (some ⟨w.heap.size, 0, none⟩) 0 0) 0 (([] : List Int).map (Value.int .u8)) := World.ownsRow_made w #[] 0 (Nat.le_refl _) (by unfold maxLen; omega) rfl
  have hb0 : Below w.heap.size w (w.alloc (.cells #[] 5)) := (Below.refl _ _).alloc (Nat.le_refl _) _
  have h1 := in_below h hb0
  have hlen : xs.length = n := hx
  clear hx h
  go_wp2_with (at_builtin; refine list_spreadA hi hz0 hz1 hz2 (.tmp 4) (.tmp 5) 22 Tryz.underlying22 hown0 h1 hlen (by omega) (by omega) (by simp) (by rfl) (by rfl) (by rfl) (by rfl) ?_; intro p1 cap1 w1 ho1 hb1; simp only [Nat.zero_add, List.nil_append] at ho1 ⊢)
  have bel1 : Below w.heap.size w w1 := hb0.trans hb1
  clear hown0 hb0 h1 hb1
  go_loopw [3] (fun v wr => ∃ k m : Nat, k ≤ Z ∧ Hid (m = n + k) ∧ wr.ownsRow w.heap.size 5 1 v m ((xs ++ List.replicate k 0).map (Value.int .u8)) ∧ Below w.heap.size w wr)
    (fun v _ => match v with | .slice _ m _ => n + Z - m | _ => 0)
  case atStart => exact ⟨0, n, by omega, rfl, by simpa using ho1, bel1⟩
  case round =>
    clear ho1 bel1
    obtain ⟨k, m, hk, hm, hown, hbel⟩ := hrel
    have hsz := hbel.size
    obtain ⟨q, cq, hv⟩ := owns_form hown
    subst hv
    have hmb : m ≤ 1048600 := by have := hm.out; omega
    by_cases hlt : k < Z
    · have d1 : ((m : Int) % 16 != 0) = true := by
        have := hm.out
        have := HZ.out
        have : (m : Int) % 16 ≠ 0 := by omega
        simpa using this
      have HX : Hid (xs ++ List.replicate k 0 ++ [0] = xs ++ List.replicate (k + 1) 0) := by
        rw [Hid, List.append_assoc _ _ [0], ← List.replicate_succ']
      go_wp2_with (at_builtin; refine list_push hi hz0 hz1 hz2 (.tmp 11) (.tmp 12) 22 Tryz.underlying22 _ hown (by omega) hsz (by rfl) (by rfl) (by rfl) (by rfl) ?_; intro g3 cap3 w3 ho3 hb3; rw [HX.out] at ho3)
      go_roundw
      case rel => exact ⟨k + 1, m + 1, by omega, by have := hm.out; rw [Hid]; omega, ho3, hbel.trans hb3⟩
      case measure => have := hm.out; show n + Z - (m + 1) < n + Z - m; omega
    · obtain rfl : k = Z := by omega
      have d1 : ((m : Int) % 16 != 0) = false := by
        have := hm.out
        have := HZ.out
        have : (m : Int) % 16 = 0 := by omega
        simp [this]
      go_wp2
      go_ret
      rw [hm.out, ← HF.out] at hown
      rw [hm.out]
      exact ⟨_, _, rfl, .of hown, hbel⟩
theorem specLit8 (n : Nat) (w : World) (hn : n ≤ 1048576) :
    Calls Tryz.prog 102 #[.int .i64 n, .int .i64 8] w fun e w' => ∃ p c, e = .returned (.slice p 8 c) ∧ Own 5 w' w.heap.size w'.heap.size (.slice p 8 c) 8 (littleL (n : Int) 8) ∧ Below w.heap.size w w' := specLittle_yes (n : Int) 8 w (by omega) (by omega) (by omega) (by omega)
theorem implLit8 (n : Nat) (w : World) (hn : n ≤ 1048576) :
    Calls Tryz.prog 84 #[.int .i64 n, .int .i64 8] w fun e w' => ∃ p c, e = .returned (.slice p 8 c) ∧ Own 5 w' w.heap.size w'.heap.size (.slice p 8 c) 8 (littleL (n : Int) 8) ∧ Below w.heap.size w w' := implLittle_yes (n : Int) 8 w (by omega) (by omega) (by omega) (by omega)
set_option maxHeartbeats 4000000 in
theorem specTagText_any (p q : Option Addr) (n m c d : Nat) (xs ys : List Int) (w : World) (hn : n ≤ 1048576) (hm : m ≤ 1048576) (hx : xs.length = n) (hy : ys.length = m) (h : BytesIn w p n xs) (h' : BytesIn w q m ys) :
    Calls Tryz.prog 118 #[.slice p n c, .slice q m d] w fun e w' => ∃ p' c', e = .returned (.slice p' (ttN n m) c') ∧ Own 5 w' w.heap.size w'.heap.size (.slice p' (ttN n m) c') (ttN n m) (ttL xs ys) ∧ Below w.heap.size w w' := by
  obtain ⟨i0, hi, hz0, hz1, hz2⟩ := info_parts infoByte
  have hlx : (fillL xs).length = n + fillN n := by rw [fillL_length, hx]
  have hly : (fillL ys).length = m + fillN m := by rw [fillL_length, hy]
  have hz1' := fillN_lt n
  have hz2' := fillN_lt m
  have C1 := fun w h => l7Fill_any p n c xs w hn hx h
  have C2 := fun w h => l7Fill_any q m d ys w hm hy h
  have L1 := fun w => specLit8 n w hn
  have L2 := fun w => specLit8 m w hm
  have hl1 := littleL_length (n : Int) 8
  have hl2 := littleL_length (m : Int) 8
  have HT : Hid (ttL xs ys = fillL xs ++ fillL ys ++ littleL (n : Int) 8 ++ littleL (m : Int) 8) := by rw [Hid, ttL, hx, hy]
  have HN : Hid (ttN n m = n + fillN n + (m + fillN m) + 8 + 8) := rfl
  generalize ttL xs ys = TL at HT ⊢
  generalize ttN n m = TN at HN ⊢
  generalize fillL xs = FX at hlx C1 HT
  generalize fillL ys = FY at hly C2 HT
  generalize littleL (n : Int) 8 = LX at L1 hl1 HT
  generalize littleL (m : Int) 8 = LY at L2 hl2 HT
  obtain ⟨N1, hN1⟩ : ∃ N1, N1 = n + fillN n := ⟨_, rfl⟩
  obtain ⟨N2, hN2⟩ : ∃ N2, N2 = m + fillN m := ⟨_, rfl⟩
  have hb1 : N1 ≤ 1048600 := by omega
  have hb2 : N2 ≤ 1048600 := by omega
  rw [← hN1] at hlx HN
  simp only [← hN1] at C1
  rw [← hN2] at hly HN
  simp only [← hN2] at C2
  clear hN1 hN2 hz1' hz2' hx hy
  go_enter Tryz.func118, Tryz.ntmps118
  go_wp2_with (fail)
  refine (C1 _ h).mono ?_
  rintro e w1 ⟨p1, c1, rfl, r1, b1⟩
  have h1 := in_below h' b1
  clear C1 h h'
  go_wp2_with (fail)
  refine (C2 _ h1).mono ?_
  rintro e w2 ⟨p2, c2, rfl, r2, b2⟩
  have o2 := owns_below r1.1 b2
  have bb2 := below_on b1 b2
  have i2 := r2.bytes
  have hs2 := bb2.size
  clear C2 r1 r2 b1 b2 h1
  go_wp2_with (at_builtin; refine list_spreadA hi hz0 hz1 hz2 (.tmp 7) (.tmp 9) 22 Tryz.underlying22 o2 i2 hly (by omega) (by omega) hs2 (by rfl) (by rfl) (by rfl) (by rfl) ?_; intro p3 c3 w3 o3 b3)
  have bb3 := bb2.trans b3
  clear o2 i2 bb2 b3 hs2
  refine (L1 _).mono ?_
  rintro e w4 ⟨p4, c4, rfl, r4, b4⟩
  have o4 := owns_below o3 b4
  have bb4 := below_on bb3 b4
  have i4 := r4.bytes
  have hs4 := bb4.size
  clear L1 o3 bb3 r4 b4
  go_wp2_with (at_builtin; refine list_spreadA hi hz0 hz1 hz2 (.tmp 11) (.tmp 14) 22 Tryz.underlying22 o4 i4 hl1 (by omega) (by omega) hs4 (by rfl) (by rfl) (by rfl) (by rfl) ?_; intro p5 c5 w5 o5 b5)
  have bb5 := bb4.trans b5
  clear o4 i4 bb4 b5 hs4
  refine (L2 _).mono ?_
  rintro e w6 ⟨p6, c6, rfl, r6, b6⟩
  have o6 := owns_below o5 b6
  have bb6 := below_on bb5 b6
  have i6 := r6.bytes
  have hs6 := bb6.size
  clear L2 o5 bb5 r6 b6
  go_wp2_with (at_builtin; refine list_spreadA hi hz0 hz1 hz2 (.tmp 16) (.tmp 19) 22 Tryz.underlying22 o6 i6 hl2 (by omega) (by omega) hs6 (by rfl) (by rfl) (by rfl) (by rfl) ?_; intro p7 c7 w7 o7 b7)
  go_ret
  rw [HN.out, HT.out]
  exact ⟨_, _, rfl, .of o7, bb6.trans b7⟩
theorem zeros_in (w : World) (ty z : Nat) : BytesIn (w.alloc (.cells (madeCells #[.int .u8 0] z) ty)) (some ⟨w.heap.size, 0, none⟩) z (List.replicate z 0) := by
  intro _
  refine ⟨w.heap.size, 0, rfl, fun i hi => ?_⟩
  rw [cell_of_row _ _ _ _ _ _ (heap_alloc_new w _)]
  have := toList_madeCells_one (.int .u8 0) z
  rw [← Array.getElem?_toList, this]
  simp [hi]
set_option maxHeartbeats 2000000 in
theorem zerosBehind_any (p : Option Addr) (n c : Nat) (w : World) (hn : n ≤ 1048576) :
    Calls Tryz.prog 153 #[.slice p n c] w fun e w' => ∃ p' c', e = .returned (.slice p' (fillN n) c') ∧ BytesIn w' p' (fillN n) (List.replicate (fillN n) 0) ∧ Below w.heap.size w w' := by
  obtain ⟨i0, hi, hz0, hz1, hz2⟩ := info_parts infoByte
  have hzl := fillN_lt n
  obtain ⟨ov, hov⟩ : ∃ ov : Nat, ov = n % 16 := ⟨_, rfl⟩
  have hZ : fillN n = (16 - ov) % 16 := by rw [hov]; rfl
  generalize fillN n = Z at hzl hZ ⊢
  have r1 : ((n : Int)).tmod 16 = (ov : Int) := by rw [Int.tmod_eq_emod_of_nonneg (by omega)]; omega
  have r1' : (n : Int) % 16 = (ov : Int) := by omega
  have r2 : (16 - (ov : Int)).tmod 16 = (Z : Int) := by rw [Int.tmod_eq_emod_of_nonneg (by omega)]; omega
  have r2' : (16 - (ov : Int)) % 16 = (Z : Int) := by omega
  have hov2 : ov < 16 := by omega
  clear hov hZ
  have hmk : ∀ W : World, (Instr.makeSlice 22 (.int .i64 (Z : Int)) (.int .i64 (Z : Int))).run Tryz.prog W = .ok (.slice (some ⟨W.heap.size, 0, none⟩) Z Z) (W.alloc (.cells (madeCells #[.int .u8 0] Z) 5)) := by
    intro W
    have := run_makeSlice (P := Tryz.prog) W 22 5 i0 (.int .u8 0) Tryz.underlying22 hi hz0 .i64 .i64 Z Z (by omega) (by omega) (by rw [hz1]; simp; omega) (by rw [hz2]; omega) (by omega)
    simpa [hz1, Value.cells] using this
  clear hi hz0 hz1 hz2
  go_enter Tryz.func153, Tryz.ntmps153
  go_wp2
  go_ret
  exact ⟨_, _, rfl, zeros_in w 5 Z, (Below.refl _ _).alloc (Nat.le_refl _) _⟩
theorem concat6 (p0 p1 p2 p3 p4 p5 : Option Addr) (n0 n1 n2 n3 n4 n5 c0 c1 c2 c3 c4 c5 : Nat) (xs0 xs1 xs2 xs3 xs4 xs5 : List Int) (w0 : World) (hx0 : xs0.length = n0) (hx1 : xs1.length = n1) (hx2 : xs2.length = n2) (hx3 : xs3.length = n3) (hx4 : xs4.length = n4) (hx5 : xs5.length = n5) (h0 : 0 < n0 + n1 + n2 + n3 + n4 + n5) (hs1 : n0 + n1 + n2 + n3 + n4 + n5 ≤ 1073741824)
    (i0 : BytesIn w0 p0 n0 xs0) (i1 : BytesIn w0 p1 n1 xs1) (i2 : BytesIn w0 p2 n2 xs2) (i3 : BytesIn w0 p3 n3 xs3) (i4 : BytesIn w0 p4 n4 xs4) (i5 : BytesIn w0 p5 n5 xs5) (gr : Nat) (hgr : w0.heap.size = gr) :
    Calls Tryz.prog 68 #[.slice (some ⟨gr, 0, none⟩) 6 6] (w0.alloc (.cells #[.slice p0 n0 c0, .slice p1 n1 c1, .slice p2 n2 c2, .slice p3 n3 c3, .slice p4 n4 c4, .slice p5 n5 c5] 22)) fun e w' =>
      ∃ p' c', e = .returned (.slice p' (n0 + n1 + n2 + n3 + n4 + n5) c') ∧ Own 5 w' w0.heap.size w'.heap.size (.slice p' (n0 + n1 + n2 + n3 + n4 + n5) c') (n0 + n1 + n2 + n3 + n4 + n5) (xs0 ++ xs1 ++ xs2 ++ xs3 ++ xs4 ++ xs5) ∧ Below w0.heap.size w0 w' := by
  subst hgr
  have ba : Below w0.heap.size w0 (w0.alloc (.cells #[.slice p0 n0 c0, .slice p1 n1 c1, .slice p2 n2 c2, .slice p3 n3 c3, .slice p4 n4 c4, .slice p5 n5 c5] 22)) := (Below.refl _ _).alloc (Nat.le_refl _) _
  have hs : sumN (fun k => match k with | 0 => n0 | 1 => n1 | 2 => n2 | 3 => n3 | 4 => n4 | _ => n5) 6 = n0 + n1 + n2 + n3 + n4 + n5 := by simp [sumN]
  have hc : catL (fun k => match k with | 0 => xs0 | 1 => xs1 | 2 => xs2 | 3 => xs3 | 4 => xs4 | _ => xs5) 6 = xs0 ++ xs1 ++ xs2 ++ xs3 ++ xs4 ++ xs5 := by simp [catL]
  have h := concat_any w0.heap.size 6 (fun k => match k with | 0 => p0 | 1 => p1 | 2 => p2 | 3 => p3 | 4 => p4 | _ => p5) (fun k => match k with | 0 => n0 | 1 => n1 | 2 => n2 | 3 => n3 | 4 => n4 | _ => n5) (fun k => match k with | 0 => c0 | 1 => c1 | 2 => c2 | 3 => c3 | 4 => c4 | _ => c5) (fun k => match k with | 0 => xs0 | 1 => xs1 | 2 => xs2 | 3 => xs3 | 4 => xs4 | _ => xs5)
    (w0.alloc (.cells #[.slice p0 n0 c0, .slice p1 n1 c1, .slice p2 n2 c2, .slice p3 n3 c3, .slice p4 n4 c4, .slice p5 n5 c5] 22)) (by decide)
    (fun k hk => by
      rw [cell_of_row _ _ k _ _ _ (heap_alloc_new w0 _)]
      match k, hk with
      | 0, _ => rfl
      | 1, _ => rfl
      | 2, _ => rfl
      | 3, _ => rfl
      | 4, _ => rfl
      | 5, _ => rfl)
    (fun k hk => by
      match k, hk with
      | 0, _ => exact hx0
      | 1, _ => exact hx1
      | 2, _ => exact hx2
      | 3, _ => exact hx3
      | 4, _ => exact hx4
      | 5, _ => exact hx5)
    (fun k hk => by
      match k, hk with
      | 0, _ => exact in_below i0 ba
      | 1, _ => exact in_below i1 ba
      | 2, _ => exact in_below i2 ba
      | 3, _ => exact in_below i3 ba
      | 4, _ => exact in_below i4 ba
      | 5, _ => exact in_below i5 ba)
    (by rw [hs]; omega) (by rw [hs]; omega)
  rw [hs, hc] at h
  refine h.mono ?_
  rintro e w' ⟨p', c', rfl, r, b⟩
  exact ⟨p', c', rfl, ⟨owns_mono r.1 (by simp), r.2⟩, below_on ba b⟩
set_option maxHeartbeats 4000000 in
theorem implTagText_any (p q : Option Addr) (n m c d : Nat) (xs ys : List Int) (w : World) (hn : n ≤ 1048576) (hm : m ≤ 1048576) (hx : xs.length = n) (hy : ys.length = m) (h : BytesIn w p n xs) (h' : BytesIn w q m ys) :
    Calls Tryz.prog 112 #[.slice p n c, .slice q m d] w fun e w' => ∃ p' c', e = .returned (.slice p' (ttN n m) c') ∧ Own 5 w' w.heap.size w'.heap.size (.slice p' (ttN n m) c') (ttN n m) (ttL xs ys) ∧ Below w.heap.size w w' := by
  have hz1' := fillN_lt n
  have hz2' := fillN_lt m
  have Z1 := fun w => zerosBehind_any p n c w hn
  have Z2 := fun w => zerosBehind_any q m d w hm
  have L1 := fun w => implLit8 n w hn
  have L2 := fun w => implLit8 m w hm
  have hl1 := littleL_length (n : Int) 8
  have hl2 := littleL_length (m : Int) 8
  have HT : Hid (ttL xs ys = xs ++ List.replicate (fillN n) 0 ++ ys ++ List.replicate (fillN m) 0 ++ littleL (n : Int) 8 ++ littleL (m : Int) 8) := by
    rw [Hid, ttL, fillL, fillL, hx, hy]
    simp only [List.append_assoc]
  have HN : Hid (ttN n m = n + fillN n + m + fillN m + 8 + 8) := by rw [Hid, ttN]; omega
  have hr1 : (List.replicate (fillN n) (0 : Int)).length = fillN n := by simp
  have hr2 : (List.replicate (fillN m) (0 : Int)).length = fillN m := by simp
  generalize ttL xs ys = TL at HT ⊢
  generalize ttN n m = TN at HN ⊢
  generalize List.replicate (fillN n) (0 : Int) = R1 at Z1 HT hr1
  generalize List.replicate (fillN m) (0 : Int) = R2 at Z2 HT hr2
  generalize fillN n = F1 at hz1' Z1 HN hr1
  generalize fillN m = F2 at hz2' Z2 HN hr2
  generalize littleL (n : Int) 8 = LX at L1 hl1 HT
  generalize littleL (m : Int) 8 = LY at L2 hl2 HT
  go_enter Tryz.func112, Tryz.ntmps112
  go_wp2_with (fail)
  refine (Z1 _).mono ?_
  rintro e w1 ⟨p1, c1, rfl, i1, b1⟩
  clear Z1
  go_wp2_with (fail)
  refine (Z2 _).mono ?_
  rintro e w2 ⟨p2, c2, rfl, i2, b2⟩
  have j1 := in_below i1 b2
  have bb2 := below_on b1 b2
  clear Z2 i1 b1 b2
  go_wp2_with (fail)
  refine (L1 _).mono ?_
  rintro e w3 ⟨p3, c3, rfl, r3, b3⟩
  have k1 := in_below j1 b3
  have k2 := in_below i2 b3
  have bb3 := below_on bb2 b3
  clear L1 j1 i2 bb2 b3
  go_wp2_with (fail)
  refine (L2 _).mono ?_
  rintro e w4 ⟨p4, c4, rfl, r4, b4⟩
  have l1 := in_below k1 b4
  have l2 := in_below k2 b4
  have l3 := in_below r3.bytes b4
  have l4 := r4.bytes
  have bb4 := below_on bb3 b4
  have l5 := in_below h bb4
  have l6 := in_below h' bb4
  clear L2 k1 k2 bb3 b4 r3 r4 h h'
  have CC := fun gr hgr => concat6 p p1 q p2 p3 p4 n F1 m F2 8 8 c c1 d c2 c3 c4 xs R1 ys R2 LX LY w4 hx hr1 hy hr2 hl1 hl2 (by omega) (by omega) l5 l1 l6 l2 l3 l4 gr hgr
  clear l1 l2 l3 l4 l5 l6
  go_wp2_with (fail)
  refine (CC _ rfl).mono ?_
  rintro e w5 ⟨p5, c5, rfl, r5, b5⟩
  go_wp2
  go_ret
  rw [HN.out, HT.out]
  exact ⟨_, _, rfl, ⟨owns_mono r5.1 bb4.size, r5.2⟩, below_on bb4 b5⟩
theorem Own.take {e : Nat} {w : World} {lo hi : Nat} {p : Option Addr} {n c k : Nat} {xs : List Int} (h : Own e w lo hi (.slice p n c) n xs) (hk : k ≤ n) : Own e w lo hi (.slice p k c) k (xs.take k) := by
  have hl := h.len
  refine ⟨⟨by simp; omega, ?_⟩, fun j hj => h.2 j (by cases p with | none => cases hj | some a => exact hj)⟩
  rcases h.1.2 with ⟨hv, h0⟩ | ⟨g, cap, cur, hv, hb, hg, hnc, hcm, hcs, ht⟩
  · simp only [Value.slice.injEq] at hv
    obtain ⟨rfl, _, rfl⟩ := hv
    obtain rfl : k = 0 := by omega
    exact .inl ⟨rfl, rfl⟩
  · simp only [Value.slice.injEq] at hv
    obtain ⟨rfl, _, rfl⟩ := hv
    refine .inr ⟨g, c, cur, rfl, hb, hg, by omega, hcm, hcs, ?_⟩
    rw [List.map_take, ← ht, List.take_take]
    congr 1
    omega
theorem slice_to (p : Option Addr) (m cc h : Nat) (hc : h ≤ cc) (hp : p = none → cc = 0) (W : World) : (Instr.slice 22 (.slice p m cc) none (some (.int .i64 (h : Int))) none).run Tryz.prog W = .ok (.slice p h cc) W := by
  have ht' : Tryz.prog.underlying 22 = some (.slice (Tryz.prog.elem 22)) := by simp [Program.elem, Tryz.underlying22]
  have he : Tryz.prog.elem 22 = 5 := by simp [Program.elem, Tryz.underlying22]
  obtain ⟨i0, hi, hz0, hz1, hz2⟩ := info_parts infoByte
  rw [run_slice_h W 22 _ _ _ ht' .i64 h (by omega) (by omega), he]
  cases p with
  | none => simp [sizeOf, typeInfo, hi, sliced]
  | some a => simp [sizeOf, typeInfo, hi, sliced, Addr.add]
def keyS (ks : List Int) (ct : Int) (ns : List Int) (j : Nat) : Int := (blkB ks (ct + ((j / 64 : Nat) : Int)) ns).getD (j % 64) 0
theorem bytesL_rangeS (great : Bool) (ys : List Int) : ∀ x ∈ bytesL great ys, 0 ≤ x ∧ x < 256 := by
  intro x hx
  simp only [bytesL, List.mem_flatMap] at hx
  obtain ⟨y, _, hy⟩ := hx
  have hl : ∀ v : Int, x ∈ littleL v 4 → 0 ≤ x ∧ x < 256 := by
    intro v hv
    simp only [littleL, List.mem_map] at hv
    obtain ⟨i, _, rfl⟩ := hv
    omega
  unfold fourL at hy
  split at hy
  · exact hl _ (List.mem_reverse.1 hy)
  · exact hl _ hy
theorem blkB_byte (ks : List Int) (ct : Int) (ns : List Int) : ∀ x ∈ blkB ks ct ns, 0 ≤ x ∧ x < 256 := bytesL_rangeS _ _
def stL (ks ns es ss : List Int) : List Int := tagL ((blkL ks 0 ns).take 32) (ttL es ss)
theorem blkL_byte (ks : List Int) (ct : Int) (ns : List Int) : ∀ x ∈ blkL ks ct ns, 0 ≤ x ∧ x < 256 := by
  unfold blkL
  split
  · exact blkB_byte ks ct ns
  · exact fun x hx => by cases hx
theorem littleL_byte (n : Int) (k : Nat) : ∀ x ∈ littleL n k, 0 ≤ x ∧ x < 256 := fun x hx => by
  obtain ⟨i, _, rfl⟩ := List.mem_map.1 hx
  omega
theorem ttL_byte {es ss : List Int} (ha : ∀ x ∈ es, 0 ≤ x ∧ x < 256) (hs : ∀ x ∈ ss, 0 ≤ x ∧ x < 256) : ∀ x ∈ ttL es ss, 0 ≤ x ∧ x < 256 := fun x hx => by
  unfold ttL fillL at hx
  simp only [List.mem_append, List.mem_replicate] at hx
  rcases hx with (((h | ⟨_, h⟩) | (h | ⟨_, h⟩)) | h) | h
  · exact ha x h
  · omega
  · exact hs x h
  · omega
  · exact littleL_byte _ _ x h
  · exact littleL_byte _ _ x h
theorem ttL_length (es ss : List Int) : (ttL es ss).length = ttN es.length ss.length := by
  simp only [ttL, fillL, List.length_append, List.length_replicate, littleL_length, ttN]
set_option maxHeartbeats 2000000 in
theorem sealTag_any (kp np ap sp : Option Addr) (kc nc an ac sn sc : Nat) (ks ns es ss : List Int) (w : World) (hk : ks.length = 32) (hn : ns.length = 12) (ha : es.length = an) (hs : ss.length = sn) (han : an ≤ 1048576) (hsn : sn ≤ 1048576) (ik : BytesIn w kp 32 ks) (im : BytesIn w np 12 ns) (ia : BytesIn w ap an es) (is : BytesIn w sp sn ss)
    (bk : ∀ x ∈ ks, 0 ≤ x ∧ x < 256) (bn : ∀ x ∈ ns, 0 ≤ x ∧ x < 256) (ba : ∀ x ∈ es, 0 ≤ x ∧ x < 256) (bs : ∀ x ∈ ss, 0 ≤ x ∧ x < 256) (hkc : 32 ≤ kc) (hnc : 12 ≤ nc) (hP : PlacesIs w) :
    Calls Tryz.prog 73 #[.slice kp 32 kc, .slice np 12 nc, .slice ap an ac, .slice sp sn sc] w fun e w' => ∃ p' c', e = .returned (.slice p' (tagN 32 (ttN an sn)) c') ∧ Own 5 w' w.heap.size w'.heap.size (.slice p' (tagN 32 (ttN an sn)) c') (tagN 32 (ttN an sn)) (stL ks ns es ss) ∧ Below w.heap.size w w' := by
  unfold stL
  have C1 := implBlk_any kp np 32 12 kc nc 0 ks ns w hk hn ik im bk bn hkc hnc hP
  have e64 : blkN 32 12 0 = 64 := by decide
  have hbl : (blkL ks 0 ns).length = 64 := by rw [blkL_length, hk, hn, e64]
  have hbb : ∀ x ∈ blkL ks 0 ns, 0 ≤ x ∧ x < 256 := blkL_byte ks 0 ns
  rw [e64] at C1
  have C2 := fun X (hX : Below w.heap.size w X) => implTagText_any ap sp an sn ac sc es ss X han hsn ha hs (in_below ia hX) (in_below is hX)
  have htl : (ttL es ss).length = ttN an sn := by rw [ttL_length, ha, hs]
  have htb := ttL_byte ba bs
  generalize blkL ks 0 ns = BL at C1 hbl hbb ⊢
  generalize ttL es ss = TL at C2 htl htb ⊢
  generalize ttN an sn = TN at C2 htl ⊢
  obtain ⟨A, hA⟩ : ∃ A, A = BL.take 32 := ⟨_, rfl⟩
  have hAl : A.length = 32 := by rw [hA, List.length_take, hbl]; rfl
  have hAb : ∀ x ∈ A, 0 ≤ x ∧ x < 256 := fun x hx => hbb x (List.mem_of_mem_take (hA ▸ hx))
  rw [← hA]
  clear ik im ia is bk bn ba bs hk hn ha hs e64
  go_enter Tryz.func73, Tryz.ntmps73
  go_wp2_with (fail)
  refine C1.mono ?_
  rintro e w1 ⟨p1, c1, rfl, r1, b1⟩
  clear C1
  have hc1 := r1.cap
  have r1' := r1.take (k := 32) (by omega)
  rw [← hA] at r1'
  obtain ⟨g, o, rfl, _⟩ := r1.bytes (by omega)
  have s1 : ∀ W, (Instr.slice 22 (.slice (some ⟨g, o, none⟩) 64 c1) none (some (.int .i64 32)) none).run Tryz.prog W = .ok (.slice (some ⟨g, o, none⟩) 32 c1) W := slice_to (some ⟨g, o, none⟩) 64 c1 32 (by omega) (fun h => by cases h)
  clear hA r1 hbl hbb
  go_wp2_with (fail)
  refine (C2 _ b1).mono ?_
  rintro e w2 ⟨p2, c2, rfl, r2, b2⟩
  have C3 := implTag_any (some ⟨g, o, none⟩) p2 32 TN c1 c2 A TL w2 hAl htl (r1'.on b2).bytes r2.bytes hAb htb (by omega) r2.cap
  clear C2 r1' s1
  go_wp2_with (fail)
  refine C3.mono ?_
  rintro e w3 ⟨p3, c3, rfl, r3, b3⟩
  go_wp2_with (fail)
  go_ret
  have k2 := below_on b1 b2
  exact ⟨_, _, rfl, ⟨owns_mono r3.1 k2.size, r3.2⟩, below_on k2 b3⟩
theorem run_append_row {P : Program} {w : World} {e t ty : TypeId} {i : TypeInfo} {g n m c cq : Nat} {ad : Addr} {cur : Array Value} {news : List Value} (ht : P.underlying t = some (.slice e)) (hi : P.info? e = some i) (hsize : i.size = 1)
    (hg : w.heap[g]? = some (.cells cur e (0, 0))) (hcs : cur.size = cq) (hl : news.length = m) (hnews : ∀ j u, news[j]? = some u → w.cell? (ad.add j) = some u) (h1 : ∀ u ∈ news, u.oneCell' = true) (hroom : n + m ≤ cq) :
    (Builtin.append_ #[t, t] ty #[.slice (some ⟨g, 0, none⟩) n cq, .slice (some ad) m c]).run P w = .ok (.slice (some ⟨g, 0, none⟩) (n + m) cq) (w.setRow g (cur.toList.take n ++ news ++ cur.toList.drop (n + news.length)).toArray) := by
  have hfc := run_firstCells_some (P := P) w i.size m ad m c news (by rw [hsize, hl, Nat.mul_one]) hnews
  have hst := run_storeCells_at P g n e news 0 cur w hg (by omega) h1
  simp only [Nat.add_zero] at hst
  rw [hsize] at hfc
  simp [Builtin.append_, run_underlying ht, sizeOf, typeInfo, hi, hsize, Builtin.lenOf, hfc, hroom, Addr.add_lit] at hst ⊢
  rw [hst]
  rfl
def capN (n ans : Nat) : Nat := (Question.appendCap n 0 5).cut ans
def zerV (k : Nat) : List Value := List.replicate k (.int .u8 0)
theorem zerA (k : Nat) : Builtin.zeroCells (Value.cells (.int .u8 0)) k = (zerV k).toArray := by
  apply Array.ext
  · simp [size_zeroCells, Value.cells, zerV]
  · intro j h1 h2
    simp [Builtin.zeroCells, Value.cells, Nat.mod_one, zerV]
set_option maxHeartbeats 2000000 in
theorem growNil_cap (n : Nat) (w : World) (h0 : 0 < n) (hn : n ≤ 1073741824) :
    Calls Tryz.prog 105 #[.slice none 0 0, .int .i64 n] w fun e w' => ∃ ans, n ≤ capN n ans ∧ capN n ans ≤ maxLen ∧ e = .returned (.slice (some ⟨w.heap.size, 0, none⟩) 0 (capN n ans)) ∧ w'.heap[w.heap.size]? = some (.cells (zerV (capN n ans)).toArray 5 (0, 0)) ∧ Below w.heap.size w w' := by
  obtain ⟨i0, hi, hz0, hz1, hz2⟩ := info_parts infoByte
  have h1 : ¬ ((n : Int) < 0) := by omega
  have h4 : (n : Int) > 0 := by omega
  have hrz := fun ty => Lib.run_append_nil_zeros (P := Tryz.prog) w 22 3 ty 5 i0 (.int .u8 0) .i64 .i64 Tryz.underlying22 Tryz.underlying3 hi hz0 n h0 (by omega) (by omega) (by rw [hz2]; omega)
  have hge := grownCap_ge w n 0 5
  have hcm := grownCap_le_maxLen w n 0 5 (by unfold maxLen; omega)
  obtain ⟨ans, hans⟩ : ∃ ans, grownCap w n 0 5 = capN n ans := ⟨_, rfl⟩
  rw [hans] at hge hcm
  simp only [hans] at hrz
  have hrow : (w.drew.alloc (.cells (Builtin.zeroCells (Value.cells (.int .u8 0)) n ++ Builtin.zeroCells (Value.cells (.int .u8 0)) (capN n ans - n)) 5)).heap[w.heap.size]? = some (.cells (zerV (capN n ans)).toArray 5 (0, 0)) := by
    have e : Builtin.zeroCells (Value.cells (.int .u8 0)) n ++ Builtin.zeroCells (Value.cells (.int .u8 0)) (capN n ans - n) = (zerV (capN n ans)).toArray := by
      rw [zerA, zerA, List.append_toArray]
      unfold zerV
      rw [List.replicate_append_replicate, Nat.add_sub_cancel' hge]
    rw [e]
    show (w.heap.push _)[w.heap.size]? = _
    simp
  have hbel : Below w.heap.size w (w.drew.alloc (.cells (Builtin.zeroCells (Value.cells (.int .u8 0)) n ++ Builtin.zeroCells (Value.cells (.int .u8 0)) (capN n ans - n)) 5)) := (Below.refl _ _).drew.alloc (by simp) _
  generalize w.drew.alloc (.cells (Builtin.zeroCells (Value.cells (.int .u8 0)) n ++ Builtin.zeroCells (Value.cells (.int .u8 0)) (capN n ans - n)) 5) = w1 at hrz hrow hbel
  have fin : Hid (∃ ans', n ≤ capN n ans' ∧ capN n ans' ≤ maxLen ∧ capN n ans = capN n ans' ∧ w1.heap[w.heap.size]? = some (.cells (zerV (capN n ans')).toArray 5 (0, 0))) := ⟨ans, hge, hcm, rfl, hrow⟩
  generalize capN n ans = G at hrz hge hcm fin
  unfold maxLen at hcm
  clear hans hrow
  go_enter Tryz.func105, Tryz.ntmps105
  go_wp2_with (at_builtin; refine Lib.wpList_append_run _ rfl _ _ _ _ rfl _ _ rfl rfl _ _ (hrz _) ?_)
  all_goals
    go_ret
    obtain ⟨ans', a1, a2, a3, a4⟩ := fin.out
    subst a3
    exact ⟨ans', a1, a2, rfl, a4, hbel⟩
theorem list_room {P : Program} {i : TypeInfo} {g n m c cq k lo : Nat} {wr w0 : World} {p : Option Addr} {xs ys : List Int} {ops : Array Oper} {rest : List Oper} {o : Oper} {a : Act} {Q : Exit → Act → World → Prop} (hi : P.info? 5 = some i) (hsize : i.size = 1) (s y : Operand) (t : TypeId) (ht : P.underlying t = some (.slice 5))
    (hg : wr.heap[g]? = some (.cells (xs.map (Value.int .u8) ++ zerV k).toArray 5 (0, 0))) (hx : xs.length = n) (hk : n + k = cq) (hin : BytesIn wr p m ys) (hl : ys.length = m) (hroom : m ≤ k) (hb : Below lo w0 wr) (hlo : lo ≤ g)
    (hgd : o.guard = none) (ho : o.op = .call { callee := .builtin .append, args := #[s, y], argTypes := #[t, t] }) (hs : a.eval s = .slice (some ⟨g, 0, none⟩) n cq) (hy : a.eval y = .slice p m c)
    (h : ∀ w', w'.heap[g]? = some (.cells ((xs ++ ys).map (Value.int .u8) ++ zerV (k - m)).toArray 5 (0, 0)) → Below lo w0 w' → wpList P ops Q rest (a.put o.dst (.slice (some ⟨g, 0, none⟩) (n + m) cq)) w') : wpList P ops Q (o :: rest) a wr := by
  rcases Nat.eq_zero_or_pos m with h0 | h0
  · subst h0
    obtain rfl : ys = [] := List.eq_nil_of_length_eq_zero hl
    simp only [List.append_nil, Nat.add_zero, Nat.sub_zero] at h
    exact Lib.wpList_append_run wr hgd s y t t ho _ _ hs hy _ _ (append_empty wr t o.type 5 i ht hi (some ⟨g, 0, none⟩) n cq p c (by omega)) (h _ hg hb)
  · obtain ⟨b, of, rfl, hc⟩ := hin h0
    have hcs : ((xs.map (Value.int .u8) ++ zerV k).toArray).size = cq := by simp [zerV, hx, hk]
    have hrun := run_append_row (P := P) (w := wr) (ty := o.type) (c := c) (n := n) (m := m) (ad := ⟨b, of, none⟩) (news := ys.map (Value.int .u8)) ht hi hsize hg hcs (by simp [hl]) (fun j u hu => by
      rw [List.getElem?_map] at hu
      obtain ⟨v, hv, rfl⟩ := Option.map_eq_some_iff.1 hu
      have hj := (List.getElem?_eq_some_iff.1 hv).1
      rw [Addr.add_lit, hc j (by omega), List.getD_eq_getElem?_getD, hv]
      rfl) (fun u hu => by obtain ⟨v, _, rfl⟩ := List.mem_map.1 hu; rfl) (by omega)
    have e : ((xs.map (Value.int .u8) ++ zerV k).toArray.toList.take n ++ ys.map (Value.int .u8) ++ (xs.map (Value.int .u8) ++ zerV k).toArray.toList.drop (n + (ys.map (Value.int .u8)).length)) = (xs ++ ys).map (Value.int .u8) ++ zerV (k - m) := by
      have hxl : (xs.map (Value.int .u8)).length = n := by simpa using hx
      have hyl : (ys.map (Value.int .u8)).length = m := by simpa using hl
      show (xs.map (Value.int .u8) ++ zerV k).take n ++ ys.map (Value.int .u8) ++ (xs.map (Value.int .u8) ++ zerV k).drop (n + (ys.map (Value.int .u8)).length) = _
      rw [hyl, ← hxl, List.take_left, ← List.drop_drop, List.drop_left, List.map_append, zerV, List.drop_replicate]
      rfl
    rw [e] at hrun
    exact Lib.wpList_append_run wr hgd s y t t ho _ _ hs hy _ _ hrun (h _ (setRow_heap _ _ _ _ _ _ hg) (below_setRow hb hlo _))
theorem catL_length {nf : Nat → Nat} {xf : Nat → List Int} {m : Nat} (h : ∀ k, k < m → (xf k).length = nf k) : ∀ k, k ≤ m → (catL xf k).length = sumN nf k
  | 0, _ => rfl
  | k + 1, hk => by rw [catL, sumN, List.length_append, catL_length h k (by omega), h k (by omega)]
set_option maxHeartbeats 4000000 in
theorem concat_cap (gr m : Nat) (Pf : Nat → Option Addr) (nf cf : Nat → Nat) (xf : Nat → List Int) (w : World) (hm : m ≤ 1000) (hcell : ∀ k, k < m → w.cell? ⟨gr, k, none⟩ = some (.slice (Pf k) (nf k) (cf k)))
    (hlen : ∀ k, k < m → (xf k).length = nf k) (hin : ∀ k, k < m → BytesIn w (Pf k) (nf k) (xf k)) (h0 : 0 < sumN nf m) (hs : sumN nf m ≤ 1073741824) :
    Calls Tryz.prog 68 #[.slice (some ⟨gr, 0, none⟩) m m] w fun e w' => ∃ ans, e = .returned (.slice (some ⟨w.heap.size, 0, none⟩) (sumN nf m) (capN (sumN nf m) ans)) ∧ sumN nf m ≤ capN (sumN nf m) ans ∧ w'.heap[w.heap.size]? = some (.cells ((catL xf m).map (Value.int .u8) ++ zerV (capN (sumN nf m) ans - sumN nf m)).toArray 5 (0, 0)) ∧ Below w.heap.size w w' := by
  obtain ⟨i0, hi, hz0, hz1, hz2⟩ := info_parts infoByte
  have HC : Hid (∀ k, k < m → w.cell? ⟨gr, k, none⟩ = some (.slice (Pf k) (nf k) (cf k))) := hcell
  have HL : Hid (∀ k, k < m → (xf k).length = nf k) := hlen
  have HI : Hid (∀ k, k < m → BytesIn w (Pf k) (nf k) (xf k)) := hin
  clear hcell hlen hin
  go_enter Tryz.func68, Tryz.ntmps68
  go_wp2
  go_loop [3, 11] (fun v i => ∃ k s : Nat, k ≤ m ∧ i = .int .i64 k ∧ v = .int .i64 s ∧ Hid (s = sumN nf k)) (fun _ i => m - (intOf i).toNat)
  case atStart => exact ⟨0, 0, by omega, rfl, rfl, rfl⟩
  case round =>
    obtain ⟨k, s, hk, rfl, rfl, hsk⟩ := hrel
    by_cases hlt : k < m
    · have hc := HC.out k hlt
      have hle : s + nf k ≤ 1073741824 := by rw [hsk.out]; exact Nat.le_trans (sumN_le nf (k := k + 1) hlt) hs
      have HN : Hid (s + nf k = sumN nf (k + 1)) := by rw [hsk.out]; rfl
      generalize nf k = n1 at hc hle HN
      generalize Pf k = p1 at hc
      generalize cf k = c1 at hc
      have hneg : ¬ ((s : Int) + (n1 : Int) < 0) := by omega
      go_wp2
      go_round
      case rel => exact ⟨k + 1, s + n1, by omega, by go_num, by go_num, HN⟩
      case measure => simp [intOf]; omega
    · obtain rfl : k = m := by omega
      obtain rfl : s = sumN nf k := hsk.out
      clear hsk
      have HS : Hid (sumN nf k = sumN nf k) := rfl
      generalize hN : sumN nf k = N at h0 hs HS ⊢
      clear HS
      have HNn : Hid (sumN nf k = N) := hN
      clear hN
      have hneg : ¬ ((N : Int) < 0) := by omega
      go_wp2_with (fail)
      refine (growNil_cap N _ h0 hs).mono ?_
      rintro e w1 ⟨ans, hge, hcm, rfl, ho1, b1⟩
      have HP : Hid (∀ v : World, v.heap[w.heap.size]? = some (.cells ((catL xf k).map (Value.int .u8) ++ zerV (capN N ans - N)).toArray 5 (0, 0)) → Below w.heap.size w v → ∃ ans', capN N ans = capN N ans' ∧ N ≤ capN N ans' ∧ v.heap[w.heap.size]? = some (.cells ((catL xf k).map (Value.int .u8) ++ zerV (capN N ans' - N)).toArray 5 (0, 0)) ∧ Below w.heap.size w v) := fun v h1 h2 => ⟨ans, rfl, hge, h1, h2⟩
      generalize capN N ans = CP at hge hcm ho1 HP ⊢
      unfold maxLen at hcm
      go_wp2_with (fail)
      go_loopw [6, 27] (fun v i wr => ∃ j s z : Nat, j ≤ k ∧ i = .int .i64 j ∧ Hid (s = sumN nf j) ∧ s + z = CP ∧ v = .slice (some ⟨w.heap.size, 0, none⟩) s CP ∧ wr.heap[w.heap.size]? = some (.cells ((catL xf j).map (Value.int .u8) ++ zerV z).toArray 5 (0, 0)) ∧ Below w.heap.size w wr)
        (fun _ i _ => k - (intOf i).toNat)
      case atStart => exact ⟨0, 0, CP, by omega, rfl, rfl, by omega, rfl, ho1, b1⟩
      case round =>
        clear ho1 b1
        obtain ⟨j, s, z, hj, rfl, hsj, hsz', rfl, hown, hbel⟩ := hrel
        have hsz := hbel.size
        by_cases hlt2 : j < k
        · have hc := HC.out j hlt2
          have hgr : gr < w.heap.size := World.block_lt_of_cell? w ⟨gr, j, none⟩ hc
          have hc2 := (hbel.cell (p := ⟨gr, j, none⟩) hgr).trans hc
          have hle : s + nf j ≤ N := by rw [hsj.out, ← HNn.out]; exact sumN_le nf (k := j + 1) hlt2
          have HN : Hid (s + nf j = sumN nf (j + 1)) := by rw [hsj.out]; rfl
          have hl := HL.out j hlt2
          have hI := HI.out j hlt2
          replace hI : BytesIn wr (Pf j) (nf j) (xf j) := by
            intro hpos
            obtain ⟨bb, oo, e1, e2⟩ := hI hpos
            exact ⟨bb, oo, e1, fun i hi => (hbel.cell (p := ⟨bb, oo + i, none⟩) (World.block_lt_of_cell? w ⟨bb, oo + i, none⟩ (e2 i hi))).trans (e2 i hi)⟩
          have HX : Hid (catL xf j ++ xf j = catL xf (j + 1)) := rfl
          generalize nf j = n1 at hc hc2 hle HN hl hI
          generalize Pf j = p1 at hc hc2 hI
          generalize cf j = c1 at hc hc2
          generalize xf j = y1 at hl hI HX
          have hcl : (catL xf j).length = s := by rw [hsj.out]; exact catL_length HL.out j (by omega)
          clear hc
          go_wp2_with (at_builtin; refine list_room hi hz1 (.tmp 31) (.tmp 32) 22 Tryz.underlying22 hown hcl hsz' hI hl (by omega) hbel (Nat.le_refl _) (by rfl) (by rfl) (by rfl) (by rfl) ?_; intro w3 ho3 hb3; rw [HX.out] at ho3)
          go_roundw
          case rel => exact ⟨j + 1, s + n1, z - n1, by omega, by go_num, HN, by omega, rfl, ho3, hb3⟩
          case measure => simp [intOf]; omega
        · obtain rfl : j = k := by omega
          obtain rfl : s = N := hsj.out.trans HNn.out
          obtain rfl : z = CP - s := by omega
          go_wp2
          go_ret
          rw [HNn.out]
          obtain ⟨ans', a1, a2, a3, a4⟩ := HP.out _ hown hbel
          subst a1
          exact ⟨ans', rfl, a2, a3, a4⟩
end Go.Proofs.YtnpffnhiefgglaaGreatDoor
namespace Go.Proofs.YtnpffnhiefgglaaGreatDoor
open Go Go.Conc
set_option maxRecDepth 100000
theorem tameA_one {P : Program} {Al : Als} {f : Nat} {fn : Func} (h : P.funcs[f]? = some fn) (hc : (match fn.body with | some b => okCodeT P Al (Al.f f) b | none => false) = true) (hn : (fn.name == "runtime.NumGoroutine") = false) (hl : ∀ t, 200 ≤ t → Al.f f t = false) : ∃ fn body, P.funcs[f]? = some fn ∧ (fn.name == "runtime.NumGoroutine") = false ∧ fn.body = some body ∧ (Al.b f = false → okCodeT P Al (Al.f f) body = true) ∧ ∀ t, 200 ≤ t → Al.f f t = false := by
  cases hb : fn.body with
  | none => rw [hb] at hc; cases hc
  | some b =>
    rw [hb] at hc
    exact ⟨fn, b, h, hn, hb, fun _ => hc, hl⟩
theorem tameA_base {P : Program} {Al : Als} {f : Nat} {fn : Func} (h : P.funcs[f]? = some fn) (hc : fn.body.isSome = true) (hb : Al.b f = true) (hn : (fn.name == "runtime.NumGoroutine") = false) (hl : ∀ t, 200 ≤ t → Al.f f t = false) : ∃ fn body, P.funcs[f]? = some fn ∧ (fn.name == "runtime.NumGoroutine") = false ∧ fn.body = some body ∧ (Al.b f = false → okCodeT P Al (Al.f f) body = true) ∧ ∀ t, 200 ≤ t → Al.f f t = false := by
  obtain ⟨b, hb'⟩ := Option.isSome_iff_exists.1 hc
  exact ⟨fn, b, h, hn, hb', fun h' => absurd (hb.symm.trans h') (by decide), hl⟩
theorem step_none {P : Program} {G : Nat} (h : (P.funcs.all fun f => (f.body.map readies).all (fun l => l.all (decide <| · < G))) = true) {g : Nat} (hg : G ≤ g) : P.stepOf g = none := by
  unfold Program.stepOf
  rw [Array.findIdx?_eq_none_iff]
  intro f hf
  have h1 := (Array.all_eq_true'.1 h) f hf
  cases hb : f.body.map readies with
  | none => rfl
  | some l =>
    rw [hb] at h1
    simp only [Option.all_some, List.all_eq_true, decide_eq_true_eq] at h1
    simp only [Option.any_some]
    refine Bool.eq_false_iff.2 fun hc => ?_
    have := h1 g (List.contains_iff_mem.1 hc)
    omega
theorem hush_makeNoZero {P : Program} (ps ts : Array TypeId) (x : Array Value) : Calm P (Extern.BytealgMakeNoZero.makeNoZero ps ts x) := by
  obtain ⟨l⟩ := x
  match l with
  | [] => exact rfl
  | _ :: _ :: _ => exact rfl
  | [a] =>
    cases a with
    | int k n =>
      cases k with
      | i64 =>
        show Calm P (do
          let some t := ts[0]? | stuck "bytealg.MakeNoZero: no result type"
          let .slice elem ← underlying t | stuck "bytealg.MakeNoZero: slice type expected"
          if n < 0 || n > 2 ^ 48 then runtimePanic (.error "makeslice: len out of range")
          let cap ← choose (.appendCap n.toNat 0 elem)
          askRoom cap
          let bytes ← choose (.extern "internal/bytealg.MakeNoZero.bytes" 0)
          let a ← newRow elem (Extern.BytealgMakeNoZero.digits cap bytes #[])
          pure (.slice (some a) n.toNat cap) : Sem Value)
        cases ts[0]? with
        | none => exact rfl
        | some t =>
          dsimp only
          repeat (first | exact trivial | rfl | assumption | exact hush_underlying _ | exact hush_boom _ _ | exact hush_choose _ | exact hush_askRoom _ | exact hush_newRow _ _ | exact hush_stuck _ | exact hush_panic _ | exact fun _ => trivial | exact ⟨trivial, trivial⟩ | (refine hush_prog ?_) | (refine Hush.bd ?_ fun _ => ?_) | (refine Hush.mp ?_ fun _ => ?_) | (refine hush_ite ?_ ?_) | (intro _) | split | (dsimp only))
      | _ => exact rfl
    | _ => exact rfl
theorem hush_bits3 {P : Program} (n : String) (args : Array Value) : Calm P (Extern.MathBitsCarry.three n args) := by
  obtain ⟨l⟩ := args
  match l with
  | [] => exact rfl
  | [_] => exact rfl
  | [_, _] => exact rfl
  | _ :: _ :: _ :: _ :: _ => exact rfl
  | [x, y, c] =>
    show Calm P (do
      let c := (← asInt c).toNat
      if c > 1 then unsupported (.noEntry ("extern/math/bits." ++ n ++ ": a carry that is neither 0 nor 1"))
      pure ((← asInt x).toNat, (← asInt y).toNat, c) : Sem (Nat × Nat × Nat))
    refine Hush.bd (hush_asInt _) fun c => ?_
    dsimp only
    refine hush_ite (Hush.bind (Q := fun _ => False) (show Hush P _ (unsupported _) from rfl) fun _ h => h.elim) ?_
    repeat (first | exact trivial | rfl | assumption | exact hush_asInt _ | exact hush_stuck _ | exact hush_panic _ | exact fun _ => trivial | exact ⟨trivial, trivial⟩ | (refine hush_prog ?_) | (refine Hush.bd ?_ fun _ => ?_) | (refine Hush.mp ?_ fun _ => ?_) | (refine hush_ite ?_ ?_) | (intro _) | split | (dsimp only))
theorem hush_add64 {P : Program} (args : Array Value) : Calm P (do let (x, y, c) ← Extern.MathBitsCarry.three "Add64" args; pure (Extern.MathBitsCarry.pair ((x + y + c) % Extern.MathBitsCarry.m64) ((x + y + c) / Extern.MathBitsCarry.m64))) := Hush.bd (hush_bits3 _ _) fun _ => trivial
theorem ext_one {P : Program} {Al : Als} {f : Nat} {fn : Func} {e : Array Value → Sem Value} (h : P.funcs[f]? = some fn) (hn : (fn.name == "runtime.NumGoroutine") = false) (hb : fn.body.isNone = true) (h1 : Extern.findNext fn = none) (h2 : Extern.find fn = some e) (he : ∀ x, Calm P (e x)) (args : Array Value) : Hush P (OkNext Al) (callFunc f args) := by
  unfold callFunc
  refine hush_prog ?_
  rw [h]
  dsimp only
  rw [hn, hb]
  refine Hush.bd (show Calm P (mark (.extern f)) from ⟨trivial, trivial⟩) fun _ => ?_
  rw [h1, h2]
  exact hush_value (he args)
end Go.Proofs.YtnpffnhiefgglaaGreatDoor
