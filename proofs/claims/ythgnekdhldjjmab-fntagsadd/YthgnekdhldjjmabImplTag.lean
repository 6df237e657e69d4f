/-
  What the program's Tag answers at whatever bytes: as the specification's does. Condition: bytes all.
-/
import Derived.Test.YthgnekdhldjjmabImplTagF
import Derived.Laws.Cover3
namespace Go.Proofs.Ythgnekdhldjjmab
open Go.RowKit

theorem keyD_take (ks : List Int) : keyD (ks.take 16) = keyD ks := by
  funext i
  unfold keyD
  by_cases h : 16 ≤ i
  · rw [if_pos h, if_pos h]
  · have e : byN (ks.take 16) i = byN ks i := by simp [byN, show i < 16 by omega]
    rw [if_neg h, if_neg h, e]
theorem key_small {ks : List Int} (hb : ∀ x ∈ ks, 0 ≤ x ∧ x < 256) : valN (keyD ks) 17 < 67108864 ^ 5 := by
  have h : valN (keyD ks) 16 < 256 ^ 16 := valN_lt fun i _ => keyD_lt hb i
  have e : valN (keyD ks) 17 = valN (keyD ks) 16 + keyD ks 16 * 256 ^ 16 := rfl
  rw [e, show keyD ks 16 = 0 from rfl, Nat.zero_mul, Nat.add_zero]
  exact Nat.lt_trans h (by decide)
theorem num_last (xs : List Int) (l : Nat) (hl : l ≤ 16) : valN (numD xs l 1) 17 = valN (byN xs) l + 1 * 256 ^ l := by
  have e := valN_split (numD xs l 1) (l + 1) (16 - l)
  rw [show l + 1 + (16 - l) = 17 by omega] at e
  rw [e, valN_congr (f := fun i => numD xs l 1 (l + 1 + i)) (g := fun _ => 0) (fun i _ => by unfold numD; rw [if_neg (by omega), if_neg (by omega)]), valN_zero, Nat.mul_zero, Nat.add_zero, valN, valN_congr (g := byN xs) (fun i hi => by unfold numD; rw [if_pos hi])]
  congr 1
  unfold numD
  rw [if_neg (by omega), if_pos rfl]
theorem num_half (xs : List Int) : valN (numD xs 16 0) 17 = valN (byN xs) 16 := by
  have e : valN (numD xs 16 0) 17 = valN (numD xs 16 0) 16 + numD xs 16 0 16 * 256 ^ 16 := rfl
  rw [e, show numD xs 16 0 16 = 0 from rfl, Nat.zero_mul, Nat.add_zero]
  exact valN_congr fun i hi => by unfold numD; rw [if_pos hi]
def lenS : Value → Nat
  | .slice _ n _ => n
  | _ => 0
/-- A slice of bytes without its first l. -/
theorem slice_from (b j m cc l : Nat) (h0 : 0 < l) (h : l ≤ m) (hc : m ≤ cc) : ∃ q', Hid (l < m → q' = some ⟨b, j + l, none⟩) ∧ ∀ W, (Instr.slice 22 (.slice (some ⟨b, j, none⟩) m cc) (some (.int .i64 (l : Int))) none none).run Try.prog W = .ok (.slice q' (m - l) (cc - l)) W := by
  refine ⟨if cc = l then some ⟨b, j, none⟩ else some ⟨b, j + l, none⟩, fun h64 => if_neg (by omega), fun W => ?_⟩
  have ht' : Try.prog.underlying 22 = some (.slice (Try.prog.elem 22)) := by simp [Program.elem, Try.underlying22]
  have he : Try.prog.elem 22 = 5 := by simp [Program.elem, Try.underlying22]
  obtain ⟨i0, hi, hz0, hz1, hz2⟩ := info_parts infoByte
  rw [run_slice_l W 22 _ _ _ ht' .i64 l (by omega) (by omega), he]
  simp [sizeOf, typeInfo, hi, hz1, sliced, Addr.add, show l ≠ 0 by omega]

set_option maxRecDepth 100000 in
set_option maxHeartbeats 2400000 in
theorem implTag_no (p q : Option Addr) (n m c d : Nat) (w : World) (hno : ¬ tagOk n m) :
    Calls Try.prog 7 #[.slice p n c, .slice q m d] w fun e w' => ∃ p' c', e = .returned (.slice p' 0 c') ∧ Own 5 w' w.heap.size w'.heap.size (.slice p' 0 c') 0 [] ∧ Below w.heap.size w w' := by
  have hown0 : w.ownsRow w.heap.size 5 1 (.slice none 0 0) 0 (([] : List Int).map (Value.int .u8)) := ⟨rfl, .inl ⟨rfl, rfl⟩⟩
  unfold tagOk at hno
  by_cases t0 : n = 32
  · subst t0
    have h1 : (4000 : Int) < (m : Int) := by omega
    clear hno
    go_enter Try.func7, Try.ntmps7
    go_wp2_with (fail)
    go_ret
    exact ⟨_, _, rfl, .of hown0, Below.refl _ _⟩
  · have z0 : ((n : Int) != 32) = true := by simp; omega
    clear hno
    go_enter Try.func7, Try.ntmps7
    go_wp2_with (fail)
    go_ret
    exact ⟨_, _, rfl, .of hown0, Below.refl _ _⟩

set_option maxRecDepth 100000 in
set_option maxHeartbeats 4000000 in
theorem implTag_yes (p q : Option Addr) (m c d : Nat) (ks bs : List Int) (w : World) (hc : 32 ≤ c) (hd : m ≤ d) (hm : m ≤ 4000) (hx : ks.length = 32) (hy : bs.length = m) (h : BytesIn w p 32 ks) (h' : BytesIn w q m bs) (hb1 : ∀ x ∈ ks, 0 ≤ x ∧ x < 256) (hb2 : ∀ x ∈ bs, 0 ≤ x ∧ x < 256) :
    Calls Try.prog 7 #[.slice p 32 c, .slice q m d] w fun e w' => ∃ p' c', e = .returned (.slice p' 16 c') ∧ Own 5 w' w.heap.size w'.heap.size (.slice p' 16 c') 16 (tagB ks bs m) ∧ Below w.heap.size w w' := by
  obtain ⟨bk, ok, rfl, hck⟩ := h (by decide)
  have hbk : bk < w.heap.size := World.block_lt_of_cell? w ⟨bk, ok + 0, none⟩ (hck 0 (by decide))
  obtain ⟨b2, o2, hq2, hlt2⟩ : ∃ b2 o2, Hid (0 < m → q = some ⟨b2, o2, none⟩ ∧ ∀ i, i < m → w.cell? ⟨b2, o2 + i, none⟩ = some (.int .u8 (bs.getD i 0))) ∧ (0 < m → b2 < w.heap.size) := by
    rcases Nat.eq_zero_or_pos m with h0 | h0
    · exact ⟨0, 0, fun k => by omega, fun k => by omega⟩
    · obtain ⟨b, o, rfl, hcc⟩ := h' h0
      exact ⟨b, o, fun _ => ⟨rfl, hcc⟩, fun _ => World.block_lt_of_cell? w ⟨b, o + 0, none⟩ (hcc 0 h0)⟩
  have hB : (ks.take 16).length = 16 := by simp [hx]
  have hBb : ∀ x ∈ ks.take 16, 0 ≤ x ∧ x < 256 := fun x hx => hb1 x (List.mem_of_mem_take hx)
  have hra : w.rangeAt bk ok ((ks.take 16).map (Value.int .u8)) := fun i v hv => by
    have hi : i < 16 := by have := (List.getElem?_eq_some_iff.1 hv).1; simp at this; omega
    rw [hck i (by omega), ← hv]
    simp [hi, List.getElem?_eq_getElem (show i < ks.length by omega)]
  have hsz : (Try.prog.info? 35).map (·.size) = some ((ks.take 16).map (Value.int .u8)).length := by
    rw [List.length_map, hB]
    kernel_rfl
  have hat : ∀ w, (Instr.arrayAt 35 (.slice (some ⟨bk, ok, none⟩) 32 c)).run Try.prog w = .ok (.pointer (some ⟨bk, ok, none⟩)) w := fun w => run_arrayAt w 35 _ 16 _ 32 c Try.underlying35 (by omega)
  have CF := tagFactor_any (ks.take 16) w hB hBb
  rw [keyD_take] at CF
  have hkey := key_small hb1
  have HK : Hid (∀ X, Below w.heap.size w X → BytesIn X (some ⟨bk, ok + 16, none⟩) 16 (ks.drop 16)) := fun X hX => by
    intro _
    refine ⟨bk, ok + 16, rfl, fun i hi => ?_⟩
    rw [hX.cell (p := ⟨bk, ok + 16 + i, none⟩) hbk, Nat.add_assoc, hck (16 + i) (by omega)]
    simp
  have HQ : Hid (∀ X, Below w.heap.size w X → ∀ j, j < m → BytesIn X (some ⟨b2, o2 + j, none⟩) (m - j) (bs.drop j)) := fun X hX j hj => by
    intro _
    refine ⟨b2, o2 + j, rfl, fun i hi => ?_⟩
    rw [hX.cell (p := ⟨b2, o2 + j + i, none⟩) (hlt2 (by omega)), Nat.add_assoc, (hq2.out (by omega)).2 (j + i) (by omega)]
    simp
  have hq0 : Hid (0 < m → q = some ⟨b2, o2, none⟩) := fun hp => (hq2.out hp).1
  have hpoly : ∀ k, polyN bs m (keyD ks) (k + 1) = ((polyN bs m (keyD ks) k + valN (chunkD bs m k) 17) * valN (keyD ks) 17) % tagP := fun k => rfl
  have hpl := polyN_lt bs m (keyD ks) (tagK m)
  have htag : tagB ks bs m = bytesV (polyN bs m (keyD ks) (tagK m) + valN (byN (ks.drop 16)) 16) := by rw [← num_half]; rfl
  have hp0 : polyN bs m (keyD ks) 0 = 0 := rfl
  rw [htag]
  generalize hAA : ((ks.take 16).map (Value.int .u8)) = AA at CF hra hsz
  clear hAA htag
  generalize polyN bs m (keyD ks) = PN at hpoly hpl hp0 ⊢
  generalize hKV : valN (keyD ks) 17 = KV at hkey hpoly CF
  have hKb := fun x (hx : x ∈ ks.drop 16) => hb1 x (List.mem_of_mem_drop hx)
  clear hKV hBb hB h h' hck hq2
  go_enter Try.func7, Try.ntmps7
  go_wp2_with (refine wpList_load_mid rfl 35 _ rfl bk ok rfl AA _ hra Try.underlying35 rfl hsz ?_)
  refine CF.mono ?_
  rintro e w1 ⟨gr, rfl, n1, bel1⟩
  clear CF hra hsz hat
  have hgr := n1.lt
  obtain ⟨w2, hw2⟩ : ∃ w2, w2 = w1.alloc (.cells #[.int .u64 0, .int .u64 0, .int .u64 0, .int .u64 0, .int .u64 0] 38) := ⟨_, rfl⟩
  have b2' : Below w1.heap.size w1 w2 := by rw [hw2]; exact (Below.refl _ _).alloc (Nat.le_refl _) _
  have hn2 : NumIs w2 w1.heap.size w1.heap.size zero5 := by rw [hw2]; exact NumIs.made w1 0 0 0 0 0
  have nr2 := n1.below b2'
  have bel2 := below_on bel1 b2'
  have hgs := bel1.size
  have hz5 : zero5 = digL 0 := by decide
  rw [hz5] at hn2
  have hns := hn2.mono bel1.size
  have hnegr : gr ≠ w1.heap.size := by omega
  obtain ⟨gs, hgs'⟩ : ∃ gs, gs = w1.heap.size := ⟨_, rfl⟩
  go_wp2_with (fail)
  rw [← hw2]
  rw [← hgs'] at hns hnegr hgs ⊢
  clear hw2 b2' n1 hn2 hz5 hgs' bel1 hgr
  go_loopw [7] (fun v wr => ∃ (k j : Nat) (q' : Option Addr) (cc V : Nat), Hid (k ≤ tagK m ∧ j = min (16 * k) m) ∧ v = .slice q' (m - j) cc ∧ m - j ≤ cc ∧ Hid (0 < m - j → q' = some ⟨b2, o2 + j, none⟩) ∧ NumIs wr w.heap.size gs (digL V) ∧ Hid (V < 67108864 ^ 5 ∧ alike V (PN k)) ∧ NumIs wr w.heap.size gr (digL KV) ∧ Below w.heap.size w wr)
    (fun v _ => lenS v)
  case atStart => exact ⟨0, 0, q, d, 0, ⟨Nat.zero_le _, by omega⟩, rfl, by omega, fun k => hq0.out (by omega), hns, ⟨by decide, by rw [hp0]; rfl⟩, nr2, bel2⟩
  case round =>
    clear hns nr2 bel2 hq0
    obtain ⟨k, j, q', cc, V, hkj, rfl, hcc, hq', hn, hV, hr, bel⟩ := hrel
    by_cases hlt : j < m
    · obtain ⟨hk1, hj1⟩ := hkj.out
      have hj : j = 16 * k := by omega
      obtain rfl := hq'.out (by omega)
      obtain ⟨n, hn'⟩ : ∃ n, n = m - j := ⟨_, rfl⟩
      have hin := HQ.out wr bel j hlt
      rw [← hn'] at hin hcc ⊢
      by_cases h16 : 16 ≤ n
      -- arms
      · have h16' : (16 : Int) ≤ (n : Int) := by omega
        have hl0 : 0 < 16 := by omega
        have hl16 : 16 ≤ 16 := by omega
        have hln : 16 ≤ n := by omega
        have hchunk : Hid (valN (chunkD bs m k) 17 = valN (byN (bs.drop j)) 16 + 1 * 256 ^ 16) := by
          rw [Hid, hj, ← num_last _ _ hl16, chunkD, chunkN, show min 16 (m - 16 * k) = 16 by omega]
        have hbd : ∀ x ∈ bs.drop j, 0 ≤ x ∧ x < 256 := fun x hx => hb2 x (List.mem_of_mem_drop hx)
        have hinl : BytesIn wr (some ⟨b2, o2 + j, none⟩) 16 (bs.drop j) := fun _ => by
          obtain ⟨b, o, hbo, hcell⟩ := hin (by omega)
          exact ⟨b, o, hbo, fun i hi => hcell i (by omega)⟩
        have hb2lt := hlt2 (by omega)
        have CP := put_any w.heap.size gs (digL V) (some ⟨b2, o2 + j, none⟩) 16 cc (bs.drop j) wr ((digL_less V).mono (by decide)) hl16 hbd hinl (fun a ha => by cases ha; show b2 ≠ gs; omega) hn
        have hL1 : lessP 4611686018427387904 (putsP (digL V) (byN (bs.drop j)) 16) := (putsP_less (digL_less V) (byN_lt hbd) 16).mono (by omega)
        have hV1 := (putsP_val (byN (bs.drop j)) (digL_length V) 16 (by omega)).2
        rw [val5_digL, Nat.mod_eq_of_lt hV.out.1] at hV1
        generalize putsP (digL V) (byN (bs.drop j)) 16 = S1 at CP hL1 hV1
        have CB := fun X (hX : NumIs X w.heap.size gs S1) => putByte_any w.heap.size gs S1 1 16 X (hL1.mono (by decide)) (by decide) hl16 hX
        have hL2 : lessP 9223372036854775808 (putP S1 1 16) := (putP_less (p := 16) hL1 (by decide)).mono (by decide)
        have hV2 : Hid (val5 (putP S1 1 16) = V + valN (chunkD bs m k) 17) := by
          rw [Hid, putP_val 1 16 hL1.1 hl16, hV1, hchunk.out]
          omega
        generalize putP S1 1 16 = S2 at CB hL2 hV2
        obtain ⟨j2, hj2⟩ : ∃ j2, o2 + j = j2 := ⟨_, rfl⟩
        rw [hj2] at CP ⊢
        obtain ⟨q2, hq2, hsl⟩ := slice_from b2 j2 n cc 16 hl0 hln hcc
        replace hsl : ∀ W, (Instr.slice 22 (.slice (some ⟨b2, j2, none⟩) n cc) (some (.int .i64 16)) none none).run Try.prog W = .ok (.slice q2 (n - 16) (cc - 16)) W := hsl
        have hm0 : (0 : Int) < (n : Int) := by omega
        have hcc' : (n : Int) ≤ (cc : Int) := by omega
        have hpk : Hid (PN (k + 1) = (PN k + valN (chunkD bs m k) 17) * KV % tagP) := hpoly k
        have hkn : k < tagK m := by unfold tagK; omega
        clear hin hinl hbd hV1 hchunk hq' hpoly hL1 hn hln hl0 hl16 hcc
        replace hn' : Hid (n = m - j) := hn'
        replace hj2 : Hid (o2 + j = j2) := hj2
        replace hj : Hid (j = 16 * k) := hj
        replace hj1 : Hid (j = min (16 * k) m) := hj1
        go_wp2_with (fail)
        refine CP.mono ?_
        rintro e w3 ⟨rfl, n3, g3⟩
        have bel3 := bel.grown g3 bel.size (fun k hk => by cases hk; exact hgs)
        have nr3 := hr.kept g3 hnegr
        clear CP
        go_wp2_with (fail)
        refine (CB _ n3).mono ?_
        rintro e w4 ⟨rfl, n4, g4⟩
        have bel4 := bel3.grown g4 bel3.size (fun k hk => by cases hk; exact hgs)
        have nr4 := nr3.kept g4 hnegr
        have CG := goRound_any _ _ _ _ hL2 n4
        rw [hV2.out] at CG
        clear CB n3 g3 n4 g4 bel3 nr3
        go_wp2_with (fail)
        refine CG.mono ?_
        rintro e w5 ⟨rfl, ⟨V5, hV5, n5, ha5⟩, g5⟩
        have bel5 := bel4.grown g5 bel4.size (fun k hk => by cases hk; exact hgs)
        have nr5 := nr4.kept g5 hnegr
        have CT := times_any _ _ _ _ _ _ _ (digL_less V5) (digL_less KV) n5 nr5 hnegr
        rw [val5_digL, val5_digL, Nat.mod_eq_of_lt hV5, Nat.mod_eq_of_lt hkey] at CT
        clear CG n5 g5 bel4 nr4 hL2 hV2
        go_wp2_with (fail)
        refine CT.mono ?_
        rintro e w6 ⟨rfl, ⟨T, n6, hT, ha6⟩, g6⟩
        have bel6 := bel5.grown g6 bel5.size (fun k hk => by cases hk; exact hgs)
        have nr6 := nr5.kept g6 hnegr
        have CG := goRound_any _ _ _ _ (hT.mono (by decide)) n6
        clear CT n6 g6 bel5 nr5
        go_wp2_with (fail)
        refine CG.mono ?_
        rintro e w7 ⟨rfl, ⟨V7, hV7, n7, ha7⟩, g7⟩
        have bel7 := bel6.grown g7 bel6.size (fun k hk => by cases hk; exact hgs)
        have nr7 := nr6.kept g7 hnegr
        clear CG g7 bel6 nr6 hT
        have hal : alike V7 (PN (k + 1)) := by
          rw [hpk.out]
          exact ha7.trans (ha6.trans (((ha5.trans (hV.out.2.add (alike.refl _))).mul (alike.refl _)).trans (alike_mod _).symm))
        go_wp2
        go_roundw
        case rel =>
          have e1 := hn'.out
          have e2 := hj.out
          exact ⟨k + 1, j + 16, q2, cc - 16, V7, ⟨by omega, by omega⟩, by rw [show m - (j + 16) = n - 16 by omega], by omega, fun hp => by rw [← Nat.add_assoc, hj2.out]; exact hq2.out (by omega), n7, ⟨hV7, hal⟩, nr7, bel7⟩
        case measure => simp only [lenS]; omega
      · have h16' : ¬ (16 : Int) ≤ (n : Int) := by omega
        have h17' : (n : Int) < 16 := by omega
        have hl0 : 0 < n := by omega
        have hl16 : n ≤ 16 := by omega
        have hln : n ≤ n := by omega
        have hchunk : Hid (valN (chunkD bs m k) 17 = valN (byN (bs.drop j)) n + 1 * 256 ^ n) := by
          rw [Hid, hj, ← num_last _ _ hl16, chunkD, chunkN, show min 16 (m - 16 * k) = n by omega]
        have hbd : ∀ x ∈ bs.drop j, 0 ≤ x ∧ x < 256 := fun x hx => hb2 x (List.mem_of_mem_drop hx)
        have hinl : BytesIn wr (some ⟨b2, o2 + j, none⟩) n (bs.drop j) := fun _ => by
          obtain ⟨b, o, hbo, hcell⟩ := hin (by omega)
          exact ⟨b, o, hbo, fun i hi => hcell i (by omega)⟩
        have hb2lt := hlt2 (by omega)
        have CP := put_any w.heap.size gs (digL V) (some ⟨b2, o2 + j, none⟩) n cc (bs.drop j) wr ((digL_less V).mono (by decide)) hl16 hbd hinl (fun a ha => by cases ha; show b2 ≠ gs; omega) hn
        have hL1 : lessP 4611686018427387904 (putsP (digL V) (byN (bs.drop j)) n) := (putsP_less (digL_less V) (byN_lt hbd) n).mono (by omega)
        have hV1 := (putsP_val (byN (bs.drop j)) (digL_length V) n (by omega)).2
        rw [val5_digL, Nat.mod_eq_of_lt hV.out.1] at hV1
        generalize putsP (digL V) (byN (bs.drop j)) n = S1 at CP hL1 hV1
        have CB := fun X (hX : NumIs X w.heap.size gs S1) => putByte_any w.heap.size gs S1 1 n X (hL1.mono (by decide)) (by decide) hl16 hX
        have hL2 : lessP 9223372036854775808 (putP S1 1 n) := (putP_less (p := n) hL1 (by decide)).mono (by decide)
        have hV2 : Hid (val5 (putP S1 1 n) = V + valN (chunkD bs m k) 17) := by
          rw [Hid, putP_val 1 n hL1.1 hl16, hV1, hchunk.out]
          omega
        generalize putP S1 1 n = S2 at CB hL2 hV2
        obtain ⟨j2, hj2⟩ : ∃ j2, o2 + j = j2 := ⟨_, rfl⟩
        rw [hj2] at CP ⊢
        obtain ⟨q2, hq2, hsl⟩ := slice_from b2 j2 n cc n hl0 hln hcc
        have hm0 : (0 : Int) < (n : Int) := by omega
        have hcc' : (n : Int) ≤ (cc : Int) := by omega
        have hpk : Hid (PN (k + 1) = (PN k + valN (chunkD bs m k) 17) * KV % tagP) := hpoly k
        have hkn : k < tagK m := by unfold tagK; omega
        clear hin hinl hbd hV1 hchunk hq' hpoly hL1 hn hln hl0 hl16 hcc
        replace hn' : Hid (n = m - j) := hn'
        replace hj2 : Hid (o2 + j = j2) := hj2
        replace hj : Hid (j = 16 * k) := hj
        replace hj1 : Hid (j = min (16 * k) m) := hj1
        go_wp2_with (fail)
        refine CP.mono ?_
        rintro e w3 ⟨rfl, n3, g3⟩
        have bel3 := bel.grown g3 bel.size (fun k hk => by cases hk; exact hgs)
        have nr3 := hr.kept g3 hnegr
        clear CP
        go_wp2_with (fail)
        refine (CB _ n3).mono ?_
        rintro e w4 ⟨rfl, n4, g4⟩
        have bel4 := bel3.grown g4 bel3.size (fun k hk => by cases hk; exact hgs)
        have nr4 := nr3.kept g4 hnegr
        have CG := goRound_any _ _ _ _ hL2 n4
        rw [hV2.out] at CG
        clear CB n3 g3 n4 g4 bel3 nr3
        go_wp2_with (fail)
        refine CG.mono ?_
        rintro e w5 ⟨rfl, ⟨V5, hV5, n5, ha5⟩, g5⟩
        have bel5 := bel4.grown g5 bel4.size (fun k hk => by cases hk; exact hgs)
        have nr5 := nr4.kept g5 hnegr
        have CT := times_any _ _ _ _ _ _ _ (digL_less V5) (digL_less KV) n5 nr5 hnegr
        rw [val5_digL, val5_digL, Nat.mod_eq_of_lt hV5, Nat.mod_eq_of_lt hkey] at CT
        clear CG n5 g5 bel4 nr4 hL2 hV2
        go_wp2_with (fail)
        refine CT.mono ?_
        rintro e w6 ⟨rfl, ⟨T, n6, hT, ha6⟩, g6⟩
        have bel6 := bel5.grown g6 bel5.size (fun k hk => by cases hk; exact hgs)
        have nr6 := nr5.kept g6 hnegr
        have CG := goRound_any _ _ _ _ (hT.mono (by decide)) n6
        clear CT n6 g6 bel5 nr5
        go_wp2_with (fail)
        refine CG.mono ?_
        rintro e w7 ⟨rfl, ⟨V7, hV7, n7, ha7⟩, g7⟩
        have bel7 := bel6.grown g7 bel6.size (fun k hk => by cases hk; exact hgs)
        have nr7 := nr6.kept g7 hnegr
        clear CG g7 bel6 nr6 hT
        have hal : alike V7 (PN (k + 1)) := by
          rw [hpk.out]
          exact ha7.trans (ha6.trans (((ha5.trans (hV.out.2.add (alike.refl _))).mul (alike.refl _)).trans (alike_mod _).symm))
        go_wp2
        go_roundw
        case rel =>
          have e1 := hn'.out
          have e2 := hj.out
          exact ⟨k + 1, j + n, q2, cc - n, V7, ⟨by omega, by omega⟩, by rw [show m - (j + n) = 0 by omega], by omega, fun hp => by rw [← Nat.add_assoc, hj2.out]; exact hq2.out (by omega), n7, ⟨hV7, hal⟩, nr7, bel7⟩
        case measure => simp only [lenS]; omega
      -- arms' end
    · obtain ⟨hk1, hj1⟩ := hkj.out
      have hmj : m - j = 0 := by omega
      have hk : k = tagK m := by unfold tagK at hk1 ⊢; omega
      rw [hmj]
      have hV1 := hV.out.1
      have hal := hV.out.2
      rw [hk] at hal
      have CT := takeRest_any _ _ _ _ (digL_less V) hn
      rw [val5_digL, Nat.mod_eq_of_lt hV1, show V % tagP = PN (tagK m) from Eq.trans hal (Nat.mod_eq_of_lt hpl)] at CT
      obtain ⟨q3, hq3, hsl⟩ := slice_from bk ok 32 c 16 (by decide) (by decide) hc
      obtain rfl := hq3.out (by decide)
      replace hsl : ∀ W, (Instr.slice 22 (.slice (some ⟨bk, ok, none⟩) 32 c) (some (.int .i64 16)) none none).run Try.prog W = .ok (.slice (some ⟨bk, ok + 16, none⟩) 16 (c - 16)) W := hsl
      clear hV1 hal hV hk hmj hk1 hj1 hkj hq' hn hpoly hpl hcc
      go_wp2_with (fail)
      refine CT.mono ?_
      rintro e w3 ⟨rfl, ⟨T, n3, hT, hTv⟩, g3⟩
      have bel3 := bel.grown g3 bel.size (fun k hk => by cases hk; exact hgs)
      have CP := put_any w.heap.size gs T (some ⟨bk, ok + 16, none⟩) 16 (c - 16) (ks.drop 16) w3 (hT.mono (by decide)) (by decide) hKb (HK.out _ bel3) (fun a ha => by cases ha; show bk ≠ gs; omega) n3
      have hL1 : lessP 9223372036854775808 (putsP T (byN (ks.drop 16)) 16) := (putsP_less hT (byN_lt hKb) 16).mono (by decide)
      have hV1 := (putsP_val (byN (ks.drop 16)) hT.1 16 (by omega)).2
      rw [hTv] at hV1
      generalize putsP T (byN (ks.drop 16)) 16 = S1 at CP hL1 hV1
      obtain ⟨TV, hTV⟩ : ∃ TV, PN (tagK m) + valN (byN (ks.drop 16)) 16 = TV := ⟨_, rfl⟩
      rw [hTV] at hV1
      replace hTV : Hid (PN (tagK m) + valN (byN (ks.drop 16)) 16 = TV) := hTV
      clear CT g3 n3 hT hTv
      go_wp2_with (fail)
      refine CP.mono ?_
      rintro e w4 ⟨rfl, n4, g4⟩
      have bel4 := bel3.grown g4 bel3.size (fun k hk => by cases hk; exact hgs)
      have CA := carry_any _ _ _ _ hL1 n4
      rw [hV1] at CA
      clear CP g4 n4 hL1 hV1 hsl
      go_wp2_with (fail)
      refine CA.mono ?_
      rintro e w5 ⟨rfl, n5, g5⟩
      have bel5 := bel4.grown g5 bel4.size (fun k hk => by cases hk; exact hgs)
      have CB := numBytes_any _ _ _ _ n5
      clear CA g5 n5
      go_wp2_with (fail)
      refine CB.mono ?_
      rintro e w6 ⟨p6, c6, rfl, r6, b6⟩
      clear CB
      go_wp2_with (fail)
      go_ret
      rw [hTV.out]
      exact ⟨_, _, rfl, ⟨owns_mono r6.1 bel5.size, r6.2⟩, below_on bel5 b6⟩

theorem implTag_any (p q : Option Addr) (n m c d : Nat) (ks bs : List Int) (w : World) (hx : ks.length = n) (hy : bs.length = m) (h : BytesIn w p n ks) (h' : BytesIn w q m bs) (hb1 : ∀ x ∈ ks, 0 ≤ x ∧ x < 256) (hb2 : ∀ x ∈ bs, 0 ≤ x ∧ x < 256) (hc : n ≤ c) (hd : m ≤ d) :
    Calls Try.prog 7 #[.slice p n c, .slice q m d] w fun e w' => ∃ p' c', e = .returned (.slice p' (tagN n m) c') ∧ Own 5 w' w.heap.size w'.heap.size (.slice p' (tagN n m) c') (tagN n m) (tagL ks bs) ∧ Below w.heap.size w w' := by
  unfold tagN tagL
  rw [hx, hy]
  by_cases hok : tagOk n m
  · rw [if_pos hok, if_pos hok]
    obtain ⟨rfl, hm⟩ := hok
    exact implTag_yes p q m c d ks bs w hc hd hm hx hy h h' hb1 hb2
  · rw [if_neg hok, if_neg hok]
    exact implTag_no p q n m c d w hok

end Go.Proofs.Ythgnekdhldjjmab
