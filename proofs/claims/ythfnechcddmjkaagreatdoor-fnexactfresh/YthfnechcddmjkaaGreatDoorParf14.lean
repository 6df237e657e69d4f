/-
  What the specification's and the program's Hash answer, whatever bytes they are given: the fold of the blocks of the pad, as 32 bytes; nothing of more than 4000. Conditions: they are bytes, a length is an int's; for the program: the table of the rounds' numbers is as its text says.
-/
import Derived.Test.YthfnechcddmjkaaGreatDoorParf11
import Derived.Test.YthfnechcddmjkaaGreatDoorParf13
import Derived.Test.YthfnechcddmjkaaGreatDoorParf02
namespace Go.Proofs.YthfnechcddmjkaaGreatDoor
open Go.RowKit

theorem startN_lt : ∀ x ∈ startN, x < 4294967296 := by decide
def foldN (zs : List Int) (k : Nat) : List Nat := foldF startN zs k
theorem foldN_lt (zs : List Int) (k : Nat) : ∀ x ∈ foldN zs k, x < 4294967296 := foldF_lt startN_lt zs k
theorem foldN_length (zs : List Int) (k : Nat) : (foldN zs k).length = 8 := foldF_length rfl zs k
theorem wordsN_nats {l : List Nat} (h : ∀ x ∈ l, x < 4294967296) : wordsN (natsL l) = l := by
  induction l with
  | nil => rfl
  | cons a l ih =>
    have ha := h a (by simp)
    have hl := ih (fun x hx => h x (by simp [hx]))
    simp only [natsL, wordsN, List.map_cons] at hl ⊢
    rw [hl]
    congr 1
    unfold wordN
    omega
theorem foldN_step (zs : List Int) (k : Nat) : blockN (wsOf ((zs.drop (64 * k)).take 64)) (wordsN (natsL (foldN zs k))) = foldN zs (k + 1) := by rw [wordsN_nats (foldN_lt zs k)]; rfl
def hashN (n : Nat) : Nat := if n ≤ 4000 then 32 else 0
def hashL (xs : List Int) : List Int := if xs.length ≤ 4000 then bytesL true (natsL (foldN (padL xs) (padN xs.length / 64))) else []
theorem padL_length (xs : List Int) : (padL xs).length = padN xs.length := by
  unfold padL padN
  split
  · simp [lenL_length]; omega
  · rfl
theorem padL_byte {xs : List Int} (hb : ∀ x ∈ xs, 0 ≤ x ∧ x < 256) : ∀ x ∈ padL xs, 0 ≤ x ∧ x < 256 := by
  intro x hx
  unfold padL at hx
  split at hx
  · simp only [List.mem_append, List.mem_singleton, lenL, littleL, List.mem_reverse, List.mem_map] at hx
    rcases hx with ((hx | hx) | hx) | ⟨i, _, rfl⟩
    · exact hb x hx
    · omega
    · have := List.eq_of_mem_replicate hx
      omega
    · omega
  · simp at hx
theorem pad64 {n : Nat} (h : n ≤ 4000) : padN n = 64 * (padN n / 64) ∧ padN n ≤ 4096 := by
  have hz : zerosN n = (64 - (n + 9) % 64) % 64 := rfl
  have : padN n = n + 1 + zerosN n + 8 := if_pos h
  omega

set_option maxHeartbeats 4000000 in
theorem specHash_yes (p : Option Addr) (n c : Nat) (xs : List Int) (w : World) (hn : n ≤ 4000) (hx : xs.length = n) (h : BytesIn w p n xs) (hb : ∀ x ∈ xs, 0 ≤ x ∧ x < 256) :
    Calls Tryz.prog 133 #[.slice p n c] w fun e w' => ∃ p' c', e = .returned (.slice p' 32 c') ∧ Own 5 w' w.heap.size w'.heap.size (.slice p' 32 c') 32 (bytesL true (natsL (foldN (padL xs) (padN n / 64)))) ∧ Below w.heap.size w w' := by
  have C := fun w h => specPad_any p n c xs w (by omega) hx h
  have hzl : (padL xs).length = padN n := by rw [padL_length, hx]
  have hzb := padL_byte hb
  obtain ⟨hM, hM2⟩ := pad64 hn
  generalize hK : padN n / 64 = K at hM ⊢
  clear hK
  generalize padN n = M at C hzl hM hM2
  generalize padL xs = zs at C hzl hzb ⊢
  have hMK : Hid (M = 64 * K) := hM
  clear hM
  go_enter Tryz.func133, Tryz.ntmps133
  go_wp2_with (fail)
  refine (C _ h).mono ?_
  rintro e w1 ⟨p1, c1, rfl, r1, b1⟩
  clear C h
  go_wp2_with (fail)
  refine (specStart_any _).mono ?_
  rintro e w2 ⟨p2, c2, rfl, r2, b2⟩
  have bel := below_on b1 b2
  have hin := (r1.on b2).bytes
  have hcap := r1.cap
  have hs0 : IntsIn w2 p2 8 (natsL (foldN zs 0)) := r2.ints
  clear r1 r2 b1 b2
  go_wp2_with (fail)
  go_loopw [4, 5] (fun v i wr => ∃ (k j : Nat) (p3 : Option Addr) (c3 : Nat), k ≤ K ∧ Hid (j = 64 * k) ∧ i = .int .i64 j ∧ v = .slice p3 8 c3 ∧ IntsIn wr p3 8 (natsL (foldN zs k)) ∧ Below w2.heap.size w2 wr)
    (fun _ i _ => M + 64 - (intOf i).toNat)
  case atStart => exact ⟨0, 0, p2, c2, by omega, rfl, rfl, rfl, hs0, Below.refl _ _⟩
  case round =>
    clear hs0
    obtain ⟨k, j, p3, c3, hk, hj, rfl, rfl, hI, hbl⟩ := hrel
    have hj2 : j ≤ M := by have := hj.out; have := hMK.out; omega
    by_cases hlt : k < K
    · have hjl : j + 64 ≤ M := by have := hj.out; have := hMK.out; omega
      have hjl2 : j + 63 < M := by omega
      obtain ⟨b, o, rfl, hc⟩ := hin (by omega)
      have hX : ((zs.drop j).take 64).length = 64 := by simp [hzl]; omega
      have hXb := part_byte hzb j
      have HQ : ∀ q, q = some ⟨b, o + j, none⟩ → BytesIn wr q 64 ((zs.drop j).take 64) := by
        intro q hq _
        refine ⟨b, o + j, hq, fun i hi => ?_⟩
        have hci := hc (j + i) (by omega)
        rw [Nat.add_assoc, hbl.cell (p := ⟨b, o + (j + i), none⟩) (World.block_lt_of_cell? w2 ⟨b, o + (j + i), none⟩ hci), hci]
        simp [List.getD, hi]
      have HF : Hid (blockN (wsOf ((zs.drop j).take 64)) (wordsN (natsL (foldN zs k))) = foldN zs (k + 1)) := by rw [Hid, hj.out]; exact foldN_step zs k
      have CB := fun q d h => specHashBlock_yes p3 q c3 d (natsL (foldN zs k)) ((zs.drop j).take 64) wr hX hI h hXb
      rw [HF.out] at CB
      clear hc HF hX hXb hI
      go_wp2_with (fail)
      refine (CB _ _ (HQ _ (by first | rfl | exact if_neg (by omega) | simp [Addr.add]))).mono ?_
      rintro e w4 ⟨p4, c4, rfl, r4, b4⟩
      clear CB HQ
      have hI4 := r4.ints
      clear r4
      go_wp2
      go_roundw
      case rel => exact ⟨k + 1, j + 64, p4, c4, by omega, by have := hj.out; rw [Hid]; omega, by go_num, rfl, hI4, below_on hbl b4⟩
      case measure => simp [intOf]; omega
    · have hkK : k = K := by omega
      have hnl : ¬ ((j : Int) + 63 < (M : Int)) := by have := hj.out; have := hMK.out; omega
      have hl8 : (natsL (foldN zs k)).length = 8 := by rw [natsL_length, foldN_length]
      have CW := fun w h => specWordBytes_any p3 8 c3 true (natsL (foldN zs k)) w (by omega) hl8 h
      rw [hkK] at CW hI
      clear hin
      go_wp2_with (fail)
      refine (CW _ hI).mono ?_
      rintro e w5 ⟨p5, c5, rfl, r5, b5⟩
      go_wp2
      go_ret
      have hs := bel.size
      have hs2 := hbl.size
      exact ⟨_, _, rfl, ⟨owns_mono r5.1 (by omega), r5.2⟩, below_on (below_on bel hbl) b5⟩

set_option maxRecDepth 100000 in
set_option maxHeartbeats 400000 in
theorem implHash_yes (p : Option Addr) (n c : Nat) (xs : List Int) (w : World) (hn : n ≤ 4000) (hx : xs.length = n) (h : BytesIn w p n xs) (hb : ∀ x ∈ xs, 0 ≤ x ∧ x < 256) (hKey : KeysIs w) :
    Calls Tryz.prog 134 #[.slice p n c] w fun e w' => ∃ p' c', e = .returned (.slice p' 32 c') ∧ Own 5 w' w.heap.size w'.heap.size (.slice p' 32 c') 32 (bytesL true (natsL (foldN (padL xs) (padN n / 64)))) ∧ Below w.heap.size w w' := by
  have C := fun w h => implPad_any p n c xs w (by omega) hx h
  have hzl : (padL xs).length = padN n := by rw [padL_length, hx]
  have hzb := padL_byte hb
  obtain ⟨hM, hM2⟩ := pad64 hn
  have hM3 : 64 ≤ padN n := by have : padN n = n + 1 + zerosN n + 8 := if_pos hn; have hz : zerosN n = (64 - (n + 9) % 64) % 64 := rfl; omega
  generalize hK : padN n / 64 = K at hM ⊢
  clear hK
  generalize padN n = M at C hzl hM hM2 hM3
  generalize padL xs = zs at C hzl hzb ⊢
  have hz := (zero_of_info infoHash).1
  have hsz0 := (zero_of_info infoHash).2
  have m1 := fun X : World => hash_made X w.heap.size (List.replicate 8 0) zeroL zero64 rfl (by simp [zeroL]) (by simp [zero64])
  have hws : wordsN startL = startN := wordsN_nats (by decide)
  have hl : (hashC startN zeroL zero64).length = 136 := by simp [hashC, u32L, u8L, startN, zeroL, zero64]
  have hsz2 : (Tryz.prog.info? 137).map (·.size) = some (hashC startN zeroL zero64).toArray.size := by rw [show (hashC startN zeroL zero64).toArray.size = 136 by simpa using hl]; exact hsz0
  have hone := hashC_one startN zeroL zero64
  obtain ⟨Z, hZ⟩ : ∃ Z, Z = (hashC (List.replicate 8 0) zeroL zero64).toArray := ⟨_, rfl⟩
  rw [← hZ] at hz
  simp only [← hZ] at m1
  clear hZ
  have hlo : 1 < w.heap.size := World.block_lt_of_cell? w ⟨1, 0, none⟩ (hKey 0 (by omega))
  have CN := fun p c X hX => newHash_any p c startL X rfl hX
  rw [hws] at CN
  obtain ⟨Cs, hCs⟩ : ∃ Cs, Cs = hashC startN zeroL zero64 := ⟨_, rfl⟩
  rw [← hCs] at CN hsz2 hone
  have hCl : Cs.toArray.size = 136 := by rw [hCs]; simpa using hl
  replace hCs : Hid (Cs = hashC startN zeroL zero64) := hCs
  clear hl hws
  go_enter Tryz.func134, Tryz.ntmps134
  go_wp2_with (fail)
  refine (implStart_any _).mono ?_
  rintro e w0 ⟨p0, c0, rfl, r0, b0⟩
  go_wp2_with (fail)
  refine (CN _ _ _ r0.ints).mono ?_
  rintro e w1 ⟨rfl, b01⟩
  have b1 := below_on b0 b01
  clear CN b0 b01 r0
  have h2 := m1 w1 b1.size
  have bA : Below w.heap.size w (w1.alloc (.cells Z 137)) := b1.alloc b1.size _
  have hth : (w1.alloc (.cells Z 137)).there w1.heap.size 0 Cs.toArray.size := by rw [hCl]; exact h2.there 0 136 (by omega)
  have hp := h2.put (show startN.length = 8 from rfl) (show zeroL.length = 64 by simp [zeroL]) (show zero64.length = 64 by simp [zero64])
  rw [← hCs.out] at hp
  have bB : Below w.heap.size w ((w1.alloc (.cells Z 137)).setCells w1.heap.size 0 Cs) := bA.grown hp.2 bA.size (fun k hk => by cases hk; exact b1.size)
  have hH := hp.1
  clear hp h2 bA m1
  go_wp2_with (refine wpList_store_mid rfl 137 _ _ rfl w1.heap.size 0 Cs.toArray rfl rfl hth hsz2 (all_oneCell_toArray hone) ?_)
  generalize (w1.alloc (.cells Z 137)).setCells w1.heap.size 0 Cs = w2 at bB hH ⊢
  refine (C _ (in_below h bB)).mono ?_
  rintro e w3 ⟨p3, c3, rfl, r3, b3⟩
  clear C h hth hz
  have bel := below_on bB b3
  have hH3 := hH.below b3
  rw [← zeroL_spread] at hH3
  have hg2 := hH.lt
  have hcap := r3.cap
  have hin := r3.bytes
  have hne : ∀ b q, p3 = some ⟨b, q, none⟩ → b ≠ w1.heap.size := fun b q e => by
    obtain ⟨g3, rfl⟩ := owns_at r3.1 (by omega)
    simp only [Option.some.injEq, Addr.mk.injEq] at e
    have := r3.1.lt g3 rfl
    omega
  have hle1 := b1.size
  have hK3 : KeysIs w3 := fun t ht => (bel.cell (p := ⟨1, t, none⟩) hlo).trans (hKey t ht)
  have CT := takeAll_any _ _ _ _ _ w.heap.size w1.heap.size startN zeroL zs p3 M c3 K w3 startN_lt zeroL_byte hzl hzb hM (by omega) hcap hH3 hK3 hlo hin hne
  generalize w1.heap.size = g at CT hg2 hle1 ⊢
  clear hH hH3 r3 b3 hsz0 hsz2 hone hCl hCs hin hne hK3 hM hM2 hM3 hzl hzb bB hKey hb hx
  go_wp2_with (fail)
  refine CT.mono ?_
  rintro e w4 ⟨rfl, L, h4, hLb, g4⟩
  clear CT
  have belr : Below w.heap.size w w4 := bel.grown g4 bel.size (fun i hi => by cases hi; exact hle1)
  rw [show foldF startN zs K = foldN zs K from rfl] at h4
  have CW := sum_any _ _ _ _ _ w.heap.size g _ L _ w4 (foldN_lt zs K) h4
  clear h4 hLb g4 bel
  go_wp2_with (fail)
  refine CW.mono ?_
  rintro e w5 ⟨p5, c5, rfl, r5, b5⟩
  go_wp2
  go_ret
  have hs := belr.size
  exact ⟨_, _, rfl, ⟨owns_mono r5.1 (by omega), r5.2⟩, below_on belr b5⟩

theorem specHash_no (p : Option Addr) (n c : Nat) (w : World) (hn : ¬ n ≤ 4000) :
    Calls Tryz.prog 133 #[.slice p n c] w fun e w' => ∃ p' c', e = .returned (.slice p' 0 c') ∧ Own 5 w' w.heap.size w'.heap.size (.slice p' 0 c') 0 [] ∧ Below w.heap.size w w' := by
  have c1 : (4000 : Int) < (n : Int) := by omega
  go_enter Tryz.func133, Tryz.ntmps133
  go_wp2
  go_ret
  exact ⟨_, _, rfl, .of (World.ownsRow_made w #[] 0 (Nat.le_refl _) (by unfold maxLen; omega) rfl), (Below.refl _ _).alloc (Nat.le_refl _) _⟩
theorem specHash_any (p : Option Addr) (n c : Nat) (xs : List Int) (w : World) (hx : xs.length = n) (h : BytesIn w p n xs) (hb : ∀ x ∈ xs, 0 ≤ x ∧ x < 256) :
    Calls Tryz.prog 133 #[.slice p n c] w fun e w' => ∃ p' c', e = .returned (.slice p' (hashN n) c') ∧ Own 5 w' w.heap.size w'.heap.size (.slice p' (hashN n) c') (hashN n) (hashL xs) ∧ Below w.heap.size w w' := by
  unfold hashN hashL
  rw [hx]
  by_cases hn : n ≤ 4000
  · rw [if_pos hn, if_pos hn]
    exact specHash_yes p n c xs w hn hx h hb
  · rw [if_neg hn, if_neg hn]
    exact specHash_no p n c w hn

end Go.Proofs.YthfnechcddmjkaaGreatDoor
