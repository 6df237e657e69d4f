/-
  What the program's HashBlock answers, whatever ints and bytes it is given: as the specification's; conditions: the bytes are bytes, a length is an int's; the table of the rounds' numbers is as its text says.
-/
import Derived.Test.YtncaihcfadllbabDoorNewHash
namespace Go.Proofs.YtncaihcfadllbabDoor
open Go.RowKit

theorem zeroL_byte : ∀ x ∈ zeroL, 0 ≤ x ∧ x < 256 := by
  intro x hx
  have := List.eq_of_mem_replicate hx
  omega
theorem zeroL_spread : spreadN (wsOf zeroL) = zero64 := by
  rw [show wsOf zeroL = List.replicate 16 0 by decide]
  exact spreadN_zero

set_option maxRecDepth 100000 in
set_option maxHeartbeats 2400000 in
theorem implHashBlock_yes (p q : Option Addr) (c d : Nat) (ys xs : List Int) (w : World) (hy : ys.length = 8) (hx : xs.length = 64) (h : IntsIn w p 8 ys) (h' : BytesIn w q 64 xs) (hb : ∀ x ∈ xs, 0 ≤ x ∧ x < 256) (hK : KeysIs w) :
    Calls Tryd.prog 15 #[.slice p 8 c, .slice q 64 d] w fun e w' => ∃ p' c', e = .returned (.slice p' 8 c') ∧ OwnI 3 w' w.heap.size w'.heap.size (.slice p' 8 c') 8 (natsL (blockN (wsOf xs) (wordsN ys))) ∧ Below w.heap.size w w' := by
  have hz := (zero_of_info infoHash).1
  have hsz0 := (zero_of_info infoHash).2
  have m1 := fun X : World => hash_made X w.heap.size (List.replicate 8 0) zeroL zero64 rfl (by simp [zeroL]) (by simp [zero64])
  have hwl : (wordsN ys).length = 8 := by rw [wordsN_length, hy]
  have hl : (hashC (wordsN ys) zeroL zero64).length = 136 := by simp [hashC, u32L, u8L, hwl, zeroL, zero64]
  have hsz2 : (Tryd.prog.info? 53).map (·.size) = some (hashC (wordsN ys) zeroL zero64).toArray.size := by rw [show (hashC (wordsN ys) zeroL zero64).toArray.size = 136 by simpa using hl]; exact hsz0
  have hone := hashC_one (wordsN ys) zeroL zero64
  obtain ⟨Z, hZ⟩ : ∃ Z, Z = (hashC (List.replicate 8 0) zeroL zero64).toArray := ⟨_, rfl⟩
  rw [← hZ] at hz
  simp only [← hZ] at m1
  clear hZ
  obtain ⟨b, o, rfl, hc⟩ := h' (by omega)
  have hblt : b < w.heap.size := World.block_lt_of_cell? w ⟨b, o + 0, none⟩ (hc 0 (by omega))
  have hat : ∀ w, (Instr.arrayAt 50 (.slice (some ⟨b, o, none⟩) 64 d)).run Tryd.prog w = .ok (.pointer (some ⟨b, o, none⟩)) w := fun w => run_arrayAt w 50 _ 64 _ 64 d Tryd.underlying50 (by omega)
  have hsz8 : (Tryd.prog.info? 50).map (·.size) = some (u8L xs).length := by rw [infoBlk]; simp [u8L, hx]
  have hlo : 0 < w.heap.size := World.block_lt_of_cell? w ⟨0, 0, none⟩ (hK 0 (by omega))
  have CN := fun X hX => newHash_any p c ys X hy hX
  obtain ⟨Cs, hCs⟩ : ∃ Cs, Cs = hashC (wordsN ys) zeroL zero64 := ⟨_, rfl⟩
  rw [← hCs] at CN hsz2 hone
  have hCl : Cs.toArray.size = 136 := by rw [hCs]; simpa using hl
  replace hCs : Hid (Cs = hashC (wordsN ys) zeroL zero64) := hCs
  clear hl
  go_enter Tryd.func15, Tryd.ntmps15
  go_wp2_with (fail)
  refine (CN _ h).mono ?_
  rintro e w1 ⟨rfl, b1⟩
  clear CN
  have h2 := m1 w1 b1.size
  have bA : Below w.heap.size w (w1.alloc (.cells Z 53)) := b1.alloc b1.size _
  have hth : (w1.alloc (.cells Z 53)).there w1.heap.size 0 Cs.toArray.size := by rw [hCl]; exact h2.there 0 136 (by omega)
  have hp := h2.put hwl (show zeroL.length = 64 by simp [zeroL]) (show zero64.length = 64 by simp [zero64])
  rw [← hCs.out] at hp
  have bB : Below w.heap.size w ((w1.alloc (.cells Z 53)).setCells w1.heap.size 0 Cs) := bA.grown hp.2 bA.size (fun k hk => by cases hk; exact b1.size)
  have hra : ((w1.alloc (.cells Z 53)).setCells w1.heap.size 0 Cs).rangeAt b o (u8L xs) := fun j v hv => by
    have hj : j < 64 := by have := (List.getElem?_eq_some_iff.1 hv).1; simp [u8L] at this; omega
    rw [bB.cell (p := ⟨b, o + j, none⟩) hblt, hc j hj, ← hv]
    simp [u8L, List.getElem?_eq_getElem (show j < xs.length by omega)]
  have hH := hp.1
  clear hp h2 bA m1 hc h h'
  go_wp2_with (first | (refine wpList_store_mid rfl 53 _ _ rfl w1.heap.size 0 Cs.toArray rfl rfl hth hsz2 (all_oneCell_toArray hone) ?_) | (refine wpList_load_mid rfl 50 _ rfl b o rfl (u8L xs) _ hra Tryd.underlying50 rfl hsz8 ?_))
  generalize (w1.alloc (.cells Z 53)).setCells w1.heap.size 0 Cs = w2 at bB hra hH ⊢
  rw [← zeroL_spread] at hH
  have hK2 : KeysIs w2 := fun t ht => (bB.cell (p := ⟨0, t, none⟩) hlo).trans (hK t ht)
  refine (take_any _ _ _ _ _ w.heap.size w1.heap.size (wordsN ys) zeroL xs w2 (wordsN_lt ys) zeroL_byte hx hb hH hK2 hlo).mono ?_
  rintro e w3 ⟨rfl, h3, g3⟩
  have b3 : Below w.heap.size w w3 := bB.grown g3 bB.size (fun k hk => by cases hk; exact b1.size)
  go_wp2_with (fail)
  refine (hashWords_any _ _ _ _ _ w.heap.size w1.heap.size _ _ _ w3 (blockN_lt _ _) h3).mono ?_
  rintro e w4 ⟨p4, c4, rfl, r4, b4⟩
  go_wp2
  go_ret
  exact ⟨_, _, rfl, ⟨owns_mono r4.1 b3.size, r4.2⟩, below_on b3 b4⟩

theorem implHashBlock_no1 (p q : Option Addr) (n m c d : Nat) (w : World) (hn : n ≠ 8) :
    Calls Tryd.prog 15 #[.slice p n c, .slice q m d] w fun e w' => ∃ p' c', e = .returned (.slice p' 0 c') ∧ OwnI 3 w' w.heap.size w'.heap.size (.slice p' 0 c') 0 [] ∧ Below w.heap.size w w' := by
  have c1 : ((n : Int) != 8) = true := by simp; omega
  go_enter Tryd.func15, Tryd.ntmps15
  go_wp2
  go_ret
  exact ⟨_, _, rfl, .of (World.ownsRow_nil _ _ _ _), Below.refl _ _⟩
theorem implHashBlock_no2 (p q : Option Addr) (m c d : Nat) (w : World) (hm : m ≠ 64) :
    Calls Tryd.prog 15 #[.slice p 8 c, .slice q m d] w fun e w' => ∃ p' c', e = .returned (.slice p' 0 c') ∧ OwnI 3 w' w.heap.size w'.heap.size (.slice p' 0 c') 0 [] ∧ Below w.heap.size w w' := by
  have c1 : ((m : Int) != 64) = true := by simp; omega
  go_enter Tryd.func15, Tryd.ntmps15
  go_wp2
  go_ret
  exact ⟨_, _, rfl, .of (World.ownsRow_nil _ _ _ _), Below.refl _ _⟩
theorem implHashBlock_any (p q : Option Addr) (n m c d : Nat) (ys xs : List Int) (w : World) (hy : ys.length = n) (hx : xs.length = m) (h : IntsIn w p n ys) (h' : BytesIn w q m xs) (hb : ∀ x ∈ xs, 0 ≤ x ∧ x < 256) (hK : KeysIs w) :
    Calls Tryd.prog 15 #[.slice p n c, .slice q m d] w fun e w' => ∃ p' c', e = .returned (.slice p' (hbN n m) c') ∧ OwnI 3 w' w.heap.size w'.heap.size (.slice p' (hbN n m) c') (hbN n m) (hbL ys xs) ∧ Below w.heap.size w w' := by
  unfold hbN hbL
  rw [hy, hx]
  by_cases h1 : n = 8
  · by_cases h2 : m = 64
    · subst h1
      subst h2
      simp only [and_self, if_true]
      exact implHashBlock_yes p q c d ys xs w hy hx h h' hb hK
    · subst h1
      rw [if_neg (fun e => h2 e.2), if_neg (fun e => h2 e.2)]
      exact implHashBlock_no2 p q m c d w h2
  · rw [if_neg (fun e => h1 e.1), if_neg (fun e => h1 e.1)]
    exact implHashBlock_no1 p q n m c d w h1

theorem specHashBlock_no1 (p q : Option Addr) (n m c d : Nat) (w : World) (hn : n ≠ 8) :
    Calls Tryd.prog 16 #[.slice p n c, .slice q m d] w fun e w' => ∃ p' c', e = .returned (.slice p' 0 c') ∧ OwnI 3 w' w.heap.size w'.heap.size (.slice p' 0 c') 0 [] ∧ Below w.heap.size w w' := by
  have c1 : ((n : Int) != 8) = true := by simp; omega
  go_enter Tryd.func16, Tryd.ntmps16
  go_wp2
  go_ret
  exact ⟨_, _, rfl, .of (World.ownsRow_made w #[] 0 (Nat.le_refl _) (by unfold maxLen; omega) rfl), (Below.refl _ _).alloc (Nat.le_refl _) _⟩
theorem specHashBlock_no2 (p q : Option Addr) (m c d : Nat) (w : World) (hm : m ≠ 64) :
    Calls Tryd.prog 16 #[.slice p 8 c, .slice q m d] w fun e w' => ∃ p' c', e = .returned (.slice p' 0 c') ∧ OwnI 3 w' w.heap.size w'.heap.size (.slice p' 0 c') 0 [] ∧ Below w.heap.size w w' := by
  have c1 : ((m : Int) != 64) = true := by simp; omega
  go_enter Tryd.func16, Tryd.ntmps16
  go_wp2
  go_ret
  exact ⟨_, _, rfl, .of (World.ownsRow_made w #[] 0 (Nat.le_refl _) (by unfold maxLen; omega) rfl), (Below.refl _ _).alloc (Nat.le_refl _) _⟩
theorem specHashBlock_any (p q : Option Addr) (n m c d : Nat) (ys xs : List Int) (w : World) (hy : ys.length = n) (hx : xs.length = m) (h : IntsIn w p n ys) (h' : BytesIn w q m xs) (hb : ∀ x ∈ xs, 0 ≤ x ∧ x < 256) :
    Calls Tryd.prog 16 #[.slice p n c, .slice q m d] w fun e w' => ∃ p' c', e = .returned (.slice p' (hbN n m) c') ∧ OwnI 3 w' w.heap.size w'.heap.size (.slice p' (hbN n m) c') (hbN n m) (hbL ys xs) ∧ Below w.heap.size w w' := by
  unfold hbN hbL
  rw [hy, hx]
  by_cases h1 : n = 8
  · by_cases h2 : m = 64
    · subst h1
      subst h2
      simp only [and_self, if_true]
      exact specHashBlock_yes p q c d ys xs w hx h h' hb
    · subst h1
      rw [if_neg (fun e => h2 e.2), if_neg (fun e => h2 e.2)]
      exact specHashBlock_no2 p q m c d w h2
  · rw [if_neg (fun e => h1 e.1), if_neg (fun e => h1 e.1)]
    exact specHashBlock_no1 p q n m c d w h1

theorem hbN_le (n m : Nat) : hbN n m ≤ 8 := by unfold hbN; split <;> omega

end Go.Proofs.YtncaihcfadllbabDoor
