/-
  What the program's newHash and words answer: a hash of eight numbers' words, its last block and what that is spread to all noughts; the eight words of a hash as ints. Condition: a hash that the call owns.
  What the program's HashBlock answers, whatever ints and bytes it is given: as the specification's; conditions: the bytes are bytes, a length is an int's; the table of the rounds' numbers is as its text says.
  What the program's takeAll makes of a hash and of whole blocks of bytes, and what its sum answers: the words behind all the blocks; the words' bytes. Conditions: words and bytes; the bytes lie in another block; the table of the rounds' numbers is as its text says.
-/
import Derived.Test.YthfnechcddmjkaaGreatDoorParf10
import Derived.Test.YthfnechcddmjkaaGreatDoorParf08
import Derived.Deep.WholeRow
import Derived.Test.YthfnechcddmjkaaGreatDoorParf02
namespace Go.Proofs.YthfnechcddmjkaaGreatDoor
open Go.RowKit

def zero64 : List Nat := List.replicate 64 0
def zeroL : List Int := List.replicate 64 0
theorem infoHash : (Tryz.prog.info? 137).map (fun i => (i.zero, i.size)) = some (some (.agg (hashC (List.replicate 8 0) zeroL zero64).toArray), 136) := by kernel_rfl

theorem hash_made (w : World) (lo : Nat) (S : List Nat) (L : List Int) (W : List Nat) (h1 : S.length = 8) (h2 : L.length = 64) (h3 : W.length = 64) (hlo : lo ≤ w.heap.size) :
    HashIs (w.alloc (.cells (hashC S L W).toArray 137)) lo w.heap.size S L W := by
  have hl : (hashC S L W).length = 136 := hashC_length h1 h2 h3
  refine ⟨h1, h2, h3, rfl, by simpa using hl, .inr ⟨w.heap.size, 136, _, rfl, hlo, heap_alloc_new w _, Nat.le_refl _, by unfold maxLen; omega, by simp [hl], ?_⟩⟩
  rw [List.take_of_length_le (by simp [hl])]
  simp
theorem hashC_one (S : List Nat) (L : List Int) (W : List Nat) : ∀ v ∈ hashC S L W, v.oneCell' = true := by
  intro v hv
  simp only [hashC, List.mem_append] at hv
  rcases hv with hv | hv | hv
  · exact u32L_one _ v hv
  · exact u8L_one _ v hv
  · exact u32L_one _ v hv
theorem HashIn.put {ty n o : Nat} {A B : List Value} {w : World} {lo g : Nat} {S S' : List Nat} {L L' : List Int} {W W' : List Nat} (h : HashIn ty n o A B w lo g S L W) (h1 : S'.length = 8) (h2 : L'.length = 64) (h3 : W'.length = 64) :
    HashIn ty n o A B (w.setCells g o (hashC S' L' W')) lo g S' L' W' ∧ w.grownBy (w.setCells g o (hashC S' L' W')) (some g) := by
  obtain ⟨k1, k2, k3, k5, k4⟩ := h
  have h5 := owns_put (hashC S' L' W') o w _ k4
  have e := putL_mid A (hashC S L W) B (hashC S' L' W') (by rw [hashC_length h1 h2 h3, hashC_length k1 k2 k3])
  rw [k5] at e
  rw [e] at h5
  exact ⟨⟨h1, h2, h3, k5, h5.1⟩, h5.2⟩
theorem HashIn.range {ty n o : Nat} {A B : List Value} {w : World} {lo g : Nat} {S : List Nat} {L : List Int} {W : List Nat} (h : HashIn ty n o A B w lo g S L W) : w.rangeAt g o (hashC S L W) := by
  intro j v hv
  have hj : j < 136 := by have := (List.getElem?_eq_some_iff.1 hv).1; rw [hashC_length h.1 h.2.1 h.2.2.1] at this; exact this
  rw [h.cell j hj, hv]
theorem cell_grown {w w' : World} {r : Nat} {p : Addr} (h : w.grownBy w' (some r)) (h1 : p.block < w.heap.size) (h2 : p.block ≠ r) : w'.cell? p = w.cell? p := by
  simp only [World.cell?, h.block p.block h1 (by simp; exact h2)]
theorem HashIn.kept {ty n o : Nat} {A B : List Value} {w w' : World} {lo g r : Nat} {S : List Nat} {L : List Int} {W : List Nat} (h : HashIn ty n o A B w lo g S L W) (hg : w.grownBy w' (some r)) (hne : g ≠ r) : HashIn ty n o A B w' lo g S L W :=
  ⟨h.1, h.2.1, h.2.2.1, h.2.2.2.1, h.2.2.2.2.kept hg (.inr (by simp [Value.ownBlock]; exact fun e => hne e))⟩
theorem HashIn.setState {ty n o : Nat} {A B : List Value} {w : World} {lo g : Nat} {S : List Nat} {L : List Int} {W : List Nat} (h : HashIn ty n o A B w lo g S L W) (k u : Nat) (hk : k < 8) :
    HashIn ty n o A B (w.setCell ⟨g, o + k, none⟩ (.int .u32 (u : Int))) lo g (S.set k u) L W ∧ w.grownBy (w.setCell ⟨g, o + k, none⟩ (.int .u32 (u : Int))) (some g) := by
  obtain ⟨k1, k2, k3, k5, k4⟩ := h
  have st := k4.stored (o + k) (.int .u32 (u : Int))
  rw [winC_set k5 _ _ _ _ _ (by omega)] at st
  exact ⟨⟨by simpa using k1, k2, k3, k5, st.1⟩, st.2⟩

set_option maxRecDepth 100000 in
set_option maxHeartbeats 2400000 in
theorem newHash_any (p : Option Addr) (c : Nat) (ys : List Int) (w : World) (hy : ys.length = 8) (h : IntsIn w p 8 ys) :
    Calls Tryz.prog 135 #[.slice p 8 c] w fun e w' => e = .returned (.agg (hashC (wordsN ys) zeroL zero64).toArray) ∧ Below w.heap.size w w' := by
  have hz := (zero_of_info infoHash).1
  have hsz0 := (zero_of_info infoHash).2
  have m1 := fun X : World => hash_made X w.heap.size (List.replicate 8 0) zeroL zero64 rfl (by simp [zeroL]) (by simp [zero64])
  obtain ⟨b, o, rfl, hc⟩ := h (by omega)
  have hblt : b < w.heap.size := World.block_lt_of_cell? w ⟨b, o + 0, none⟩ (hc 0 (by omega))
  have hwl : (wordsN ys).length = 8 := by rw [wordsN_length, hy]
  obtain ⟨Z, hZ⟩ : ∃ Z, Z = (hashC (List.replicate 8 0) zeroL zero64).toArray := ⟨_, rfl⟩
  rw [← hZ] at hz
  simp only [← hZ] at m1
  clear hZ
  go_enter Tryz.func135, Tryz.ntmps135
  go_wp2_with (fail)
  have h2 := m1 w (Nat.le_refl _)
  have ba : Below w.heap.size w (w.alloc (.cells Z 137)) := (Below.refl _ _).alloc (Nat.le_refl _) _
  have sa : (w.alloc (.cells Z 137)).heap.size = w.heap.size + 1 := by simp
  generalize w.alloc (.cells Z 137) = wa at h2 ba sa ⊢
  have h3 := m1 wa (by omega)
  have bb : Below wa.heap.size wa (wa.alloc (.cells Z 137)) := (Below.refl _ _).alloc (Nat.le_refl _) _
  generalize wa.alloc (.cells Z 137) = wb at h3 bb ⊢
  rw [sa] at h3
  replace h2 := h2.below bb
  have bel := below_on ba bb
  have hsb := bel.size
  have HC : Hid (∀ i, i < 8 → wb.cell? ⟨b, o + i, none⟩ = some (.int .i64 (ys.getD i 0))) := fun i hi => (bel.cell (p := ⟨b, o + i, none⟩) hblt).trans (hc i hi)
  clear ba bb sa hc h hz m1
  obtain ⟨B3, hB3⟩ : ∃ B3, B3 = w.heap.size + 1 := ⟨_, rfl⟩
  rw [← hB3] at h3 ⊢
  have hne : w.heap.size ≠ B3 := by omega
  have hbne : b ≠ B3 := by omega
  have hge : w.heap.size ≤ B3 := by omega
  have hbb : b < wb.heap.size := by omega
  clear hB3
  go_loopw [8] (fun i wr => ∃ k : Nat, k ≤ 8 ∧ i = .int .i64 k ∧ HashIs wr w.heap.size B3 (mixS (wordsN ys) (List.replicate 8 0) k) zeroL zero64 ∧ wb.grownBy wr (some B3))
    (fun i _ => 8 - (intOf i).toNat)
  case atStart => exact ⟨0, by omega, rfl, by simpa [mixS] using h3, World.grownBy.refl _ _⟩
  case round =>
    clear h3
    obtain ⟨k, hk, rfl, hH, hgr⟩ := hrel
    by_cases hlt : k < 8
    · have cy := (cell_grown (p := ⟨b, o + k, none⟩) hgr hbb hbne).trans (HC.out k hlt)
      have cold := hH.state k hlt
      have hfr := hH.frozen k
      have st := hH.setState k (wordN (ys.getD k 0)) hlt
      rw [mixS_set hwl (by simp) k hlt _ (wordsN_getD ys k).symm, Nat.zero_add] at st
      rw [Nat.zero_add] at cold
      have hwe := wordN_eq (ys.getD k 0)
      generalize (mixS (wordsN ys) (List.replicate 8 0) k).getD k 0 = old at cold
      generalize wordN (ys.getD k 0) = u at st hwe
      generalize ys.getD k 0 = y at cy hwe
      have mu : y % 4294967296 = (u : Int) := hwe.symm
      have wu : IntKind.u32.wrap y = (u : Int) := by rw [IntKind.wrap_u32]; exact mu
      have hgr' := grown_trans hgr st.2
      have st' := st.1
      clear st hH hgr hwe
      go_wp2
      go_roundw
      case rel => exact ⟨k + 1, by omega, by go_num, st', hgr'⟩
      case measure => simp [intOf]; omega
    · have hfin : mixS (wordsN ys) (List.replicate 8 0) k = wordsN ys := by simp [mixS, show k = 8 by omega, List.take_of_length_le (show (wordsN ys).length ≤ 8 by omega)]
      rw [hfin] at hH
      clear hfin
      have hra := hH.range
      have hk2 := h2.kept hgr hne
      have hl : (hashC (wordsN ys) zeroL zero64).length = 136 := by simp [hashC, u32L, u8L, hwl, zeroL, zero64]
      have hsz : (Tryz.prog.info? 137).map (·.size) = some (hashC (wordsN ys) zeroL zero64).length := by rw [hl]; exact hsz0
      have hsz2 : (Tryz.prog.info? 137).map (·.size) = some (hashC (wordsN ys) zeroL zero64).toArray.size := by simpa using hsz
      have hth2 : wr.there w.heap.size 0 (hashC (wordsN ys) zeroL zero64).toArray.size := by rw [show (hashC (wordsN ys) zeroL zero64).toArray.size = 136 by simpa using hl]; exact hk2.there 0 136 (by omega)
      have hp := hk2.put hH.1 hH.2.1 hH.2.2.1
      have hbel : Below w.heap.size w (wr.setCells w.heap.size 0 (hashC (wordsN ys) zeroL zero64)) := (bel.grown hgr hsb (fun k hk => by cases hk; exact hge)).grown hp.2 (Nat.le_trans hsb hgr.size) (fun k hk => by cases hk; exact Nat.le_refl _)
      have hld := run_loadVar_mid (P := Tryz.prog) _ w.heap.size 0 137 _ _ hp.1.range Tryz.underlying137 rfl hsz
      have hone := hashC_one (wordsN ys) zeroL zero64
      obtain ⟨Cs, hCs⟩ : ∃ Cs, Cs = hashC (wordsN ys) zeroL zero64 := ⟨_, rfl⟩
      rw [← hCs] at hra hsz hsz2 hth2 hbel hld hone
      replace hCs : Hid (Cs = hashC (wordsN ys) zeroL zero64) := hCs
      clear hp hk2 hH hgr hl h2
      go_wp2_with (first | (refine wpList_load_mid rfl 137 _ rfl B3 0 rfl Cs _ hra Tryz.underlying137 rfl hsz ?_) | (refine wpList_store_mid rfl 137 _ _ rfl w.heap.size 0 Cs.toArray rfl rfl hth2 hsz2 (all_oneCell_toArray hone) ?_))
      (try simp only [Exit.inBlock, Exit.then])
      refine bodyPost_ret (v := .agg Cs.toArray) ?_ rfl ⟨by rw [hCs.out], hbel⟩
      simp [results, asAddr, Act.put, hld]

theorem index8 (s0 s1 s2 s3 s4 s5 s6 s7 : Nat) (k : Nat) (hk : k < 8) (w : World) :
    (Instr.index 132 (.agg #[.int .u32 (s0 : Int), .int .u32 (s1 : Int), .int .u32 (s2 : Int), .int .u32 (s3 : Int), .int .u32 (s4 : Int), .int .u32 (s5 : Int), .int .u32 (s6 : Int), .int .u32 (s7 : Int)]) (.int .i64 (k : Int))).run Tryz.prog w = .ok (.int .u32 (([s0, s1, s2, s3, s4, s5, s6, s7].getD k 0 : Nat) : Int)) w := by
  have i0 : ∀ w : World, (Instr.index 132 (.agg #[.int .u32 (s0 : Int), .int .u32 (s1 : Int), .int .u32 (s2 : Int), .int .u32 (s3 : Int), .int .u32 (s4 : Int), .int .u32 (s5 : Int), .int .u32 (s6 : Int), .int .u32 (s7 : Int)]) (.int .i64 0)).run Tryz.prog w = .ok (.int .u32 (s0 : Int)) w := fun _ => by kernel_rfl
  have i1 : ∀ w : World, (Instr.index 132 (.agg #[.int .u32 (s0 : Int), .int .u32 (s1 : Int), .int .u32 (s2 : Int), .int .u32 (s3 : Int), .int .u32 (s4 : Int), .int .u32 (s5 : Int), .int .u32 (s6 : Int), .int .u32 (s7 : Int)]) (.int .i64 1)).run Tryz.prog w = .ok (.int .u32 (s1 : Int)) w := fun _ => by kernel_rfl
  have i2 : ∀ w : World, (Instr.index 132 (.agg #[.int .u32 (s0 : Int), .int .u32 (s1 : Int), .int .u32 (s2 : Int), .int .u32 (s3 : Int), .int .u32 (s4 : Int), .int .u32 (s5 : Int), .int .u32 (s6 : Int), .int .u32 (s7 : Int)]) (.int .i64 2)).run Tryz.prog w = .ok (.int .u32 (s2 : Int)) w := fun _ => by kernel_rfl
  have i3 : ∀ w : World, (Instr.index 132 (.agg #[.int .u32 (s0 : Int), .int .u32 (s1 : Int), .int .u32 (s2 : Int), .int .u32 (s3 : Int), .int .u32 (s4 : Int), .int .u32 (s5 : Int), .int .u32 (s6 : Int), .int .u32 (s7 : Int)]) (.int .i64 3)).run Tryz.prog w = .ok (.int .u32 (s3 : Int)) w := fun _ => by kernel_rfl
  have i4 : ∀ w : World, (Instr.index 132 (.agg #[.int .u32 (s0 : Int), .int .u32 (s1 : Int), .int .u32 (s2 : Int), .int .u32 (s3 : Int), .int .u32 (s4 : Int), .int .u32 (s5 : Int), .int .u32 (s6 : Int), .int .u32 (s7 : Int)]) (.int .i64 4)).run Tryz.prog w = .ok (.int .u32 (s4 : Int)) w := fun _ => by kernel_rfl
  have i5 : ∀ w : World, (Instr.index 132 (.agg #[.int .u32 (s0 : Int), .int .u32 (s1 : Int), .int .u32 (s2 : Int), .int .u32 (s3 : Int), .int .u32 (s4 : Int), .int .u32 (s5 : Int), .int .u32 (s6 : Int), .int .u32 (s7 : Int)]) (.int .i64 5)).run Tryz.prog w = .ok (.int .u32 (s5 : Int)) w := fun _ => by kernel_rfl
  have i6 : ∀ w : World, (Instr.index 132 (.agg #[.int .u32 (s0 : Int), .int .u32 (s1 : Int), .int .u32 (s2 : Int), .int .u32 (s3 : Int), .int .u32 (s4 : Int), .int .u32 (s5 : Int), .int .u32 (s6 : Int), .int .u32 (s7 : Int)]) (.int .i64 6)).run Tryz.prog w = .ok (.int .u32 (s6 : Int)) w := fun _ => by kernel_rfl
  have i7 : ∀ w : World, (Instr.index 132 (.agg #[.int .u32 (s0 : Int), .int .u32 (s1 : Int), .int .u32 (s2 : Int), .int .u32 (s3 : Int), .int .u32 (s4 : Int), .int .u32 (s5 : Int), .int .u32 (s6 : Int), .int .u32 (s7 : Int)]) (.int .i64 7)).run Tryz.prog w = .ok (.int .u32 (s7 : Int)) w := fun _ => by kernel_rfl
  have h8 : k = 0 ∨ k = 1 ∨ k = 2 ∨ k = 3 ∨ k = 4 ∨ k = 5 ∨ k = 6 ∨ k = 7 := by omega
  rcases h8 with rfl | rfl | rfl | rfl | rfl | rfl | rfl | rfl
  · exact i0 w
  · exact i1 w
  · exact i2 w
  · exact i3 w
  · exact i4 w
  · exact i5 w
  · exact i6 w
  · exact i7 w

set_option maxRecDepth 100000 in
set_option maxHeartbeats 2400000 in
theorem hashWords_any (ty n o : Nat) (A B : List Value) (lo g : Nat) (S : List Nat) (L : List Int) (W : List Nat) (w : World) (hS : ∀ x ∈ S, x < 4294967296) (h : HashIn ty n o A B w lo g S L W) :
    Calls Tryz.prog 179 #[.pointer (some ⟨g, o, none⟩)] w fun e w' => ∃ p c, e = .returned (.slice p 8 c) ∧ OwnI 3 w' w.heap.size w'.heap.size (.slice p 8 c) 8 (natsL S) ∧ Below w.heap.size w w' := by
  obtain ⟨i0, hi, hz0, hz1, hz2⟩ := info_parts infoInt
  have hSl := h.1
  have hSe : Hid (S = [S.getD 0 0, S.getD 1 0, S.getD 2 0, S.getD 3 0, S.getD 4 0, S.getD 5 0, S.getD 6 0, S.getD 7 0]) := (stOf_list hSl).symm
  have hx := index8 (S.getD 0 0) (S.getD 1 0) (S.getD 2 0) (S.getD 3 0) (S.getD 4 0) (S.getD 5 0) (S.getD 6 0) (S.getD 7 0)
  rw [← hSe.out] at hx
  have HG : Hid (∀ X, Below w.heap.size w X → X.cell? ⟨g, o, none⟩ = some (.int .u32 ((S.getD 0 0 : Nat) : Int)) ∧ X.cell? ⟨g, o + 1, none⟩ = some (.int .u32 ((S.getD 1 0 : Nat) : Int)) ∧ X.cell? ⟨g, o + 2, none⟩ = some (.int .u32 ((S.getD 2 0 : Nat) : Int)) ∧ X.cell? ⟨g, o + 3, none⟩ = some (.int .u32 ((S.getD 3 0 : Nat) : Int)) ∧ X.cell? ⟨g, o + 4, none⟩ = some (.int .u32 ((S.getD 4 0 : Nat) : Int)) ∧ X.cell? ⟨g, o + 5, none⟩ = some (.int .u32 ((S.getD 5 0 : Nat) : Int)) ∧ X.cell? ⟨g, o + 6, none⟩ = some (.int .u32 ((S.getD 6 0 : Nat) : Int)) ∧ X.cell? ⟨g, o + 7, none⟩ = some (.int .u32 ((S.getD 7 0 : Nat) : Int))) := by
    intro X hX
    have k := h.below hX
    exact ⟨k.state 0 (by omega), k.state 1 (by omega), k.state 2 (by omega), k.state 3 (by omega), k.state 4 (by omega), k.state 5 (by omega), k.state 6 (by omega), k.state 7 (by omega)⟩
  clear hSe
  generalize S.getD 0 0 = s0 at hx HG
  generalize S.getD 1 0 = s1 at hx HG
  generalize S.getD 2 0 = s2 at hx HG
  generalize S.getD 3 0 = s3 at hx HG
  generalize S.getD 4 0 = s4 at hx HG
  generalize S.getD 5 0 = s5 at hx HG
  generalize S.getD 6 0 = s6 at hx HG
  generalize S.getD 7 0 = s7 at hx HG
  replace hx : Hid (∀ k : Nat, k < 8 → ∀ w : World, (Instr.index 132 (.agg #[.int .u32 (s0 : Int), .int .u32 (s1 : Int), .int .u32 (s2 : Int), .int .u32 (s3 : Int), .int .u32 (s4 : Int), .int .u32 (s5 : Int), .int .u32 (s6 : Int), .int .u32 (s7 : Int)]) (.int .i64 (k : Int))).run Tryz.prog w = .ok (.int .u32 ((S.getD k 0 : Nat) : Int)) w) := hx
  go_enter Tryz.func179, Tryz.ntmps179
  go_wp2_with (at_make; refine wpList_make_full _ rfl _ _ 177 rfl w.heap.size 3 i0 (.int .i64 0) 1 Tryz.underlying177 hi hz0 hz1 _ _ _ _ 8 rfl rfl rfl rfl (by rw [hz2]; omega) (by unfold maxLen; omega) (Nat.le_refl _) ?_)
  intro w1 hown hgrow
  have bel : Below w.heap.size w w1 := (Below.refl _ _).grown hgrow (Nat.le_refl _) (fun _ h => by cases h)
  have hown0 : w1.ownsRow w.heap.size 3 1 (.slice (some ⟨w.heap.size, 0, none⟩) 8 8) 8 (((natsL S).take 0 ++ List.replicate (8 - 0) 0).map (Value.int .i64)) := by
    rw [← fill_startI (natsL S) 8]
    exact hown
  clear hown hgrow
  obtain ⟨e0, e1, e2, e3, e4, e5, e6, e7⟩ := HG.out w1 bel
  go_wp2_with (fail)
  clear e0 e1 e2 e3 e4 e5 e6 e7 HG
  have hnl : (natsL S).length = 8 := by rw [natsL_length, hSl]
  go_loopw [11] (fun i wr => ∃ k : Nat, k ≤ 8 ∧ i = .int .i64 k ∧ wr.ownsRow w.heap.size 3 1 (.slice (some ⟨w.heap.size, 0, none⟩) 8 8) 8 (((natsL S).take k ++ List.replicate (8 - k) 0).map (Value.int .i64)) ∧ Below w.heap.size w wr)
    (fun i _ => 8 - (intOf i).toNat)
  case atStart => exact ⟨0, by omega, rfl, hown0, bel⟩
  case round =>
    clear hown0 bel
    obtain ⟨k, hk, rfl, hown, hbel⟩ := hrel
    by_cases hlt : k < 8
    · have hix := hx.out k hlt
      have la := getD_lt hS (by decide) k
      have hu := natsL_getD S k
      have st := hown.stored k (.int .i64 ((S.getD k 0 : Nat) : Int))
      rw [fill_stepI (natsL S) 8 k _ hu.symm hlt hnl] at st
      have hfr := hown.frozenAt k
      have hold : wr.cell? ⟨w.heap.size, k, none⟩ = some (.int .i64 0) := by rw [hown.cellAt k (by omega), fill_oldI _ _ _ hlt hnl]
      generalize S.getD k 0 = a at hix la st
      have ma : IntKind.i64.wrap (a : Int) = (a : Int) := by rw [IntKind.wrap_i64]; omega
      have hb' := hbel.grown st.2 hbel.size (fun k hk => by cases hk; exact Nat.le_refl _)
      have st' := st.1
      clear st hown hu hbel
      go_wp2
      go_roundw
      case rel => exact ⟨k + 1, by omega, by go_num, st', hb'⟩
      case measure => simp [intOf]; omega
    · have hk8 : k = 8 := by omega
      have hfin : ((natsL S).take k ++ List.replicate (8 - k) 0) = natsL S := by rw [hk8]; exact fill_end (natsL S) 8 hnl
      rw [hfin] at hown
      clear hfin hk8
      go_wp2
      go_ret
      exact ⟨_, _, rfl, .of hown, hbel⟩

end Go.Proofs.YthfnechcddmjkaaGreatDoor

namespace Go.Proofs.YthfnechcddmjkaaGreatDoor
open Go.RowKit
set_option maxRecDepth 100000

theorem zeroL_byte : ∀ x ∈ zeroL, 0 ≤ x ∧ x < 256 := by
  intro x hx
  have := List.eq_of_mem_replicate hx
  omega
theorem zeroL_spread : spreadN (wsOf zeroL) = zero64 := by
  rw [show wsOf zeroL = List.replicate 16 0 by decide]
  exact spreadN_zero

end Go.Proofs.YthfnechcddmjkaaGreatDoor

namespace Go.Proofs.YthfnechcddmjkaaGreatDoor
open Go.RowKit

def sliceLen : Value → Nat
  | .slice _ m _ => m
  | _ => 0
def foldF (S : List Nat) (zs : List Int) : Nat → List Nat
  | 0 => S
  | k + 1 => blockN (wsOf ((zs.drop (64 * k)).take 64)) (foldF S zs k)
theorem foldF_lt {S : List Nat} (hS : ∀ x ∈ S, x < 4294967296) (zs : List Int) (k : Nat) : ∀ x ∈ foldF S zs k, x < 4294967296 := by
  cases k with
  | zero => exact hS
  | succ k => exact blockN_lt _ _
theorem foldF_length {S : List Nat} (hS : S.length = 8) (zs : List Int) (k : Nat) : (foldF S zs k).length = 8 := by
  cases k with
  | zero => exact hS
  | succ k => exact blockN_length _ _
theorem part_byte {zs : List Int} (hb : ∀ x ∈ zs, 0 ≤ x ∧ x < 256) (k : Nat) : ∀ x ∈ (zs.drop k).take 64, 0 ≤ x ∧ x < 256 := fun x hx => hb x (List.mem_of_mem_drop (List.mem_of_mem_take hx))

set_option maxRecDepth 100000 in
set_option maxHeartbeats 4000000 in
theorem takeAll_any (ty n o : Nat) (A B : List Value) (lo g : Nat) (S : List Nat) (L0 zs : List Int) (p : Option Addr) (M c K : Nat) (w : World) (hS : ∀ x ∈ S, x < 4294967296) (hL0 : ∀ x ∈ L0, 0 ≤ x ∧ x < 256) (hzl : zs.length = M) (hzb : ∀ x ∈ zs, 0 ≤ x ∧ x < 256) (hM : M = 64 * K) (hM2 : M ≤ 1048576) (hcap : M ≤ c)
    (h : HashIn ty n o A B w lo g S L0 (spreadN (wsOf L0))) (hKey : KeysIs w) (hlo : 1 < lo) (hin : BytesIn w p M zs) (hne : ∀ b q, p = some ⟨b, q, none⟩ → b ≠ g) :
    Calls Tryz.prog 139 #[.pointer (some ⟨g, o, none⟩), .slice p M c] w fun e w' => e = .returned (.tuple #[]) ∧ ∃ L, HashIn ty n o A B w' lo g (foldF S zs K) L (spreadN (wsOf L)) ∧ (∀ x ∈ L, 0 ≤ x ∧ x < 256) ∧ w.grownBy w' (some g) := by
  have hg := h.lt
  have hMK : Hid (M = 64 * K) := hM
  clear hM
  obtain ⟨g3, o3, hp3, hc3⟩ : ∃ g3 o3, (0 < M → p = some ⟨g3, o3, none⟩ ∧ g3 ≠ g ∧ g3 < w.heap.size) ∧ ∀ i, i < M → w.cell? ⟨g3, o3 + i, none⟩ = some (.int .u8 (zs.getD i 0)) := by
    rcases Nat.eq_zero_or_pos M with h0 | h0
    · exact ⟨0, 0, fun hp => absurd hp (by omega), fun i hi => absurd hi (by omega)⟩
    · obtain ⟨b, q, e1, e2⟩ := hin h0
      exact ⟨b, q, fun _ => ⟨e1, hne b q e1, World.block_lt_of_cell? w ⟨b, q + 0, none⟩ (e2 0 h0)⟩, e2⟩
  have HP : Hid (0 < M → p = some ⟨g3, o3, none⟩ ∧ g3 ≠ g ∧ g3 < w.heap.size) := hp3
  have HC : Hid (∀ i, i < M → w.cell? ⟨g3, o3 + i, none⟩ = some (.int .u8 (zs.getD i 0))) := hc3
  have hK3 : Hid (∀ X, w.grownBy X (some g) → KeysIs X) := fun X hX t ht => (cell_grown (p := ⟨1, t, none⟩) hX (show 1 < w.heap.size by omega) (show 1 ≠ g by omega)).trans (hKey t ht)
  clear hp3 hc3 hin hne hKey
  have hq0 : Hid (0 < M → p = some ⟨g3, o3 + 64 * 0, none⟩) := fun hp => (HP.out hp).1
  go_enter Tryz.func139, Tryz.ntmps139
  go_wp2_with (fail)
  go_loopw [4] (fun v wr => ∃ (k m : Nat) (q : Option Addr) (cc : Nat) (L : List Int), k ≤ K ∧ Hid (m + 64 * k = M) ∧ v = .slice q m cc ∧ m ≤ cc ∧ Hid (0 < m → q = some ⟨g3, o3 + 64 * k, none⟩) ∧ HashIn ty n o A B wr lo g (foldF S zs k) L (spreadN (wsOf L)) ∧ Hid (∀ x ∈ L, 0 ≤ x ∧ x < 256) ∧ w.grownBy wr (some g))
    (fun v _ => sliceLen v)
  case atStart => exact ⟨0, M, p, c, L0, by omega, rfl, rfl, hcap, hq0, h, hL0, World.grownBy.refl _ _⟩
  case round =>
    clear h hq0
    obtain ⟨k, m, q, cc, L, hk, hm, rfl, hcc, hq, hH, hLb, hgr⟩ := hrel
    by_cases hlt : k < K
    · have hm64 : 64 ≤ m := by have := hm.out; have := hMK.out; omega
      obtain rfl := hq.out (by omega)
      have hml := hm.out
      obtain ⟨-, hgne, hglt⟩ := HP.out (by omega)
      have hX : ((zs.drop (64 * k)).take 64).length = 64 := by simp [hzl]; omega
      have hXb := part_byte hzb (64 * k)
      have hra : wr.rangeAt g3 (o3 + 64 * k) (u8L ((zs.drop (64 * k)).take 64)) := fun i v hv => by
        have hi : i < 64 := by have := (List.getElem?_eq_some_iff.1 hv).1; simp [u8L] at this; omega
        have hci := HC.out (64 * k + i) (by omega)
        rw [Nat.add_assoc, cell_grown (p := ⟨g3, o3 + (64 * k + i), none⟩) hgr hglt hgne, hci, ← hv]
        simp [u8L, hi, List.getElem?_eq_getElem (show 64 * k + i < zs.length by omega)]
      have hsz8 : (Tryz.prog.info? 134).map (·.size) = some (u8L ((zs.drop (64 * k)).take 64)).length := by rw [infoBlk]; simp [u8L, hzl]; omega
      have CT := take_any ty n o A B lo g (foldF S zs k) L ((zs.drop (64 * k)).take 64) wr (foldF_lt hS zs k) hLb.out hX hXb hH (hK3.out _ hgr) hlo
      replace CT : Calls Tryz.prog 137 #[.pointer (some ⟨g, o, none⟩), .agg (u8L ((zs.drop (64 * k)).take 64)).toArray] wr fun e w' => e = .returned (.tuple #[]) ∧ HashIn ty n o A B w' lo g (foldF S zs (k + 1)) ((zs.drop (64 * k)).take 64) (spreadN (wsOf ((zs.drop (64 * k)).take 64))) ∧ wr.grownBy w' (some g) := CT
      replace hXb : Hid (∀ x ∈ (zs.drop (64 * k)).take 64, 0 ≤ x ∧ x < 256) := hXb
      generalize (zs.drop (64 * k)).take 64 = X at hra hsz8 CT hXb
      obtain ⟨j, hj⟩ : ∃ j, o3 + 64 * k = j := ⟨_, rfl⟩
      rw [hj] at hra ⊢
      replace hj : Hid (o3 + 64 * k = j) := hj
      have hat : ∀ w, (Instr.arrayAt 134 (.slice (some ⟨g3, j, none⟩) m cc)).run Tryz.prog w = .ok (.pointer (some ⟨g3, j, none⟩)) w := fun w => run_arrayAt w 134 _ 64 _ m cc Tryz.underlying134 hm64
      have hm0 : (0 : Int) < (m : Int) := by omega
      obtain ⟨q', hq', hsl⟩ : ∃ q', Hid (64 < m → q' = some ⟨g3, j + 64, none⟩) ∧ ∀ W, (Instr.slice 22 (.slice (some ⟨g3, j, none⟩) m cc) (some (.int .i64 64)) none none).run Tryz.prog W = .ok (.slice q' (m - 64) (cc - 64)) W := by
        refine ⟨if cc = 64 then some ⟨g3, j, none⟩ else some ⟨g3, j + 64, none⟩, fun h64 => if_neg (by omega), fun W => ?_⟩
        have ht' : Tryz.prog.underlying 22 = some (.slice (Tryz.prog.elem 22)) := by simp [Program.elem, Tryz.underlying22]
        have he : Tryz.prog.elem 22 = 5 := by simp [Program.elem, Tryz.underlying22]
        obtain ⟨i0, hi, hz0, hz1, hz2⟩ := info_parts infoByte
        rw [run_slice_l W 22 _ _ _ ht' .i64 64 (by omega) (by omega), he]
        simp [sizeOf, typeInfo, hi, hz1, sliced, Addr.add]
      clear hX hq hml hH hLb hgne hglt
      go_wp2_with (refine wpList_load_mid rfl 134 _ rfl g3 j rfl (u8L X) _ hra Tryz.underlying134 rfl hsz8 ?_)
      refine CT.mono ?_
      rintro e w5 ⟨rfl, h5, g5⟩
      clear CT hra hat hsz8
      have hgr5 := grown_trans hgr g5
      go_wp2
      go_roundw
      case rel => exact ⟨k + 1, m - 64, q', cc - 64, X, by omega, by have := hm.out; rw [Hid]; omega, rfl, by omega, fun hp => by rw [show o3 + 64 * (k + 1) = j + 64 by have := hj.out; omega]; exact hq'.out (by omega), h5, hXb, hgr5⟩
      case measure => simp only [sliceLen]; omega
    · have hm0 : m = 0 := by have := hm.out; have := hMK.out; omega
      have hmz : ¬ (0 : Int) < (m : Int) := by omega
      have hkK : k = K := by omega
      rw [hkK] at hH
      clear hm0 hkK hq
      go_wp2
      go_end0
      exact ⟨rfl, L, hH, hLb.out, hgr⟩

set_option maxHeartbeats 4000000 in
theorem sum_any (ty n o : Nat) (A B : List Value) (lo g : Nat) (S : List Nat) (L : List Int) (W : List Nat) (w : World) (hS : ∀ x ∈ S, x < 4294967296) (h : HashIn ty n o A B w lo g S L W) :
    Calls Tryz.prog 141 #[.pointer (some ⟨g, o, none⟩)] w fun e w' => ∃ p c, e = .returned (.slice p 32 c) ∧ Own 5 w' w.heap.size w'.heap.size (.slice p 32 c) 32 (bytesL true (natsL S)) ∧ Below w.heap.size w w' := by
  have CW := hashWords_any ty n o A B lo g S L W w hS h
  have hl8 : (natsL S).length = 8 := by rw [natsL_length, h.1]
  go_enter Tryz.func141, Tryz.ntmps141
  go_wp2_with (fail)
  refine CW.mono ?_
  rintro e w5 ⟨p5, c5, rfl, r5, b5⟩
  clear CW
  go_wp2_with (fail)
  refine (implWordBytes_any p5 8 c5 true (natsL S) _ (by omega) hl8 r5.ints).mono ?_
  rintro e w6 ⟨p6, c6, rfl, r6, b6⟩
  go_wp2
  go_ret
  have hs2 := b5.size
  exact ⟨_, _, rfl, ⟨owns_mono r6.1 (by omega), r6.2⟩, below_on b5 b6⟩

end Go.Proofs.YthfnechcddmjkaaGreatDoor
