/-
  A part of the proof.
-/
import Derived.Test.YtnpffnhiefgglaaGreatDoorParw25
import Derived.Deep.WholeRow
import Derived.Test.YtnpffnhiefgglaaGreatDoorParw17
import Derived.Test.YtnpffnhiefgglaaGreatDoorParw16
import Derived.Test.YtnpffnhiefgglaaGreatDoorParw15
import Derived.Deep.RegionHeld3
import Derived.Test.YtnpffnhiefgglaaGreatDoorParw14
import Derived.Test.YtnpffnhiefgglaaGreatDoorParw11
import Derived.Lib.MakeNoZero
import Derived.Lib.SlBuf
import Derived.BigRegion
namespace Go.Proofs.YtnpffnhiefgglaaGreatDoor
open Go.RowKit
set_option maxRecDepth 100000
def zero64 : List Nat := List.replicate 64 0
def zeroL : List Int := List.replicate 64 0
theorem infoHash : (Tryz.prog.info? 168).map (fun i => (i.zero, i.size)) = some (some (.agg (hashC (List.replicate 8 0) zeroL zero64).toArray), 136) := by kernel_rfl
theorem hash_made (w : World) (lo : Nat) (S : List Nat) (L : List Int) (W : List Nat) (h1 : S.length = 8) (h2 : L.length = 64) (h3 : W.length = 64) (hlo : lo ≤ w.heap.size) :
    HashIs (w.alloc (.cells (hashC S L W).toArray 168)) lo w.heap.size S L W := by
  have hl : (hashC S L W).length = 136 := hashC_length h1 h2 h3
  refine ⟨h1, h2, h3, rfl, by simpa using hl, .inr ⟨w.heap.size, 136, _, rfl, hlo, heap_alloc_new w _, Nat.le_refl _, by unfold maxLen; omega, by simp [hl], ?_⟩⟩
  rw [List.take_of_length_le (by simp [hl])]
  simp
theorem hashC_one (S : List Nat) (L : List Int) (W : List Nat) : ∀ v ∈ hashC S L W, v.oneCell' = true := by
  intro v hv
  simp only [hashC, List.mem_append] at hv
  rcases hv with hv | hv | hv
  · exact u32L_one _ v hv
  · exact u8L_one _ v hv
  · exact u32L_one _ v hv
theorem HashIn.put {ty n o : Nat} {A B : List Value} {w : World} {lo g : Nat} {S S' : List Nat} {L L' : List Int} {W W' : List Nat} (h : HashIn ty n o A B w lo g S L W) (h1 : S'.length = 8) (h2 : L'.length = 64) (h3 : W'.length = 64) :
    HashIn ty n o A B (w.setCells g o (hashC S' L' W')) lo g S' L' W' ∧ w.grownBy (w.setCells g o (hashC S' L' W')) (some g) := by
  obtain ⟨k1, k2, k3, k5, k4⟩ := h
  have h5 := owns_put (hashC S' L' W') o w _ k4
  have e := putL_mid A (hashC S L W) B (hashC S' L' W') (by rw [hashC_length h1 h2 h3, hashC_length k1 k2 k3])
  rw [k5] at e
  rw [e] at h5
  exact ⟨⟨h1, h2, h3, k5, h5.1⟩, h5.2⟩
theorem HashIn.range {ty n o : Nat} {A B : List Value} {w : World} {lo g : Nat} {S : List Nat} {L : List Int} {W : List Nat} (h : HashIn ty n o A B w lo g S L W) : w.rangeAt g o (hashC S L W) := by
  intro j v hv
  have hj : j < 136 := by have := (List.getElem?_eq_some_iff.1 hv).1; rw [hashC_length h.1 h.2.1 h.2.2.1] at this; exact this
  rw [h.cell j hj, hv]
theorem cell_grown {w w' : World} {r : Nat} {p : Addr} (h : w.grownBy w' (some r)) (h1 : p.block < w.heap.size) (h2 : p.block ≠ r) : w'.cell? p = w.cell? p := by
  simp only [World.cell?, h.block p.block h1 (by simp; exact h2)]
theorem HashIn.kept {ty n o : Nat} {A B : List Value} {w w' : World} {lo g r : Nat} {S : List Nat} {L : List Int} {W : List Nat} (h : HashIn ty n o A B w lo g S L W) (hg : w.grownBy w' (some r)) (hne : g ≠ r) : HashIn ty n o A B w' lo g S L W :=
  ⟨h.1, h.2.1, h.2.2.1, h.2.2.2.1, h.2.2.2.2.kept hg (.inr (by simp [Value.ownBlock]; exact fun e => hne e))⟩
theorem HashIn.setState {ty n o : Nat} {A B : List Value} {w : World} {lo g : Nat} {S : List Nat} {L : List Int} {W : List Nat} (h : HashIn ty n o A B w lo g S L W) (k u : Nat) (hk : k < 8) :
    HashIn ty n o A B (w.setCell ⟨g, o + k, none⟩ (.int .u32 (u : Int))) lo g (S.set k u) L W ∧ w.grownBy (w.setCell ⟨g, o + k, none⟩ (.int .u32 (u : Int))) (some g) := by
  obtain ⟨k1, k2, k3, k5, k4⟩ := h
  have st := k4.stored (o + k) (.int .u32 (u : Int))
  rw [winC_set k5 _ _ _ _ _ (by omega)] at st
  exact ⟨⟨by simpa using k1, k2, k3, k5, st.1⟩, st.2⟩
set_option maxHeartbeats 2400000 in
theorem newHash_any (p : Option Addr) (c : Nat) (ys : List Int) (w : World) (hy : ys.length = 8) (h : IntsIn w p 8 ys) :
    Calls Tryz.prog 184 #[.slice p 8 c] w fun e w' => e = .returned (.agg (hashC (wordsN ys) zeroL zero64).toArray) ∧ Below w.heap.size w w' := by
  have hz := (zero_of_info infoHash).1
  have hsz0 := (zero_of_info infoHash).2
  have m1 := fun X : World => hash_made X w.heap.size (List.replicate 8 0) zeroL zero64 rfl (by simp [zeroL]) (by simp [zero64])
  obtain ⟨b, o, rfl, hc⟩ := h (by omega)
  have hblt : b < w.heap.size := World.block_lt_of_cell? w ⟨b, o + 0, none⟩ (hc 0 (by omega))
  have hwl : (wordsN ys).length = 8 := by rw [wordsN_length, hy]
  obtain ⟨Z, hZ⟩ : ∃ Z, Z = (hashC (List.replicate 8 0) zeroL zero64).toArray := ⟨_, rfl⟩
  rw [← hZ] at hz
  simp only [← hZ] at m1
  clear hZ
  go_enter Tryz.func184, Tryz.ntmps184
  go_wp2_with (fail)
  have h2 := m1 w (Nat.le_refl _)
  have ba : Below w.heap.size w (w.alloc (.cells Z 168)) := (Below.refl _ _).alloc (Nat.le_refl _) _
  have sa : (w.alloc (.cells Z 168)).heap.size = w.heap.size + 1 := by simp
  generalize w.alloc (.cells Z 168) = wa at h2 ba sa ⊢
  have h3 := m1 wa (by omega)
  have bb : Below wa.heap.size wa (wa.alloc (.cells Z 168)) := (Below.refl _ _).alloc (Nat.le_refl _) _
  generalize wa.alloc (.cells Z 168) = wb at h3 bb ⊢
  rw [sa] at h3
  replace h2 := h2.below bb
  have bel := below_on ba bb
  have hsb := bel.size
  have HC : Hid (∀ i, i < 8 → wb.cell? ⟨b, o + i, none⟩ = some (.int .i64 (ys.getD i 0))) := fun i hi => (bel.cell (p := ⟨b, o + i, none⟩) hblt).trans (hc i hi)
  clear ba bb sa hc h hz m1
  obtain ⟨B3, hB3⟩ : ∃ B3, B3 = w.heap.size + 1 := ⟨_, rfl⟩
  rw [← hB3] at h3 ⊢
  have hne : w.heap.size ≠ B3 := by omega
  have hbne : b ≠ B3 := by omega
  have hge : w.heap.size ≤ B3 := by omega
  have hbb : b < wb.heap.size := by omega
  clear hB3
  go_loopw [8] (fun i wr => ∃ k : Nat, k ≤ 8 ∧ i = .int .i64 k ∧ HashIs wr w.heap.size B3 (mixS (wordsN ys) (List.replicate 8 0) k) zeroL zero64 ∧ wb.grownBy wr (some B3))
    (fun i _ => 8 - (intOf i).toNat)
  case atStart => exact ⟨0, by omega, rfl, by simpa [mixS] using h3, World.grownBy.refl _ _⟩
  case round =>
    clear h3
    obtain ⟨k, hk, rfl, hH, hgr⟩ := hrel
    by_cases hlt : k < 8
    · have cy := (cell_grown (p := ⟨b, o + k, none⟩) hgr hbb hbne).trans (HC.out k hlt)
      have cold := hH.state k hlt
      have hfr := hH.frozen k
      have st := hH.setState k (wordN (ys.getD k 0)) hlt
      rw [mixS_set hwl (by simp) k hlt _ (wordsN_getD ys k).symm, Nat.zero_add] at st
      rw [Nat.zero_add] at cold
      have hwe := wordN_eq (ys.getD k 0)
      generalize (mixS (wordsN ys) (List.replicate 8 0) k).getD k 0 = old at cold
      generalize wordN (ys.getD k 0) = u at st hwe
      generalize ys.getD k 0 = y at cy hwe
      have mu : y % 4294967296 = (u : Int) := hwe.symm
      have wu : IntKind.u32.wrap y = (u : Int) := by rw [IntKind.wrap_u32]; exact mu
      have hgr' := grown_trans hgr st.2
      have st' := st.1
      clear st hH hgr hwe
      go_wp2
      go_roundw
      case rel => exact ⟨k + 1, by omega, by go_num, st', hgr'⟩
      case measure => simp [intOf]; omega
    · have hfin : mixS (wordsN ys) (List.replicate 8 0) k = wordsN ys := by simp [mixS, show k = 8 by omega, List.take_of_length_le (show (wordsN ys).length ≤ 8 by omega)]
      rw [hfin] at hH
      clear hfin
      have hra := hH.range
      have hk2 := h2.kept hgr hne
      have hl : (hashC (wordsN ys) zeroL zero64).length = 136 := by simp [hashC, u32L, u8L, hwl, zeroL, zero64]
      have hsz : (Tryz.prog.info? 168).map (·.size) = some (hashC (wordsN ys) zeroL zero64).length := by rw [hl]; exact hsz0
      have hsz2 : (Tryz.prog.info? 168).map (·.size) = some (hashC (wordsN ys) zeroL zero64).toArray.size := by simpa using hsz
      have hth2 : wr.there w.heap.size 0 (hashC (wordsN ys) zeroL zero64).toArray.size := by rw [show (hashC (wordsN ys) zeroL zero64).toArray.size = 136 by simpa using hl]; exact hk2.there 0 136 (by omega)
      have hp := hk2.put hH.1 hH.2.1 hH.2.2.1
      have hbel : Below w.heap.size w (wr.setCells w.heap.size 0 (hashC (wordsN ys) zeroL zero64)) := (bel.grown hgr hsb (fun k hk => by cases hk; exact hge)).grown hp.2 (Nat.le_trans hsb hgr.size) (fun k hk => by cases hk; exact Nat.le_refl _)
      have hld := run_loadVar_mid (P := Tryz.prog) _ w.heap.size 0 168 _ _ hp.1.range Tryz.underlying168 rfl hsz
      have hone := hashC_one (wordsN ys) zeroL zero64
      obtain ⟨Cs, hCs⟩ : ∃ Cs, Cs = hashC (wordsN ys) zeroL zero64 := ⟨_, rfl⟩
      rw [← hCs] at hra hsz hsz2 hth2 hbel hld hone
      replace hCs : Hid (Cs = hashC (wordsN ys) zeroL zero64) := hCs
      clear hp hk2 hH hgr hl h2
      go_wp2_with (first | (refine wpList_load_mid rfl 168 _ rfl B3 0 rfl Cs _ hra Tryz.underlying168 rfl hsz ?_) | (refine wpList_store_mid rfl 168 _ _ rfl w.heap.size 0 Cs.toArray rfl rfl hth2 hsz2 (all_oneCell_toArray hone) ?_))
      (try simp only [Exit.inBlock, Exit.then])
      refine bodyPost_ret (v := .agg Cs.toArray) ?_ rfl ⟨by rw [hCs.out], hbel⟩
      simp [results, asAddr, Act.put, hld]
theorem index8 (s0 s1 s2 s3 s4 s5 s6 s7 : Nat) (k : Nat) (hk : k < 8) (w : World) :
    (Instr.index 163 (.agg #[.int .u32 (s0 : Int), .int .u32 (s1 : Int), .int .u32 (s2 : Int), .int .u32 (s3 : Int), .int .u32 (s4 : Int), .int .u32 (s5 : Int), .int .u32 (s6 : Int), .int .u32 (s7 : Int)]) (.int .i64 (k : Int))).run Tryz.prog w = .ok (.int .u32 (([s0, s1, s2, s3, s4, s5, s6, s7].getD k 0 : Nat) : Int)) w := by
  have i0 : ∀ w : World, (Instr.index 163 (.agg #[.int .u32 (s0 : Int), .int .u32 (s1 : Int), .int .u32 (s2 : Int), .int .u32 (s3 : Int), .int .u32 (s4 : Int), .int .u32 (s5 : Int), .int .u32 (s6 : Int), .int .u32 (s7 : Int)]) (.int .i64 0)).run Tryz.prog w = .ok (.int .u32 (s0 : Int)) w := fun _ => by kernel_rfl
  have i1 : ∀ w : World, (Instr.index 163 (.agg #[.int .u32 (s0 : Int), .int .u32 (s1 : Int), .int .u32 (s2 : Int), .int .u32 (s3 : Int), .int .u32 (s4 : Int), .int .u32 (s5 : Int), .int .u32 (s6 : Int), .int .u32 (s7 : Int)]) (.int .i64 1)).run Tryz.prog w = .ok (.int .u32 (s1 : Int)) w := fun _ => by kernel_rfl
  have i2 : ∀ w : World, (Instr.index 163 (.agg #[.int .u32 (s0 : Int), .int .u32 (s1 : Int), .int .u32 (s2 : Int), .int .u32 (s3 : Int), .int .u32 (s4 : Int), .int .u32 (s5 : Int), .int .u32 (s6 : Int), .int .u32 (s7 : Int)]) (.int .i64 2)).run Tryz.prog w = .ok (.int .u32 (s2 : Int)) w := fun _ => by kernel_rfl
  have i3 : ∀ w : World, (Instr.index 163 (.agg #[.int .u32 (s0 : Int), .int .u32 (s1 : Int), .int .u32 (s2 : Int), .int .u32 (s3 : Int), .int .u32 (s4 : Int), .int .u32 (s5 : Int), .int .u32 (s6 : Int), .int .u32 (s7 : Int)]) (.int .i64 3)).run Tryz.prog w = .ok (.int .u32 (s3 : Int)) w := fun _ => by kernel_rfl
  have i4 : ∀ w : World, (Instr.index 163 (.agg #[.int .u32 (s0 : Int), .int .u32 (s1 : Int), .int .u32 (s2 : Int), .int .u32 (s3 : Int), .int .u32 (s4 : Int), .int .u32 (s5 : Int), .int .u32 (s6 : Int), .int .u32 (s7 : Int)]) (.int .i64 4)).run Tryz.prog w = .ok (.int .u32 (s4 : Int)) w := fun _ => by kernel_rfl
  have i5 : ∀ w : World, (Instr.index 163 (.agg #[.int .u32 (s0 : Int), .int .u32 (s1 : Int), .int .u32 (s2 : Int), .int .u32 (s3 : Int), .int .u32 (s4 : Int), .int .u32 (s5 : Int), .int .u32 (s6 : Int), .int .u32 (s7 : Int)]) (.int .i64 5)).run Tryz.prog w = .ok (.int .u32 (s5 : Int)) w := fun _ => by kernel_rfl
  have i6 : ∀ w : World, (Instr.index 163 (.agg #[.int .u32 (s0 : Int), .int .u32 (s1 : Int), .int .u32 (s2 : Int), .int .u32 (s3 : Int), .int .u32 (s4 : Int), .int .u32 (s5 : Int), .int .u32 (s6 : Int), .int .u32 (s7 : Int)]) (.int .i64 6)).run Tryz.prog w = .ok (.int .u32 (s6 : Int)) w := fun _ => by kernel_rfl
  have i7 : ∀ w : World, (Instr.index 163 (.agg #[.int .u32 (s0 : Int), .int .u32 (s1 : Int), .int .u32 (s2 : Int), .int .u32 (s3 : Int), .int .u32 (s4 : Int), .int .u32 (s5 : Int), .int .u32 (s6 : Int), .int .u32 (s7 : Int)]) (.int .i64 7)).run Tryz.prog w = .ok (.int .u32 (s7 : Int)) w := fun _ => by kernel_rfl
  have h8 : k = 0 ∨ k = 1 ∨ k = 2 ∨ k = 3 ∨ k = 4 ∨ k = 5 ∨ k = 6 ∨ k = 7 := by omega
  rcases h8 with rfl | rfl | rfl | rfl | rfl | rfl | rfl | rfl
  · exact i0 w
  · exact i1 w
  · exact i2 w
  · exact i3 w
  · exact i4 w
  · exact i5 w
  · exact i6 w
  · exact i7 w
set_option maxHeartbeats 2400000 in
theorem hashWords_any (ty n o : Nat) (A B : List Value) (lo g : Nat) (S : List Nat) (L : List Int) (W : List Nat) (w : World) (hS : ∀ x ∈ S, x < 4294967296) (h : HashIn ty n o A B w lo g S L W) :
    Calls Tryz.prog 212 #[.pointer (some ⟨g, o, none⟩)] w fun e w' => ∃ p c, e = .returned (.slice p 8 c) ∧ OwnI 3 w' w.heap.size w'.heap.size (.slice p 8 c) 8 (natsL S) ∧ Below w.heap.size w w' := by
  obtain ⟨i0, hi, hz0, hz1, hz2⟩ := info_parts infoInt
  have hSl := h.1
  have hSe : Hid (S = [S.getD 0 0, S.getD 1 0, S.getD 2 0, S.getD 3 0, S.getD 4 0, S.getD 5 0, S.getD 6 0, S.getD 7 0]) := (stOf_list hSl).symm
  have hx := index8 (S.getD 0 0) (S.getD 1 0) (S.getD 2 0) (S.getD 3 0) (S.getD 4 0) (S.getD 5 0) (S.getD 6 0) (S.getD 7 0)
  rw [← hSe.out] at hx
  have HG : Hid (∀ X, Below w.heap.size w X → X.cell? ⟨g, o, none⟩ = some (.int .u32 ((S.getD 0 0 : Nat) : Int)) ∧ X.cell? ⟨g, o + 1, none⟩ = some (.int .u32 ((S.getD 1 0 : Nat) : Int)) ∧ X.cell? ⟨g, o + 2, none⟩ = some (.int .u32 ((S.getD 2 0 : Nat) : Int)) ∧ X.cell? ⟨g, o + 3, none⟩ = some (.int .u32 ((S.getD 3 0 : Nat) : Int)) ∧ X.cell? ⟨g, o + 4, none⟩ = some (.int .u32 ((S.getD 4 0 : Nat) : Int)) ∧ X.cell? ⟨g, o + 5, none⟩ = some (.int .u32 ((S.getD 5 0 : Nat) : Int)) ∧ X.cell? ⟨g, o + 6, none⟩ = some (.int .u32 ((S.getD 6 0 : Nat) : Int)) ∧ X.cell? ⟨g, o + 7, none⟩ = some (.int .u32 ((S.getD 7 0 : Nat) : Int))) := by
    intro X hX
    have k := h.below hX
    exact ⟨k.state 0 (by omega), k.state 1 (by omega), k.state 2 (by omega), k.state 3 (by omega), k.state 4 (by omega), k.state 5 (by omega), k.state 6 (by omega), k.state 7 (by omega)⟩
  clear hSe
  generalize S.getD 0 0 = s0 at hx HG
  generalize S.getD 1 0 = s1 at hx HG
  generalize S.getD 2 0 = s2 at hx HG
  generalize S.getD 3 0 = s3 at hx HG
  generalize S.getD 4 0 = s4 at hx HG
  generalize S.getD 5 0 = s5 at hx HG
  generalize S.getD 6 0 = s6 at hx HG
  generalize S.getD 7 0 = s7 at hx HG
  replace hx : Hid (∀ k : Nat, k < 8 → ∀ w : World, (Instr.index 163 (.agg #[.int .u32 (s0 : Int), .int .u32 (s1 : Int), .int .u32 (s2 : Int), .int .u32 (s3 : Int), .int .u32 (s4 : Int), .int .u32 (s5 : Int), .int .u32 (s6 : Int), .int .u32 (s7 : Int)]) (.int .i64 (k : Int))).run Tryz.prog w = .ok (.int .u32 ((S.getD k 0 : Nat) : Int)) w) := hx
  go_enter Tryz.func212, Tryz.ntmps212
  go_wp2_with (at_make; refine wpList_make_full _ rfl _ _ 52 rfl w.heap.size 3 i0 (.int .i64 0) 1 Tryz.underlying52 hi hz0 hz1 _ _ _ _ 8 rfl rfl rfl rfl (by rw [hz2]; omega) (by unfold maxLen; omega) (Nat.le_refl _) ?_)
  intro w1 hown hgrow
  have bel : Below w.heap.size w w1 := (Below.refl _ _).grown hgrow (Nat.le_refl _) (fun _ h => by cases h)
  have hown0 : w1.ownsRow w.heap.size 3 1 (.slice (some ⟨w.heap.size, 0, none⟩) 8 8) 8 (((natsL S).take 0 ++ List.replicate (8 - 0) 0).map (Value.int .i64)) := by
    rw [← fill_startI (natsL S) 8]
    exact hown
  clear hown hgrow
  obtain ⟨e0, e1, e2, e3, e4, e5, e6, e7⟩ := HG.out w1 bel
  go_wp2_with (fail)
  clear e0 e1 e2 e3 e4 e5 e6 e7 HG
  have hnl : (natsL S).length = 8 := by rw [natsL_length, hSl]
  go_loopw [11] (fun i wr => ∃ k : Nat, k ≤ 8 ∧ i = .int .i64 k ∧ wr.ownsRow w.heap.size 3 1 (.slice (some ⟨w.heap.size, 0, none⟩) 8 8) 8 (((natsL S).take k ++ List.replicate (8 - k) 0).map (Value.int .i64)) ∧ Below w.heap.size w wr)
    (fun i _ => 8 - (intOf i).toNat)
  case atStart => exact ⟨0, by omega, rfl, hown0, bel⟩
  case round =>
    clear hown0 bel
    obtain ⟨k, hk, rfl, hown, hbel⟩ := hrel
    by_cases hlt : k < 8
    · have hix := hx.out k hlt
      have la := getD_lt hS (by decide) k
      have hu := natsL_getD S k
      have st := hown.stored k (.int .i64 ((S.getD k 0 : Nat) : Int))
      rw [fill_stepI (natsL S) 8 k _ hu.symm hlt hnl] at st
      have hfr := hown.frozenAt k
      have hold : wr.cell? ⟨w.heap.size, k, none⟩ = some (.int .i64 0) := by rw [hown.cellAt k (by omega), fill_oldI _ _ _ hlt hnl]
      generalize S.getD k 0 = a at hix la st
      have ma : IntKind.i64.wrap (a : Int) = (a : Int) := by rw [IntKind.wrap_i64]; omega
      have hb' := hbel.grown st.2 hbel.size (fun k hk => by cases hk; exact Nat.le_refl _)
      have st' := st.1
      clear st hown hu hbel
      go_wp2
      go_roundw
      case rel => exact ⟨k + 1, by omega, by go_num, st', hb'⟩
      case measure => simp [intOf]; omega
    · have hk8 : k = 8 := by omega
      have hfin : ((natsL S).take k ++ List.replicate (8 - k) 0) = natsL S := by rw [hk8]; exact fill_end (natsL S) 8 hnl
      rw [hfin] at hown
      clear hfin hk8
      go_wp2
      go_ret
      exact ⟨_, _, rfl, .of hown, hbel⟩
theorem zeroL_byte : ∀ x ∈ zeroL, 0 ≤ x ∧ x < 256 := by
  intro x hx
  have := List.eq_of_mem_replicate hx
  omega
theorem zeroL_spread : spreadN (wsOf zeroL) = zero64 := by
  rw [show wsOf zeroL = List.replicate 16 0 by decide]
  exact spreadN_zero
def sliceLen : Value → Nat
  | .slice _ m _ => m
  | _ => 0
def foldF (S : List Nat) (zs : List Int) : Nat → List Nat
  | 0 => S
  | k + 1 => blockN (wsOf ((zs.drop (64 * k)).take 64)) (foldF S zs k)
theorem foldF_lt {S : List Nat} (hS : ∀ x ∈ S, x < 4294967296) (zs : List Int) (k : Nat) : ∀ x ∈ foldF S zs k, x < 4294967296 := by
  cases k with
  | zero => exact hS
  | succ k => exact blockN_lt _ _
theorem foldF_length {S : List Nat} (hS : S.length = 8) (zs : List Int) (k : Nat) : (foldF S zs k).length = 8 := by
  cases k with
  | zero => exact hS
  | succ k => exact blockN_length _ _
theorem part_byte {zs : List Int} (hb : ∀ x ∈ zs, 0 ≤ x ∧ x < 256) (k : Nat) : ∀ x ∈ (zs.drop k).take 64, 0 ≤ x ∧ x < 256 := fun x hx => hb x (List.mem_of_mem_drop (List.mem_of_mem_take hx))
set_option maxHeartbeats 4000000 in
theorem takeAll_any (ty n o : Nat) (A B : List Value) (lo g : Nat) (S : List Nat) (L0 zs : List Int) (p : Option Addr) (M c K : Nat) (w : World) (hS : ∀ x ∈ S, x < 4294967296) (hL0 : ∀ x ∈ L0, 0 ≤ x ∧ x < 256) (hzl : zs.length = M) (hzb : ∀ x ∈ zs, 0 ≤ x ∧ x < 256) (hM : M = 64 * K) (hM2 : M ≤ 1048576) (hcap : M ≤ c)
    (h : HashIn ty n o A B w lo g S L0 (spreadN (wsOf L0))) (hKey : KeysIs w) (hlo : 2 < lo) (hin : BytesIn w p M zs) (hne : ∀ b q, p = some ⟨b, q, none⟩ → b ≠ g) :
    Calls Tryz.prog 188 #[.pointer (some ⟨g, o, none⟩), .slice p M c] w fun e w' => e = .returned (.tuple #[]) ∧ ∃ L, HashIn ty n o A B w' lo g (foldF S zs K) L (spreadN (wsOf L)) ∧ (∀ x ∈ L, 0 ≤ x ∧ x < 256) ∧ w.grownBy w' (some g) := by
  have hg := h.lt
  have hMK : Hid (M = 64 * K) := hM
  clear hM
  obtain ⟨g3, o3, hp3, hc3⟩ : ∃ g3 o3, (0 < M → p = some ⟨g3, o3, none⟩ ∧ g3 ≠ g ∧ g3 < w.heap.size) ∧ ∀ i, i < M → w.cell? ⟨g3, o3 + i, none⟩ = some (.int .u8 (zs.getD i 0)) := by
    rcases Nat.eq_zero_or_pos M with h0 | h0
    · exact ⟨0, 0, fun hp => absurd hp (by omega), fun i hi => absurd hi (by omega)⟩
    · obtain ⟨b, q, e1, e2⟩ := hin h0
      exact ⟨b, q, fun _ => ⟨e1, hne b q e1, World.block_lt_of_cell? w ⟨b, q + 0, none⟩ (e2 0 h0)⟩, e2⟩
  have HP : Hid (0 < M → p = some ⟨g3, o3, none⟩ ∧ g3 ≠ g ∧ g3 < w.heap.size) := hp3
  have HC : Hid (∀ i, i < M → w.cell? ⟨g3, o3 + i, none⟩ = some (.int .u8 (zs.getD i 0))) := hc3
  have hK3 : Hid (∀ X, w.grownBy X (some g) → KeysIs X) := fun X hX t ht => (cell_grown (p := ⟨2, t, none⟩) hX (show 2 < w.heap.size by omega) (show 2 ≠ g by omega)).trans (hKey t ht)
  clear hp3 hc3 hin hne hKey
  have hq0 : Hid (0 < M → p = some ⟨g3, o3 + 64 * 0, none⟩) := fun hp => (HP.out hp).1
  go_enter Tryz.func188, Tryz.ntmps188
  go_wp2_with (fail)
  go_loopw [4] (fun v wr => ∃ (k m : Nat) (q : Option Addr) (cc : Nat) (L : List Int), k ≤ K ∧ Hid (m + 64 * k = M) ∧ v = .slice q m cc ∧ m ≤ cc ∧ Hid (0 < m → q = some ⟨g3, o3 + 64 * k, none⟩) ∧ HashIn ty n o A B wr lo g (foldF S zs k) L (spreadN (wsOf L)) ∧ Hid (∀ x ∈ L, 0 ≤ x ∧ x < 256) ∧ w.grownBy wr (some g))
    (fun v _ => sliceLen v)
  case atStart => exact ⟨0, M, p, c, L0, by omega, rfl, rfl, hcap, hq0, h, hL0, World.grownBy.refl _ _⟩
  case round =>
    clear h hq0
    obtain ⟨k, m, q, cc, L, hk, hm, rfl, hcc, hq, hH, hLb, hgr⟩ := hrel
    by_cases hlt : k < K
    · have hm64 : 64 ≤ m := by have := hm.out; have := hMK.out; omega
      obtain rfl := hq.out (by omega)
      have hml := hm.out
      obtain ⟨-, hgne, hglt⟩ := HP.out (by omega)
      have hX : ((zs.drop (64 * k)).take 64).length = 64 := by simp [hzl]; omega
      have hXb := part_byte hzb (64 * k)
      have hra : wr.rangeAt g3 (o3 + 64 * k) (u8L ((zs.drop (64 * k)).take 64)) := fun i v hv => by
        have hi : i < 64 := by have := (List.getElem?_eq_some_iff.1 hv).1; simp [u8L] at this; omega
        have hci := HC.out (64 * k + i) (by omega)
        rw [Nat.add_assoc, cell_grown (p := ⟨g3, o3 + (64 * k + i), none⟩) hgr hglt hgne, hci, ← hv]
        simp [u8L, hi, List.getElem?_eq_getElem (show 64 * k + i < zs.length by omega)]
      have hsz8 : (Tryz.prog.info? 165).map (·.size) = some (u8L ((zs.drop (64 * k)).take 64)).length := by rw [infoBlk]; simp [u8L, hzl]; omega
      have CT := take_any ty n o A B lo g (foldF S zs k) L ((zs.drop (64 * k)).take 64) wr (foldF_lt hS zs k) hLb.out hX hXb hH (hK3.out _ hgr) hlo
      replace CT : Calls Tryz.prog 186 #[.pointer (some ⟨g, o, none⟩), .agg (u8L ((zs.drop (64 * k)).take 64)).toArray] wr fun e w' => e = .returned (.tuple #[]) ∧ HashIn ty n o A B w' lo g (foldF S zs (k + 1)) ((zs.drop (64 * k)).take 64) (spreadN (wsOf ((zs.drop (64 * k)).take 64))) ∧ wr.grownBy w' (some g) := CT
      replace hXb : Hid (∀ x ∈ (zs.drop (64 * k)).take 64, 0 ≤ x ∧ x < 256) := hXb
      generalize (zs.drop (64 * k)).take 64 = X at hra hsz8 CT hXb
      obtain ⟨j, hj⟩ : ∃ j, o3 + 64 * k = j := ⟨_, rfl⟩
      rw [hj] at hra ⊢
      replace hj : Hid (o3 + 64 * k = j) := hj
      have hat : ∀ w, (Instr.arrayAt 165 (.slice (some ⟨g3, j, none⟩) m cc)).run Tryz.prog w = .ok (.pointer (some ⟨g3, j, none⟩)) w := fun w => run_arrayAt w 165 _ 64 _ m cc Tryz.underlying165 hm64
      have hm0 : (0 : Int) < (m : Int) := by omega
      obtain ⟨q', hq', hsl⟩ : ∃ q', Hid (64 < m → q' = some ⟨g3, j + 64, none⟩) ∧ ∀ W, (Instr.slice 22 (.slice (some ⟨g3, j, none⟩) m cc) (some (.int .i64 64)) none none).run Tryz.prog W = .ok (.slice q' (m - 64) (cc - 64)) W := by
        refine ⟨if cc = 64 then some ⟨g3, j, none⟩ else some ⟨g3, j + 64, none⟩, fun h64 => if_neg (by omega), fun W => ?_⟩
        have ht' : Tryz.prog.underlying 22 = some (.slice (Tryz.prog.elem 22)) := by simp [Program.elem, Tryz.underlying22]
        have he : Tryz.prog.elem 22 = 5 := by simp [Program.elem, Tryz.underlying22]
        obtain ⟨i0, hi, hz0, hz1, hz2⟩ := info_parts infoByte
        rw [run_slice_l W 22 _ _ _ ht' .i64 64 (by omega) (by omega), he]
        simp [sizeOf, typeInfo, hi, hz1, sliced, Addr.add]
      clear hX hq hml hH hLb hgne hglt
      go_wp2_with (refine wpList_load_mid rfl 165 _ rfl g3 j rfl (u8L X) _ hra Tryz.underlying165 rfl hsz8 ?_)
      refine CT.mono ?_
      rintro e w5 ⟨rfl, h5, g5⟩
      clear CT hra hat hsz8
      have hgr5 := grown_trans hgr g5
      go_wp2
      go_roundw
      case rel => exact ⟨k + 1, m - 64, q', cc - 64, X, by omega, by have := hm.out; rw [Hid]; omega, rfl, by omega, fun hp => by rw [show o3 + 64 * (k + 1) = j + 64 by have := hj.out; omega]; exact hq'.out (by omega), h5, hXb, hgr5⟩
      case measure => simp only [sliceLen]; omega
    · have hm0 : m = 0 := by have := hm.out; have := hMK.out; omega
      have hmz : ¬ (0 : Int) < (m : Int) := by omega
      have hkK : k = K := by omega
      rw [hkK] at hH
      clear hm0 hkK hq
      go_wp2
      go_end0
      exact ⟨rfl, L, hH, hLb.out, hgr⟩
set_option maxHeartbeats 4000000 in
theorem sum_any (ty n o : Nat) (A B : List Value) (lo g : Nat) (S : List Nat) (L : List Int) (W : List Nat) (w : World) (hS : ∀ x ∈ S, x < 4294967296) (h : HashIn ty n o A B w lo g S L W) :
    Calls Tryz.prog 190 #[.pointer (some ⟨g, o, none⟩)] w fun e w' => ∃ p c, e = .returned (.slice p 32 c) ∧ Own 5 w' w.heap.size w'.heap.size (.slice p 32 c) 32 (bytesL true (natsL S)) ∧ Below w.heap.size w w' := by
  have CW := hashWords_any ty n o A B lo g S L W w hS h
  have hl8 : (natsL S).length = 8 := by rw [natsL_length, h.1]
  go_enter Tryz.func190, Tryz.ntmps190
  go_wp2_with (fail)
  refine CW.mono ?_
  rintro e w5 ⟨p5, c5, rfl, r5, b5⟩
  clear CW
  go_wp2_with (fail)
  refine (implWordBytes_any p5 8 c5 true (natsL S) _ (by omega) hl8 r5.ints).mono ?_
  rintro e w6 ⟨p6, c6, rfl, r6, b6⟩
  go_wp2
  go_ret
  have hs2 := b5.size
  exact ⟨_, _, rfl, ⟨owns_mono r6.1 (by omega), r6.2⟩, below_on b5 b6⟩
def zerosN (n : Nat) : Nat := (64 - (n + 9) % 64) % 64
theorem zerosN_lt (n : Nat) : zerosN n < 64 := by unfold zerosN; omega
def lenL (n : Nat) : List Int := (littleL (8 * (n : Int)) 8).reverse
theorem lenL_length (n : Nat) : (lenL n).length = 8 := by simp [lenL, littleL_length]
def padN (n : Nat) : Nat := if n ≤ 4000 then n + 1 + zerosN n + 8 else 0
def padL (xs : List Int) : List Int := if xs.length ≤ 4000 then xs ++ [128] ++ List.replicate (zerosN xs.length) 0 ++ lenL xs.length else []
theorem fit8 {n : Nat} (h : n ≤ 4000) : fitN (8 * (n : Int)) 8 = 8 ∧ fitL (8 * (n : Int)) 8 = littleL (8 * (n : Int)) 8 := by
  have h : fitN (8 * (n : Int)) 8 = 8 := fit_yes ⟨by omega, by omega, by omega⟩
  exact ⟨h, by unfold fitL; rw [h]⟩
theorem implGreat8 (n : Nat) (w : World) (hn : n ≤ 4000) :
    Calls Tryz.prog 57 #[.int .i64 (8 * (n : Int)), .int .i64 8] w fun e w' => ∃ p c, e = .returned (.slice p 8 c) ∧ Own 5 w' w.heap.size w'.heap.size (.slice p 8 c) 8 (lenL n) ∧ Below w.heap.size w w' := by
  have h := implGreat_any (8 * (n : Int)) 8 w (by omega)
  rw [(fit8 hn).1, (fit8 hn).2] at h
  exact h
theorem specGreat8 (n : Nat) (w : World) (hn : n ≤ 4000) :
    Calls Tryz.prog 74 #[.int .i64 (8 * (n : Int)), .int .i64 8] w fun e w' => ∃ p c, e = .returned (.slice p 8 c) ∧ Own 5 w' w.heap.size w'.heap.size (.slice p 8 c) 8 (lenL n) ∧ Below w.heap.size w w' := by
  have h := specGreat_any (8 * (n : Int)) 8 w (by omega)
  rw [(fit8 hn).1, (fit8 hn).2] at h
  exact h
theorem padConcat (p pg : Option Addr) (n c B1 B2 z cg : Nat) (xs ys : List Int) (w w0 : World) (hx : xs.length = n) (hy : ys.length = 8) (hn : n ≤ 4000) (hz : z < 64) (hw : Below w.heap.size w w0)
    (i0 : BytesIn w0 p n xs) (i1 : BytesIn w0 (some ⟨B1, 0, none⟩) 1 [128]) (i2 : BytesIn w0 (some ⟨B2, 0, none⟩) z (List.replicate z 0)) (i3 : BytesIn w0 pg 8 ys) (gr : Nat) (hgr : w0.heap.size = gr) :
    Calls Tryz.prog 68 #[.slice (some ⟨gr, 0, none⟩) 4 4] (w0.alloc (.cells #[.slice p n c, .slice (some ⟨B1, 0, none⟩) 1 1, .slice (some ⟨B2, 0, none⟩) z z, .slice pg 8 cg] 22)) fun e w' =>
      ∃ p' c', e = .returned (.slice p' (n + 1 + z + 8) c') ∧ Own 5 w' w.heap.size w'.heap.size (.slice p' (n + 1 + z + 8) c') (n + 1 + z + 8) (xs ++ [128] ++ List.replicate z 0 ++ ys) ∧ Below w.heap.size w w' := by
  subst hgr
  have ba : Below w0.heap.size w0 (w0.alloc (.cells #[.slice p n c, .slice (some ⟨B1, 0, none⟩) 1 1, .slice (some ⟨B2, 0, none⟩) z z, .slice pg 8 cg] 22)) := (Below.refl _ _).alloc (Nat.le_refl _) _
  have hs : sumN (fun k => match k with | 0 => n | 1 => 1 | 2 => z | _ => 8) 4 = n + 1 + z + 8 := by simp [sumN]
  have hc : catL (fun k => match k with | 0 => xs | 1 => [128] | 2 => List.replicate z 0 | _ => ys) 4 = xs ++ [128] ++ List.replicate z 0 ++ ys := by simp [catL]
  have h := concat_any w0.heap.size 4 (fun k => match k with | 0 => p | 1 => some ⟨B1, 0, none⟩ | 2 => some ⟨B2, 0, none⟩ | _ => pg) (fun k => match k with | 0 => n | 1 => 1 | 2 => z | _ => 8) (fun k => match k with | 0 => c | 1 => 1 | 2 => z | _ => cg) (fun k => match k with | 0 => xs | 1 => [128] | 2 => List.replicate z 0 | _ => ys)
    (w0.alloc (.cells #[.slice p n c, .slice (some ⟨B1, 0, none⟩) 1 1, .slice (some ⟨B2, 0, none⟩) z z, .slice pg 8 cg] 22)) (by decide)
    (fun k hk => by
      rw [cell_of_row _ _ k _ _ _ (heap_alloc_new w0 _)]
      match k, hk with
      | 0, _ => rfl
      | 1, _ => rfl
      | 2, _ => rfl
      | 3, _ => rfl)
    (fun k hk => by
      match k, hk with
      | 0, _ => exact hx
      | 1, _ => rfl
      | 2, _ => exact List.length_replicate
      | 3, _ => exact hy)
    (fun k hk => by
      match k, hk with
      | 0, _ => exact in_below i0 ba
      | 1, _ => exact in_below i1 ba
      | 2, _ => exact in_below i2 ba
      | 3, _ => exact in_below i3 ba)
    (by rw [hs]; omega) (by rw [hs]; omega)
  rw [hs, hc] at h
  refine h.mono ?_
  rintro e w' ⟨p', c', rfl, r, b⟩
  have hs0 := hw.size
  exact ⟨p', c', rfl, ⟨owns_mono r.1 (by simp; omega), r.2⟩, below_on (below_on hw ba) b⟩
theorem in_128 (w : World) (ty : Nat) : BytesIn (w.alloc (.cells #[.int .u8 128] ty)) (some ⟨w.heap.size, 0, none⟩) 1 [128] := by
  intro _
  refine ⟨w.heap.size, 0, rfl, fun i hi => ?_⟩
  obtain rfl : i = 0 := by omega
  exact cell_of_row _ _ _ _ _ _ (heap_alloc_new w _)
theorem in_zeros (w : World) (ty z : Nat) : BytesIn (w.alloc (.cells (madeCells #[.int .u8 0] z) ty)) (some ⟨w.heap.size, 0, none⟩) z (List.replicate z 0) := by
  intro _
  refine ⟨w.heap.size, 0, rfl, fun i hi => ?_⟩
  rw [cell_of_row _ _ _ _ _ _ (heap_alloc_new w _)]
  have := toList_madeCells_one (.int .u8 0) z
  rw [← Array.getElem?_toList, this]
  simp [hi]
theorem in_128' (w : World) (ty B : Nat) (h : w.heap.size = B) : BytesIn (w.alloc (.cells #[.int .u8 128] ty)) (some ⟨B, 0, none⟩) 1 [128] := by
  subst h
  exact in_128 w ty
theorem in_zeros' (w : World) (ty z B : Nat) (h : w.heap.size = B) : BytesIn (w.alloc (.cells (madeCells #[.int .u8 0] z) ty)) (some ⟨B, 0, none⟩) z (List.replicate z 0) := by
  subst h
  exact in_zeros w ty z
theorem in_alloc {w : World} {p : Option Addr} {n : Nat} {xs : List Int} (h : BytesIn w p n xs) (o : Obj) : BytesIn (w.alloc o) p n xs := in_below h ((Below.refl _ _).alloc (Nat.le_refl _) _)
theorem below_alloc' {a w : World} (h : Below a.heap.size a w) (o : Obj) : Below a.heap.size a (w.alloc o) := h.alloc h.size o
theorem below_drew' {a w : World} (h : Below a.heap.size a w) : Below a.heap.size a w.drew := h.drew
theorem in_drew {w : World} {p : Option Addr} {n : Nat} {xs : List Int} (h : BytesIn w p n xs) : BytesIn w.drew p n xs := in_below h (Below.refl _ _).drew
theorem implPad_no (p : Option Addr) (n c : Nat) (w : World) (h : ¬ n ≤ 4000) :
    Calls Tryz.prog 208 #[.slice p n c] w fun e w' => e = .returned (.slice none 0 0) ∧ w' = w := by
  have c1 : (4000 : Int) < (n : Int) := by omega
  go_enter Tryz.func208, Tryz.ntmps208
  go_wp2
  go_ret
  exact ⟨rfl, rfl⟩
set_option maxHeartbeats 4000000 in
theorem specPad_any (p : Option Addr) (n c : Nat) (xs : List Int) (w : World) (hn0 : n ≤ 9223372036854775807) (hx : xs.length = n) (h : BytesIn w p n xs) :
    Calls Tryz.prog 215 #[.slice p n c] w fun e w' => ∃ p' c', e = .returned (.slice p' (padN n) c') ∧ Own 5 w' w.heap.size w'.heap.size (.slice p' (padN n) c') (padN n) (padL xs) ∧ Below w.heap.size w w' := by
  obtain ⟨i0, hi, hz0, hz1, hz2⟩ := info_parts infoByte
  unfold padN padL
  rw [hx]
  by_cases hn : n ≤ 4000
  · rw [if_pos hn, if_pos hn]
    have hzl := zerosN_lt n
    have HZ : Hid (zerosN n = (64 - (n + 9) % 64) % 64) := rfl
    have C := fun w => specGreat8 n w hn
    have hll := lenL_length n
    generalize zerosN n = Z at hzl HZ ⊢
    generalize lenL n = T at C hll ⊢
    go_enter Tryz.func215, Tryz.ntmps215
    have hown0 : (w.alloc (.cells #[] 5)).ownsRow w.heap.size 5 1 (.slice (some ⟨w.heap.size, 0, none⟩) 0 0) 0 (([] : List Int).map (Value.int .u8)) := World.ownsRow_made w #[] 0 (Nat.le_refl _) (by unfold maxLen; omega) rfl
    have hb0 : Below w.heap.size w (w.alloc (.cells #[] 5)) := (Below.refl _ _).alloc (Nat.le_refl _) _
    have h1 := in_below h hb0
    have hlen : xs.length = n := hx
    clear hx h
    go_wp2_with (first | (at_builtin; refine list_spreadA hi hz0 hz1 hz2 (.tmp 8) (.tmp 9) 22 Tryz.underlying22 hown0 h1 hlen (by omega) (by omega) (by simp) (by rfl) (by rfl) (by rfl) (by rfl) ?_; intro p1 cap1 w1 ho1 hb1; simp only [Nat.zero_add, List.nil_append] at ho1 ⊢; have hs1 : w.heap.size ≤ w1.heap.size := (hb0.trans hb1).size) | (at_builtin; refine list_push hi hz0 hz1 hz2 (.tmp 10) (.tmp 11) 22 Tryz.underlying22 _ ho1 (by omega) hs1 (by rfl) (by rfl) (by rfl) (by rfl) ?_; intro g2 cap2 w2 ho2 hb2))
    have bel2 : Below w.heap.size w w2 := (hb0.trans hb1).trans hb2
    clear hown0 hb0 h1 ho1 hb1 hb2 hs1
    go_loopw [3] (fun v wr => ∃ k m : Nat, k ≤ Z ∧ Hid (m = n + 1 + k) ∧ wr.ownsRow w.heap.size 5 1 v m ((xs ++ [128] ++ List.replicate k 0).map (Value.int .u8)) ∧ Below w.heap.size w wr)
      (fun v _ => match v with | .slice _ m _ => n + 1 + Z - m | _ => 0)
    case atStart => exact ⟨0, n + 1, by omega, rfl, by simpa using ho2, bel2⟩
    case round =>
      clear ho2 bel2
      obtain ⟨k, m, hk, hm, hown, hbel⟩ := hrel
      have hsz := hbel.size
      obtain ⟨q, cq, hv⟩ := owns_form hown
      subst hv
      have hmb : m ≤ 5000 := by have := hm.out; omega
      by_cases hlt : k < Z
      · have d1 : ((m : Int) % 64 != 56) = true := by
          have := hm.out
          have := HZ.out
          have : (m : Int) % 64 ≠ 56 := by omega
          simpa using this
        have HX : Hid (xs ++ [128] ++ List.replicate k 0 ++ [0] = xs ++ [128] ++ List.replicate (k + 1) 0) := by
          rw [Hid, List.append_assoc _ _ [0], ← List.replicate_succ']
        go_wp2_with (at_builtin; refine list_push hi hz0 hz1 hz2 (.tmp 17) (.tmp 18) 22 Tryz.underlying22 _ hown (by omega) hsz (by rfl) (by rfl) (by rfl) (by rfl) ?_; intro g3 cap3 w3 ho3 hb3; rw [HX.out] at ho3)
        go_roundw
        case rel => exact ⟨k + 1, m + 1, by omega, by have := hm.out; rw [Hid]; omega, ho3, hbel.trans hb3⟩
        case measure => have := hm.out; show n + 1 + Z - (m + 1) < n + 1 + Z - m; omega
      · obtain rfl : k = Z := by omega
        have d1 : ((m : Int) % 64 != 56) = false := by
          have := hm.out
          have := HZ.out
          have : (m : Int) % 64 = 56 := by omega
          simp [this]
        go_wp2_with (fail)
        refine (C _).mono ?_
        rintro e w3 ⟨p3, c3, rfl, r3, b3⟩
        replace hown := owns_below hown b3
        replace hbel := below_on hbel b3
        have hin := r3.bytes
        have hsz3 := hbel.size
        clear r3 b3 C
        go_wp2_with (at_builtin; refine list_spreadA hi hz0 hz1 hz2 (.tmp 20) (.tmp 24) 22 Tryz.underlying22 hown hin hll (by omega) (by omega) hsz3 (by rfl) (by rfl) (by rfl) (by rfl) ?_; intro p4 cap4 w4 ho4 hb4)
        go_ret
        rw [hm.out] at ho4 ⊢
        exact ⟨_, _, rfl, .of ho4, hbel.trans hb4⟩
  · rw [if_neg hn, if_neg hn]
    have c1 : (4000 : Int) < (n : Int) := by omega
    clear h hx
    go_enter Tryz.func215, Tryz.ntmps215
    go_wp2
    go_ret
    exact ⟨_, _, rfl, .of (World.ownsRow_made w #[] 0 (Nat.le_refl _) (by unfold maxLen; omega) rfl), (Below.refl _ _).alloc (Nat.le_refl _) _⟩
set_option maxHeartbeats 4000000 in
theorem implPad_yes (p : Option Addr) (n c : Nat) (xs : List Int) (w : World) (hx : xs.length = n) (h : BytesIn w p n xs) (hn : n ≤ 4000) :
    Calls Tryz.prog 208 #[.slice p n c] w fun e w' => ∃ p' c', e = .returned (.slice p' (n + 1 + zerosN n + 8) c') ∧ Own 5 w' w.heap.size w'.heap.size (.slice p' (n + 1 + zerosN n + 8) c') (n + 1 + zerosN n + 8) (xs ++ [128] ++ List.replicate (zerosN n) 0 ++ lenL n) ∧ Below w.heap.size w w' := by
  obtain ⟨i0, hi, hz0, hz1, hz2⟩ := info_parts infoByte
  have hzl := zerosN_lt n
  obtain ⟨ov, hov⟩ : ∃ ov : Nat, ov = (n + 9) % 64 := ⟨_, rfl⟩
  have hZ : zerosN n = (64 - ov) % 64 := by rw [hov]; rfl
  have C := fun w => implGreat8 n w hn
  have hll := lenL_length n
  generalize zerosN n = Z at hzl hZ ⊢
  generalize lenL n = T at C hll ⊢
  have r1 : ((n : Int) + 1 + 8).tmod 64 = (ov : Int) := by rw [Int.tmod_eq_emod_of_nonneg (by omega)]; omega
  have r1' : ((n : Int) + 1 + 8) % 64 = (ov : Int) := by omega
  have r2 : (64 - (ov : Int)).tmod 64 = (Z : Int) := by rw [Int.tmod_eq_emod_of_nonneg (by omega)]; omega
  have r2' : (64 - (ov : Int)) % 64 = (Z : Int) := by omega
  have hov2 : ov < 64 := by omega
  clear hov hZ
  have hmk : ∀ W : World, (Instr.makeSlice 22 (.int .i64 (Z : Int)) (.int .i64 (Z : Int))).run Tryz.prog W = .ok (.slice (some ⟨W.heap.size, 0, none⟩) Z Z) (W.alloc (.cells (madeCells #[.int .u8 0] Z) 5)) := by
    intro W
    have := run_makeSlice (P := Tryz.prog) W 22 5 i0 (.int .u8 0) Tryz.underlying22 hi hz0 .i64 .i64 Z Z (by omega) (by omega) (by rw [hz1]; simp; omega) (by rw [hz2]; omega) (by omega)
    simpa [hz1, Value.cells] using this
  have q8 : IntKind.i64.wrap (8 * (n : Int)) = 8 * (n : Int) := by rw [IntKind.wrap_i64]; omega
  clear hi hz0 hz1 hz2
  go_enter Tryz.func208, Tryz.ntmps208
  go_wp2_with (fail)
  go_region_held3 (fun _ => True) (trivial) (first | (go_at_call 57; refine (C _).mono ?_; rintro e wg ⟨pg, cg, rfl, rg, bg⟩) | (go_at_call 68; refine (padConcat _ _ n _ _ _ Z _ xs T w _ hx hll hn hzl (by repeat (with_reducible (first | exact Below.refl _ _ | refine below_alloc' ?_ _ | refine below_drew' ?_ | refine below_on ?_ bg))) (by repeat (with_reducible (first | exact rg.bytes | exact in_128' _ _ _ (by simp) | exact in_zeros' _ _ _ _ (by simp) | exact h | refine in_alloc ?_ _ | refine in_drew ?_ | refine in_below ?_ bg))) (by repeat (with_reducible (first | exact rg.bytes | exact in_128' _ _ _ (by simp) | exact in_zeros' _ _ _ _ (by simp) | exact h | refine in_alloc ?_ _ | refine in_drew ?_ | refine in_below ?_ bg))) (by repeat (with_reducible (first | exact rg.bytes | exact in_128' _ _ _ (by simp) | exact in_zeros' _ _ _ _ (by simp) | exact h | refine in_alloc ?_ _ | refine in_drew ?_ | refine in_below ?_ bg))) (by repeat (with_reducible (first | exact rg.bytes | exact in_128' _ _ _ (by simp) | exact in_zeros' _ _ _ _ (by simp) | exact h | refine in_alloc ?_ _ | refine in_drew ?_ | refine in_below ?_ bg))) _ (by simp)).mono ?_; rintro e wk ⟨pk, ck, rfl, rk, bk⟩))
  all_goals
    go_wp2
    go_ret
    exact ⟨_, _, rfl, rk, bk⟩
theorem implPad_any (p : Option Addr) (n c : Nat) (xs : List Int) (w : World) (_hn0 : n ≤ 9223372036854775807) (hx : xs.length = n) (h : BytesIn w p n xs) :
    Calls Tryz.prog 208 #[.slice p n c] w fun e w' => ∃ p' c', e = .returned (.slice p' (padN n) c') ∧ Own 5 w' w.heap.size w'.heap.size (.slice p' (padN n) c') (padN n) (padL xs) ∧ Below w.heap.size w w' := by
  unfold padN padL
  rw [hx]
  by_cases hn : n ≤ 4000
  · rw [if_pos hn, if_pos hn]
    exact implPad_yes p n c xs w hx h hn
  · rw [if_neg hn, if_neg hn]
    refine (implPad_no p n c w hn).mono ?_
    rintro e w1 ⟨rfl, rfl⟩
    exact ⟨_, _, rfl, .of (World.ownsRow_nil _ _ _ _), Below.refl _ _⟩
def startN : List Nat := [0x6a09e667, 0xbb67ae85, 0x3c6ef372, 0xa54ff53a, 0x510e527f, 0x9b05688c, 0x1f83d9ab, 0x5be0cd19]
def startL : List Int := startN.map fun (n : Nat) => (n : Int)
theorem owns_start (w : World) (ty : Nat) :
    OwnI ty (w.alloc (.cells #[.int .i64 0x6a09e667, .int .i64 0xbb67ae85, .int .i64 0x3c6ef372, .int .i64 0xa54ff53a, .int .i64 0x510e527f, .int .i64 0x9b05688c, .int .i64 0x1f83d9ab, .int .i64 0x5be0cd19] ty)) w.heap.size (w.heap.size + 1) (.slice (some ⟨w.heap.size, 0, none⟩) 8 8) 8 startL := by
  refine ⟨⟨rfl, .inr ⟨w.heap.size, 8, _, rfl, Nat.le_refl _, heap_alloc_new w _, Nat.le_refl _, by unfold maxLen; omega, rfl, rfl⟩⟩, ?_⟩
  intro k hk
  simp [Value.ownBlock] at hk
  omega
theorem specStart_any (w : World) :
    Calls Tryz.prog 216 #[] w fun e w' => ∃ p c, e = .returned (.slice p 8 c) ∧ OwnI 3 w' w.heap.size w'.heap.size (.slice p 8 c) 8 startL ∧ Below w.heap.size w w' := by
  go_enter Tryz.func216, Tryz.ntmps216
  go_wp2
  go_ret
  exact ⟨_, _, rfl, .of (owns_start w 3).1, (Below.refl _ _).alloc (Nat.le_refl _) _⟩
theorem implStart_any (w : World) :
    Calls Tryz.prog 185 #[] w fun e w' => ∃ p c, e = .returned (.slice p 8 c) ∧ OwnI 3 w' w.heap.size w'.heap.size (.slice p 8 c) 8 startL ∧ Below w.heap.size w w' := by
  go_enter Tryz.func185, Tryz.ntmps185
  go_wp2
  go_ret
  exact ⟨_, _, rfl, .of (owns_start w 3).1, (Below.refl _ _).alloc (Nat.le_refl _) _⟩
theorem startN_lt : ∀ x ∈ startN, x < 4294967296 := by decide
def foldN (zs : List Int) (k : Nat) : List Nat := foldF startN zs k
theorem foldN_lt (zs : List Int) (k : Nat) : ∀ x ∈ foldN zs k, x < 4294967296 := foldF_lt startN_lt zs k
theorem foldN_length (zs : List Int) (k : Nat) : (foldN zs k).length = 8 := foldF_length rfl zs k
theorem wordsN_nats {l : List Nat} (h : ∀ x ∈ l, x < 4294967296) : wordsN (natsL l) = l := by
  induction l with
  | nil => rfl
  | cons a l ih =>
    have ha := h a (by simp)
    have hl := ih (fun x hx => h x (by simp [hx]))
    simp only [natsL, wordsN, List.map_cons] at hl ⊢
    rw [hl]
    congr 1
    unfold wordN
    omega
theorem foldN_step (zs : List Int) (k : Nat) : blockN (wsOf ((zs.drop (64 * k)).take 64)) (wordsN (natsL (foldN zs k))) = foldN zs (k + 1) := by rw [wordsN_nats (foldN_lt zs k)]; rfl
def hashN (n : Nat) : Nat := if n ≤ 4000 then 32 else 0
def hashL (xs : List Int) : List Int := if xs.length ≤ 4000 then bytesL true (natsL (foldN (padL xs) (padN xs.length / 64))) else []
theorem padL_length (xs : List Int) : (padL xs).length = padN xs.length := by
  unfold padL padN
  split
  · simp [lenL_length]; omega
  · rfl
theorem padL_byte {xs : List Int} (hb : ∀ x ∈ xs, 0 ≤ x ∧ x < 256) : ∀ x ∈ padL xs, 0 ≤ x ∧ x < 256 := by
  intro x hx
  unfold padL at hx
  split at hx
  · simp only [List.mem_append, List.mem_singleton, lenL, littleL, List.mem_reverse, List.mem_map] at hx
    rcases hx with ((hx | hx) | hx) | ⟨i, _, rfl⟩
    · exact hb x hx
    · omega
    · have := List.eq_of_mem_replicate hx
      omega
    · omega
  · simp at hx
theorem pad64 {n : Nat} (h : n ≤ 4000) : padN n = 64 * (padN n / 64) ∧ padN n ≤ 4096 := by
  have hz : zerosN n = (64 - (n + 9) % 64) % 64 := rfl
  have : padN n = n + 1 + zerosN n + 8 := if_pos h
  omega
set_option maxHeartbeats 4000000 in
theorem specHash_yes (p : Option Addr) (n c : Nat) (xs : List Int) (w : World) (hn : n ≤ 4000) (hx : xs.length = n) (h : BytesIn w p n xs) (hb : ∀ x ∈ xs, 0 ≤ x ∧ x < 256) :
    Calls Tryz.prog 196 #[.slice p n c] w fun e w' => ∃ p' c', e = .returned (.slice p' 32 c') ∧ Own 5 w' w.heap.size w'.heap.size (.slice p' 32 c') 32 (bytesL true (natsL (foldN (padL xs) (padN n / 64)))) ∧ Below w.heap.size w w' := by
  have C := fun w h => specPad_any p n c xs w (by omega) hx h
  have hzl : (padL xs).length = padN n := by rw [padL_length, hx]
  have hzb := padL_byte hb
  obtain ⟨hM, hM2⟩ := pad64 hn
  generalize hK : padN n / 64 = K at hM ⊢
  clear hK
  generalize padN n = M at C hzl hM hM2
  generalize padL xs = zs at C hzl hzb ⊢
  have hMK : Hid (M = 64 * K) := hM
  clear hM
  go_enter Tryz.func196, Tryz.ntmps196
  go_wp2_with (fail)
  refine (C _ h).mono ?_
  rintro e w1 ⟨p1, c1, rfl, r1, b1⟩
  clear C h
  go_wp2_with (fail)
  refine (specStart_any _).mono ?_
  rintro e w2 ⟨p2, c2, rfl, r2, b2⟩
  have bel := below_on b1 b2
  have hin := (r1.on b2).bytes
  have hcap := r1.cap
  have hs0 : IntsIn w2 p2 8 (natsL (foldN zs 0)) := r2.ints
  clear r1 r2 b1 b2
  go_wp2_with (fail)
  go_loopw [4, 5] (fun v i wr => ∃ (k j : Nat) (p3 : Option Addr) (c3 : Nat), k ≤ K ∧ Hid (j = 64 * k) ∧ i = .int .i64 j ∧ v = .slice p3 8 c3 ∧ IntsIn wr p3 8 (natsL (foldN zs k)) ∧ Below w2.heap.size w2 wr)
    (fun _ i _ => M + 64 - (intOf i).toNat)
  case atStart => exact ⟨0, 0, p2, c2, by omega, rfl, rfl, rfl, hs0, Below.refl _ _⟩
  case round =>
    clear hs0
    obtain ⟨k, j, p3, c3, hk, hj, rfl, rfl, hI, hbl⟩ := hrel
    have hj2 : j ≤ M := by have := hj.out; have := hMK.out; omega
    by_cases hlt : k < K
    · have hjl : j + 64 ≤ M := by have := hj.out; have := hMK.out; omega
      have hjl2 : j + 63 < M := by omega
      obtain ⟨b, o, rfl, hc⟩ := hin (by omega)
      have hX : ((zs.drop j).take 64).length = 64 := by simp [hzl]; omega
      have hXb := part_byte hzb j
      have HQ : ∀ q, q = some ⟨b, o + j, none⟩ → BytesIn wr q 64 ((zs.drop j).take 64) := by
        intro q hq _
        refine ⟨b, o + j, hq, fun i hi => ?_⟩
        have hci := hc (j + i) (by omega)
        rw [Nat.add_assoc, hbl.cell (p := ⟨b, o + (j + i), none⟩) (World.block_lt_of_cell? w2 ⟨b, o + (j + i), none⟩ hci), hci]
        simp [List.getD, hi]
      have HF : Hid (blockN (wsOf ((zs.drop j).take 64)) (wordsN (natsL (foldN zs k))) = foldN zs (k + 1)) := by rw [Hid, hj.out]; exact foldN_step zs k
      have CB := fun q d h => specHashBlock_yes p3 q c3 d (natsL (foldN zs k)) ((zs.drop j).take 64) wr hX hI h hXb
      rw [HF.out] at CB
      clear hc HF hX hXb hI
      go_wp2_with (fail)
      refine (CB _ _ (HQ _ (by first | rfl | exact if_neg (by omega) | simp [Addr.add]))).mono ?_
      rintro e w4 ⟨p4, c4, rfl, r4, b4⟩
      clear CB HQ
      have hI4 := r4.ints
      clear r4
      go_wp2
      go_roundw
      case rel => exact ⟨k + 1, j + 64, p4, c4, by omega, by have := hj.out; rw [Hid]; omega, by go_num, rfl, hI4, below_on hbl b4⟩
      case measure => simp [intOf]; omega
    · have hkK : k = K := by omega
      have hnl : ¬ ((j : Int) + 63 < (M : Int)) := by have := hj.out; have := hMK.out; omega
      have hl8 : (natsL (foldN zs k)).length = 8 := by rw [natsL_length, foldN_length]
      have CW := fun w h => specWordBytes_any p3 8 c3 true (natsL (foldN zs k)) w (by omega) hl8 h
      rw [hkK] at CW hI
      clear hin
      go_wp2_with (fail)
      refine (CW _ hI).mono ?_
      rintro e w5 ⟨p5, c5, rfl, r5, b5⟩
      go_wp2
      go_ret
      have hs := bel.size
      have hs2 := hbl.size
      exact ⟨_, _, rfl, ⟨owns_mono r5.1 (by omega), r5.2⟩, below_on (below_on bel hbl) b5⟩
set_option maxHeartbeats 400000 in
theorem implHash_yes (p : Option Addr) (n c : Nat) (xs : List Int) (w : World) (hn : n ≤ 4000) (hx : xs.length = n) (h : BytesIn w p n xs) (hb : ∀ x ∈ xs, 0 ≤ x ∧ x < 256) (hKey : KeysIs w) :
    Calls Tryz.prog 183 #[.slice p n c] w fun e w' => ∃ p' c', e = .returned (.slice p' 32 c') ∧ Own 5 w' w.heap.size w'.heap.size (.slice p' 32 c') 32 (bytesL true (natsL (foldN (padL xs) (padN n / 64)))) ∧ Below w.heap.size w w' := by
  have C := fun w h => implPad_any p n c xs w (by omega) hx h
  have hzl : (padL xs).length = padN n := by rw [padL_length, hx]
  have hzb := padL_byte hb
  obtain ⟨hM, hM2⟩ := pad64 hn
  have hM3 : 64 ≤ padN n := by have : padN n = n + 1 + zerosN n + 8 := if_pos hn; have hz : zerosN n = (64 - (n + 9) % 64) % 64 := rfl; omega
  generalize hK : padN n / 64 = K at hM ⊢
  clear hK
  generalize padN n = M at C hzl hM hM2 hM3
  generalize padL xs = zs at C hzl hzb ⊢
  have hz := (zero_of_info infoHash).1
  have hsz0 := (zero_of_info infoHash).2
  have m1 := fun X : World => hash_made X w.heap.size (List.replicate 8 0) zeroL zero64 rfl (by simp [zeroL]) (by simp [zero64])
  have hws : wordsN startL = startN := wordsN_nats (by decide)
  have hl : (hashC startN zeroL zero64).length = 136 := by simp [hashC, u32L, u8L, startN, zeroL, zero64]
  have hsz2 : (Tryz.prog.info? 168).map (·.size) = some (hashC startN zeroL zero64).toArray.size := by rw [show (hashC startN zeroL zero64).toArray.size = 136 by simpa using hl]; exact hsz0
  have hone := hashC_one startN zeroL zero64
  obtain ⟨Z, hZ⟩ : ∃ Z, Z = (hashC (List.replicate 8 0) zeroL zero64).toArray := ⟨_, rfl⟩
  rw [← hZ] at hz
  simp only [← hZ] at m1
  clear hZ
  have hlo : 2 < w.heap.size := World.block_lt_of_cell? w ⟨2, 0, none⟩ (hKey 0 (by omega))
  have CN := fun p c X hX => newHash_any p c startL X rfl hX
  rw [hws] at CN
  obtain ⟨Cs, hCs⟩ : ∃ Cs, Cs = hashC startN zeroL zero64 := ⟨_, rfl⟩
  rw [← hCs] at CN hsz2 hone
  have hCl : Cs.toArray.size = 136 := by rw [hCs]; simpa using hl
  replace hCs : Hid (Cs = hashC startN zeroL zero64) := hCs
  clear hl hws
  go_enter Tryz.func183, Tryz.ntmps183
  go_wp2_with (fail)
  refine (implStart_any _).mono ?_
  rintro e w0 ⟨p0, c0, rfl, r0, b0⟩
  go_wp2_with (fail)
  refine (CN _ _ _ r0.ints).mono ?_
  rintro e w1 ⟨rfl, b01⟩
  have b1 := below_on b0 b01
  clear CN b0 b01 r0
  have h2 := m1 w1 b1.size
  have bA : Below w.heap.size w (w1.alloc (.cells Z 168)) := b1.alloc b1.size _
  have hth : (w1.alloc (.cells Z 168)).there w1.heap.size 0 Cs.toArray.size := by rw [hCl]; exact h2.there 0 136 (by omega)
  have hp := h2.put (show startN.length = 8 from rfl) (show zeroL.length = 64 by simp [zeroL]) (show zero64.length = 64 by simp [zero64])
  rw [← hCs.out] at hp
  have bB : Below w.heap.size w ((w1.alloc (.cells Z 168)).setCells w1.heap.size 0 Cs) := bA.grown hp.2 bA.size (fun k hk => by cases hk; exact b1.size)
  have hH := hp.1
  clear hp h2 bA m1
  go_wp2_with (refine wpList_store_mid rfl 168 _ _ rfl w1.heap.size 0 Cs.toArray rfl rfl hth hsz2 (all_oneCell_toArray hone) ?_)
  generalize (w1.alloc (.cells Z 168)).setCells w1.heap.size 0 Cs = w2 at bB hH ⊢
  refine (C _ (in_below h bB)).mono ?_
  rintro e w3 ⟨p3, c3, rfl, r3, b3⟩
  clear C h hth hz
  have bel := below_on bB b3
  have hH3 := hH.below b3
  rw [← zeroL_spread] at hH3
  have hg2 := hH.lt
  have hcap := r3.cap
  have hin := r3.bytes
  have hne : ∀ b q, p3 = some ⟨b, q, none⟩ → b ≠ w1.heap.size := fun b q e => by
    obtain ⟨g3, rfl⟩ := owns_at r3.1 (by omega)
    simp only [Option.some.injEq, Addr.mk.injEq] at e
    have := r3.1.lt g3 rfl
    omega
  have hle1 := b1.size
  have hK3 : KeysIs w3 := fun t ht => (bel.cell (p := ⟨2, t, none⟩) hlo).trans (hKey t ht)
  have CT := takeAll_any _ _ _ _ _ w.heap.size w1.heap.size startN zeroL zs p3 M c3 K w3 startN_lt zeroL_byte hzl hzb hM (by omega) hcap hH3 hK3 hlo hin hne
  generalize w1.heap.size = g at CT hg2 hle1 ⊢
  clear hH hH3 r3 b3 hsz0 hsz2 hone hCl hCs hin hne hK3 hM hM2 hM3 hzl hzb bB hKey hb hx
  go_wp2_with (fail)
  refine CT.mono ?_
  rintro e w4 ⟨rfl, L, h4, hLb, g4⟩
  clear CT
  have belr : Below w.heap.size w w4 := bel.grown g4 bel.size (fun i hi => by cases hi; exact hle1)
  rw [show foldF startN zs K = foldN zs K from rfl] at h4
  have CW := sum_any _ _ _ _ _ w.heap.size g _ L _ w4 (foldN_lt zs K) h4
  clear h4 hLb g4 bel
  go_wp2_with (fail)
  refine CW.mono ?_
  rintro e w5 ⟨p5, c5, rfl, r5, b5⟩
  go_wp2
  go_ret
  have hs := belr.size
  exact ⟨_, _, rfl, ⟨owns_mono r5.1 (by omega), r5.2⟩, below_on belr b5⟩
theorem specHash_no (p : Option Addr) (n c : Nat) (w : World) (hn : ¬ n ≤ 4000) :
    Calls Tryz.prog 196 #[.slice p n c] w fun e w' => ∃ p' c', e = .returned (.slice p' 0 c') ∧ Own 5 w' w.heap.size w'.heap.size (.slice p' 0 c') 0 [] ∧ Below w.heap.size w w' := by
  have c1 : (4000 : Int) < (n : Int) := by omega
  go_enter Tryz.func196, Tryz.ntmps196
  go_wp2
  go_ret
  exact ⟨_, _, rfl, .of (World.ownsRow_made w #[] 0 (Nat.le_refl _) (by unfold maxLen; omega) rfl), (Below.refl _ _).alloc (Nat.le_refl _) _⟩
theorem specHash_any (p : Option Addr) (n c : Nat) (xs : List Int) (w : World) (hx : xs.length = n) (h : BytesIn w p n xs) (hb : ∀ x ∈ xs, 0 ≤ x ∧ x < 256) :
    Calls Tryz.prog 196 #[.slice p n c] w fun e w' => ∃ p' c', e = .returned (.slice p' (hashN n) c') ∧ Own 5 w' w.heap.size w'.heap.size (.slice p' (hashN n) c') (hashN n) (hashL xs) ∧ Below w.heap.size w w' := by
  unfold hashN hashL
  rw [hx]
  by_cases hn : n ≤ 4000
  · rw [if_pos hn, if_pos hn]
    exact specHash_yes p n c xs w hn hx h hb
  · rw [if_neg hn, if_neg hn]
    exact specHash_no p n c w hn
structure Rep (w0 wr : World) (h bp : Nat) (x : Int) : Prop where
  below : Below h w0 wr
  there : ∀ j, j < 64 → (wr.cell? ⟨h, j, none⟩).isSome = true
  free : ∀ j, j < 64 → wr.frozen? ⟨h, j, none⟩ = false
  holds : ∀ j, j < bp → wr.cell? ⟨h, j, none⟩ = some (.int .u8 x)
section
variable {w0 wr : World} {h bp : Nat} {x : Int}
theorem Rep.drew (r : Rep w0 wr h bp x) : Rep w0 wr.drew h bp x := ⟨r.below.drew, r.there, r.free, r.holds⟩
theorem Rep.put (r : Rep w0 wr h bp x) (d : Nat) (hd : bp + d ≤ 64) : Rep w0 (wr.setCells h bp (List.replicate d (.int .u8 x))) h (bp + d) x := by
  have hin := World.cell?_setCells_in h (List.replicate d (Value.int .u8 x)) bp wr (fun j hj => by rw [List.length_replicate] at hj; exact r.there _ (by omega))
  have hout := World.cell?_setCells_out h (List.replicate d (Value.int .u8 x)) bp wr
  refine ⟨Lib.below_setCells h (Nat.le_refl _) _ _ r.below, ?_, ?_, ?_⟩
  · intro j hj
    by_cases h1 : bp ≤ j ∧ j < bp + d
    · obtain ⟨k, rfl⟩ : ∃ k, j = bp + k := ⟨j - bp, by omega⟩
      rw [hin k (by rw [List.length_replicate]; omega)]
      rfl
    · rw [hout ⟨h, j, none⟩ (fun _ _ => by rw [List.length_replicate]; show j < _ ∨ _ ≤ j; omega)]
      exact r.there j hj
  · intro j hj
    rw [World.frozen?_setCells]
    exact r.free j hj
  · intro j hj
    by_cases h1 : j < bp
    · rw [hout ⟨h, j, none⟩ (fun _ _ => Or.inl h1)]
      exact r.holds j h1
    · obtain ⟨k, rfl⟩ : ∃ k, j = bp + k := ⟨j - bp, by omega⟩
      rw [hin k (by rw [List.length_replicate]; omega)]
      simp
theorem Rep.copy {P : Program} (r : Rep w0 wr h bp x) (t ty e : TypeId) (hu : P.underlying t = some (.slice e)) (hs : (P.info? e).map (·.size) = some 1) (d : Nat) (hd : d = Nat.min bp (64 - bp)) (c1 c2 : Nat) :
    (Builtin.copy_ #[t, t] ty #[.slice (some ⟨h, bp, none⟩) (64 - bp) c1, .slice (some ⟨h, 0, none⟩) bp c2]).run P wr = .ok (.int .i64 (d : Int)) (wr.setCells h bp (List.replicate d (.int .u8 x))) := by
  have hl1 : d ≤ bp := by rw [hd]; exact Nat.min_le_left _ _
  have hl2 : d ≤ 64 - bp := by rw [hd]; exact Nat.min_le_right _ _
  have hr := run_copy_cells (P := P) wr t t ty e h bp (64 - bp) c1 ⟨h, 0, none⟩ bp c2 (List.replicate d (.int .u8 x)) hu hs (by rw [List.length_replicate]; exact hd)
    (fun j v hj => by
      have hjd : j < d := by have := (List.getElem?_eq_some_iff.1 hj).1; simpa using this
      have hv : v = .int .u8 x := by have := (List.getElem?_eq_some_iff.1 hj).2; simpa using this.symm
      subst hv
      rw [show (⟨h, 0, none⟩ : Addr).add j = ⟨h, j, none⟩ by unfold Addr.add; split <;> simp_all]
      exact r.holds j (by omega))
    (fun j hj => by rw [List.length_replicate] at hj; exact r.there _ (by omega)) (fun j hj => by rw [List.length_replicate] at hj; exact r.free _ (by omega))
    (fun v hv => by have := List.eq_of_mem_replicate hv; subst this; rfl)
  rw [List.length_replicate] at hr
  exact hr
theorem step_copyR {P : Program} {ops : Array Oper} {o : Oper} {a : Act} {w : World} {K : Act → World → Prop} {Q : Exit → Act → World → Prop} {E : Prop}
    (hg : o.guard = none) (d x : Operand) (t t' : TypeId) (hop : o.op = Op.call { callee := Callee.builtin Builtin.copy, args := #[d, x], argTypes := #[t, t'] })
    (v u : Value) (hd : a.eval d = v) (hx : a.eval x = u) {v' : Value} {w' : World} (hr : (Builtin.copy_ #[t, t'] o.type #[v, u]).run P w = .ok v' w') (hK : K (a.put o.dst v') w') :
    if Region.wanted o (yielded ops a.tmps) = true then Oper.wp P o a w K Q else E := by
  have hw : Region.wanted o (yielded ops a.tmps) = true := by simp [Region.wanted, hg]
  rw [if_pos hw]
  exact Lib.wp_copy_run w d x t t' hop v u hd hx hr hK
end
theorem mul64_same (w : World) : Calls Tryz.prog 180 #[.int .u64 1, .int .u64 64] w fun e w' => e = .returned (.tuple #[.int .u64 0, .int .u64 64]) ∧ w' = w := by
  go_enter Tryz.func180, Tryz.ntmps180
  go_wp2
  go_ret2
  exact ⟨rfl, rfl⟩
theorem mul_same (w : World) : Calls Tryz.prog 225 #[.int .u64 1, .int .u64 64] w fun e w' => e = .returned (.tuple #[.int .u64 0, .int .u64 64]) ∧ w' = w := by
  go_enter Tryz.func225, Tryz.ntmps225
  go_wp2_with (fail)
  refine (mul64_same _).mono ?_
  rintro e w1 ⟨rfl, rfl⟩
  go_wp2
  go_ret2
  exact ⟨rfl, rfl⟩
set_option maxHeartbeats 2000000 in
theorem repeat64 (b o c : Nat) (x : Int) (Y : List Int) (hY : Hid (∀ i, i < 64 → Y.getD i 0 = x)) (w : World) (hc : w.cell? ⟨b, o, none⟩ = some (.int .u8 x)) :
    Calls Tryz.prog 211 #[.slice (some ⟨b, o, none⟩) 1 c, .int .i64 64] w fun e w' => e = .returned (.slice (some ⟨w.heap.size, 0, none⟩) 64 64) ∧ BytesIn w' (some ⟨w.heap.size, 0, none⟩) 64 Y ∧ Below w.heap.size w w' := by
  obtain ⟨i0, hi, hz0, hz1, hz2⟩ := info_parts infoByte
  have hs5 : (Tryz.prog.info? 5).map (·.size) = some 1 := by rw [hi]; simp [hz1]
  have hb : b < w.heap.size := World.block_lt_of_cell? w ⟨b, o, none⟩ hc
  obtain ⟨cs, hrunM, hle, _⟩ := Lib.run_makeNoZero (P := Tryz.prog) w #[3] 22 5 Tryz.underlying22 64 (by omega)
  have hcall : (callFunc 226 #[.int .i64 64]).run Tryz.prog w = .ok (.value (.slice (some ⟨w.heap.size, 0, none⟩) 64 cs.size)) ((w.alloc (.cells cs 5)).drewN 2) := by
    rw [run_callFunc_extern Tryz.func226 (by kernel_rfl) (by kernel_rfl) (by kernel_rfl) (e := Extern.BytealgMakeNoZero.makeNoZero #[3] #[22]) (by kernel_rfl)]
    exact congrArg (fun r => Result.andThen r _) hrunM
  clear hrunM
  have i1 : (64 : Int) ≤ (cs.size : Int) := by omega
  have B0 := Lib.Buf.start w cs 5 64 2 hle
  generalize (w.alloc (.cells cs 5)).drewN 2 = wM at hcall B0
  have R0 : Rep w wM w.heap.size 0 x := ⟨B0.below, B0.there, B0.free, fun j hj => absurd hj (by omega)⟩
  have hr1 : ∀ ty, (Builtin.copy_ #[22, 22] ty #[.slice (some ⟨w.heap.size, 0, none⟩) 64 64, .slice (some ⟨b, o, none⟩) 1 c]).run Tryz.prog wM = .ok (.int .i64 1) (wM.setCells w.heap.size 0 (List.replicate 1 (.int .u8 x))) := fun ty =>
    run_copy_cells (P := Tryz.prog) wM 22 22 ty 5 w.heap.size 0 64 64 ⟨b, o, none⟩ 1 c (List.replicate 1 (.int .u8 x)) Tryz.underlying22 hs5 rfl
      (fun j v hj => by
        have hj0 : j = 0 := by have := (List.getElem?_eq_some_iff.1 hj).1; simp at this; omega
        subst hj0
        have hv : Value.int .u8 x = v := by simpa using hj
        subst hv
        have := (B0.below.cell (p := ⟨b, o, none⟩) hb).trans hc
        simpa [Addr.add] using this)
      (fun j hj => by simp at hj; exact R0.there _ (by omega)) (fun j hj => by simp at hj; exact R0.free _ (by omega)) (fun v hv => by have := List.eq_of_mem_replicate hv; subst this; rfl)
  have R1 := R0.put 1 (by omega)
  generalize wM.setCells w.heap.size 0 (List.replicate 1 (Value.int .u8 x)) = w1 at hr1 R1
  clear B0 R0 hc
  go_enter Tryz.func211, Tryz.ntmps211
  go_wp2_with (fail)
  refine (mul_same _).mono ?_
  rintro e wm ⟨rfl, rfl⟩
  go_wp2_with (at_builtin; refine Lib.wpList_copy_run _ rfl _ _ 22 22 rfl _ _ rfl rfl (hr1 _) ?_)
  clear hr1 hcall
  go_loopw [10, 11] (fun v _ wr => ∃ bp : Nat, 1 ≤ bp ∧ bp ≤ 64 ∧ v = .int .i64 bp ∧ Rep wm wr wm.heap.size bp x)
    (fun v _ _ => 64 - (intOf v).toNat)
  case atStart => exact ⟨1, by omega, by omega, rfl, R1⟩
  case round =>
    clear R1
    obtain ⟨bp, h1, h64, rfl, R⟩ := hrel
    by_cases hlt : bp < 64
    · obtain ⟨d, hd⟩ : ∃ d, d = Nat.min bp (64 - bp) := ⟨_, rfl⟩
      have hd1 : 1 ≤ d := by rw [hd]; exact Nat.le_min.2 ⟨h1, by omega⟩
      have hd2 : bp + d ≤ 64 := by have : d ≤ 64 - bp := by rw [hd]; exact Nat.min_le_right _ _
                                   omega
      have hm : min (bp : Int) 64 = (bp : Int) := by omega
      have i2 : (bp : Int) ≤ 64 := by omega
      have i3 : ¬ 64 = bp := by omega
      have i4 : IntKind.i64.wrap ((bp : Int) + (d : Int)) = ((bp + d : Nat) : Int) := by rw [IntKind.wrap_i64]; omega
      have hcp := fun ty => R.drew.copy (P := Tryz.prog) 22 ty 5 Tryz.underlying22 hs5 d hd (64 - bp) 64
      have RP := R.drew.put d hd2
      generalize wr.drew.setCells wm.heap.size bp (List.replicate d (Value.int .u8 x)) = w2 at hcp RP
      clear hd R
      go_wp2_with (fail)
      go_region_law (refine step_copyR (by rfl) (.tmp 70) (.tmp 73) 22 22 (by rfl) (.slice (some ⟨wm.heap.size, bp, none⟩) (64 - bp) (64 - bp)) (.slice (some ⟨wm.heap.size, 0, none⟩) bp 64) (by simp [Act.eval, Act.put]) (by simp [Act.eval, Act.put]) (hcp _) ?_)
      all_goals
        simp only [Act.put, List.getElem_toArray, List.getElem_cons_zero, List.getElem_cons_succ, List.setIfInBounds_toArray, List.set_cons_zero, List.set_cons_succ]
        go_wp2
        go_roundw
        case rel => exact ⟨bp + d, by omega, by omega, by go_num, RP⟩
        case measure => simp [intOf]; omega
    · have hnl : ¬ (bp : Int) < 64 := by omega
      go_wp2
      go_ret
      refine ⟨rfl, fun _ => ⟨_, 0, rfl, fun i hi => ?_⟩, R.below⟩
      rw [Nat.zero_add, R.holds i (by omega), hY.out i hi]
end Go.Proofs.YtnpffnhiefgglaaGreatDoor
