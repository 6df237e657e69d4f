/-
  What the program's Block answers, whatever bytes and count it is given: 64 bytes, or nothing. Conditions: bytes all; the table of places is as its text says.
-/
import Derived.Test.YtcmbglelllcbdalDoorImplBlkA
namespace Go.Proofs.YtcmbglelllcbdalDoor
open Go.RowKit

theorem byteGet {xs : List Int} (hb : ∀ x ∈ xs, 0 ≤ x ∧ x < 256) (i : Nat) : (xs.getD i 0).toNat < 256 := by
  rw [List.getD_eq_getElem?_getD]
  cases hk : xs[i]? with
  | none => decide
  | some x => have := hb x (List.mem_of_getElem? hk); simp only [Option.getD_some]; omega
theorem four_low {a b c d : Nat} (ha : a < 256) (hb : b < 256) (hc : c < 256) (hd : d < 256) : four a b c d < 4294967296 := by
  unfold four
  omega
theorem wordsL_low {xs : List Int} (hb : ∀ x ∈ xs, 0 ≤ x ∧ x < 256) (k : Nat) : ∀ x ∈ wordsL false xs k, 0 ≤ x ∧ x < 4294967296 := by
  intro x hx
  simp only [wordsL, List.mem_map] at hx
  obtain ⟨i, _, rfl⟩ := hx
  have := four_low (byteGet hb (4 * i + 3)) (byteGet hb (4 * i + 2)) (byteGet hb (4 * i + 1)) (byteGet hb (4 * i + 0))
  simp only [wordAt, Bool.false_eq_true, if_false]
  omega
theorem places_below {w w' : World} (h : PlacesIs w) (hb : Below w.heap.size w w') : PlacesIs w' := by
  have hgp : 0 < w.heap.size := World.block_lt_of_cell? w ⟨0, 0 + 0, none⟩ (h 0 _ rfl)
  exact fun j v hv => (hb.cell (p := ⟨0, 0 + j, none⟩) hgp).trans (h j v hv)

set_option maxRecDepth 100000 in
set_option maxHeartbeats 4000000 in
theorem implBlk_no (p q : Option Addr) (n m c d : Nat) (count : Int) (T : List Nat) (ok : Bool) (w : World) (hT : T.length = 16) (hno : ok = false ∨ count < 0 ∨ 4294967295 < count)
    (CN : Calls Tryd.prog 32 #[.slice p n c, .slice q m d] w fun e w' => e = .returned (.tuple #[.agg (strL T).toArray, .bool ok]) ∧ Below w.heap.size w w') :
    Calls Tryd.prog 19 #[.slice p n c, .int .i64 count, .slice q m d] w fun e w' => e = .returned (.slice none 0 0) ∧ Below w.heap.size w w' := by
  have hz := (zero_of_info infoStr).1
  have hsz0 := (zero_of_info infoStr).2
  have hsC : (strL T).toArray.size = 16 := by simp [strL_length, hT]
  have hone : ∀ v ∈ strL T, v.oneCell' = true := strL_one _
  have hsz2 : (Tryd.prog.info? 54).map (·.size) = some (strL T).toArray.size := by rw [hsC]; exact hsz0
  have HM : Hid (∀ X : World, (X.alloc (.cells (strL zero16).toArray 54)).there X.heap.size 0 (strL T).toArray.size ∧ Below X.heap.size X ((X.alloc (.cells (strL zero16).toArray 54)).setCells X.heap.size 0 (strL T))) := fun X => by
    have m1 := StrIs.made X X.heap.size zero16 rfl (Nat.le_refl _)
    rw [hsC]
    have bb : Below X.heap.size X (X.alloc (.cells (strL zero16).toArray 54)) := (Below.refl _ _).alloc (Nat.le_refl _) _
    exact ⟨m1.there, bb.grown (m1.put hT).2 bb.size (fun k hk => by cases hk; exact Nat.le_refl _)⟩
  obtain ⟨Z, hZ⟩ : ∃ Z, Z = (strL zero16).toArray := ⟨_, rfl⟩
  rw [← hZ] at hz
  simp only [← hZ] at HM
  clear hZ
  obtain ⟨Cs, hCs⟩ : ∃ Cs, Cs = strL T := ⟨_, rfl⟩
  rw [← hCs] at hsz2 hone CN
  simp only [← hCs] at HM
  clear hCs hsC hT
  go_enter Tryd.func19, Tryd.ntmps19
  go_wp2_with (fail)
  refine CN.mono ?_
  rintro e w1 ⟨rfl, b1⟩
  have hth := (HM.out w1).1
  have hbb := (HM.out w1).2
  clear HM CN
  rcases hno with rfl | h | h
  · go_wp2_with (refine wpList_store_mid rfl 54 _ _ rfl w1.heap.size 0 Cs.toArray rfl rfl hth hsz2 (all_oneCell_toArray hone) ?_)
    go_ret
    exact ⟨rfl, below_on b1 hbb⟩
  · cases ok <;> (go_wp2_with (refine wpList_store_mid rfl 54 _ _ rfl w1.heap.size 0 Cs.toArray rfl rfl hth hsz2 (all_oneCell_toArray hone) ?_); go_ret; exact ⟨rfl, below_on b1 hbb⟩)
  · have h' : ¬ count < 0 := by omega
    cases ok <;> (go_wp2_with (refine wpList_store_mid rfl 54 _ _ rfl w1.heap.size 0 Cs.toArray rfl rfl hth hsz2 (all_oneCell_toArray hone) ?_); go_ret; exact ⟨rfl, below_on b1 hbb⟩)

set_option maxRecDepth 100000 in
set_option maxHeartbeats 4000000 in
theorem implBlk_yes (p q : Option Addr) (c d : Nat) (count : Int) (ks ns : List Int) (w : World) (hc : 32 ≤ c) (hd : 12 ≤ d) (hx : ks.length = 32) (hy : ns.length = 12) (h : BytesIn w p 32 ks) (h' : BytesIn w q 12 ns) (hb1 : ∀ x ∈ ks, 0 ≤ x ∧ x < 256) (hb2 : ∀ x ∈ ns, 0 ≤ x ∧ x < 256) (hP : PlacesIs w) (h0 : 0 ≤ count) (h1 : count ≤ 4294967295) :
    Calls Tryd.prog 19 #[.slice p 32 c, .int .i64 count, .slice q 12 d] w fun e w' => ∃ p' c', e = .returned (.slice p' 64 c') ∧ Own 5 w' w.heap.size w'.heap.size (.slice p' 64 c') 64 (blkB ks count ns) ∧ Below w.heap.size w w' := by
  have CN := newStream_yes p q c d ks ns w hc hd hx hy h h' hb1 hb2
  have hT := firstN_length ks 0 ns
  have eF := firstN_set ks ns count
  obtain ⟨e1, e2⟩ := firstL_cast ks ns count ⟨h0, h1⟩ (wordsL_low hb1 8) (wordsL_low hb2 3)
  have HB : Hid (blkB ks count ns = bytesL false (sumS (tenS (firstN ks count ns) 10) (firstN ks count ns))) := blkB_cast e2 (firstN_length _ _ _) e1
  clear e1
  generalize firstN ks 0 ns = T at CN hT eF
  generalize firstN ks count ns = F at eF e2 HB
  have n0 : ¬ count < 0 := by omega
  have n1 : ¬ 4294967295 < count := by omega
  have hz := (zero_of_info infoStr).1
  have hsz0 := (zero_of_info infoStr).2
  have hsC : (strL T).toArray.size = 16 := by simp [strL_length, hT]
  have hone : ∀ v ∈ strL T, v.oneCell' = true := strL_one _
  have hsz : (Tryd.prog.info? 54).map (·.size) = some (strL T).length := by rw [strL_length, hT]; exact hsz0
  have hsz2 : (Tryd.prog.info? 54).map (·.size) = some (strL T).toArray.size := by rw [hsC]; exact hsz0
  have HM : Hid (∀ X : World, (X.alloc (.cells (strL zero16).toArray 54)).there X.heap.size 0 (strL T).toArray.size ∧ Below X.heap.size X ((X.alloc (.cells (strL zero16).toArray 54)).setCells X.heap.size 0 (strL T)) ∧ ((X.alloc (.cells (strL zero16).toArray 54)).setCells X.heap.size 0 (strL T)).rangeAt X.heap.size 0 (strL T)) := fun X => by
    have m1 := StrIs.made X X.heap.size zero16 rfl (Nat.le_refl _)
    rw [hsC]
    have bb : Below X.heap.size X (X.alloc (.cells (strL zero16).toArray 54)) := (Below.refl _ _).alloc (Nat.le_refl _) _
    exact ⟨m1.there, bb.grown (m1.put hT).2 bb.size (fun k hk => by cases hk; exact Nat.le_refl _), (m1.put hT).1.range⟩
  have CB := fun X hX => block_any T F count X hT eF.symm e2 hX
  obtain ⟨Z, hZ⟩ : ∃ Z, Z = (strL zero16).toArray := ⟨_, rfl⟩
  rw [← hZ] at hz
  simp only [← hZ] at HM
  clear hZ
  obtain ⟨Cs, hCs⟩ : ∃ Cs, Cs = strL T := ⟨_, rfl⟩
  rw [← hCs] at hsz hsz2 hone CN
  simp only [← hCs] at HM CB
  clear hCs hsC hT eF e2
  obtain ⟨Bs, hBs⟩ : ∃ Bs, Bs = bytesL false (sumS (tenS F 10) F) := ⟨_, rfl⟩
  simp only [← hBs] at CB HB
  rw [HB.out]
  clear hBs HB
  go_enter Tryd.func19, Tryd.ntmps19
  go_wp2_with (fail)
  refine CN.mono ?_
  rintro e w1 ⟨rfl, b1⟩
  obtain ⟨hth, hbb, hra⟩ := HM.out w1
  have bel := below_on b1 hbb
  have CB' := CB _ (places_below hP bel)
  clear HM CN CB
  replace CB' : Hid (Calls Tryd.prog _ _ _ _) := CB'
  go_wp2_with (first | (refine wpList_store_mid rfl 54 _ _ rfl w1.heap.size 0 Cs.toArray rfl rfl hth hsz2 (all_oneCell_toArray hone) ?_) | (refine wpList_load_mid rfl 54 _ rfl w1.heap.size 0 rfl Cs _ hra Tryd.underlying54 rfl hsz ?_))
  refine CB'.out.mono ?_
  rintro e w2 ⟨p2, c2, rfl, r2, b2⟩
  go_wp2_with (fail)
  go_ret
  exact ⟨_, _, rfl, ⟨owns_mono r2.1 bel.size, r2.2⟩, below_on bel b2⟩

theorem implBlk_any (p q : Option Addr) (n m c d : Nat) (count : Int) (ks ns : List Int) (w : World) (hx : ks.length = n) (hy : ns.length = m) (h : BytesIn w p n ks) (h' : BytesIn w q m ns) (hb1 : ∀ x ∈ ks, 0 ≤ x ∧ x < 256) (hb2 : ∀ x ∈ ns, 0 ≤ x ∧ x < 256) (hc : n ≤ c) (hd : m ≤ d) (hP : PlacesIs w) :
    Calls Tryd.prog 19 #[.slice p n c, .int .i64 count, .slice q m d] w fun e w' => ∃ p' c', e = .returned (.slice p' (blkN n m count) c') ∧ Own 5 w' w.heap.size w'.heap.size (.slice p' (blkN n m count) c') (blkN n m count) (blkL ks count ns) ∧ Below w.heap.size w w' := by
  unfold blkN blkL
  rw [hx, hy]
  by_cases hok : blkOk n m count
  · rw [if_pos hok, if_pos hok]
    obtain ⟨rfl, rfl, h0, h1⟩ := hok
    exact implBlk_yes p q c d count ks ns w hc hd hx hy h h' hb1 hb2 hP h0 h1
  · rw [if_neg hok, if_neg hok]
    have key : Calls Tryd.prog 19 #[.slice p n c, .int .i64 count, .slice q m d] w fun e w' => e = .returned (.slice none 0 0) ∧ Below w.heap.size w w' := by
      by_cases hs : n = 32 ∧ m = 12
      · obtain ⟨rfl, rfl⟩ := hs
        refine implBlk_no p q 32 12 c d count (firstN ks 0 ns) true w (firstN_length _ _ _) (.inr ?_) (newStream_yes p q c d ks ns w hc hd hx hy h h' hb1 hb2)
        unfold blkOk at hok
        omega
      · exact implBlk_no p q n m c d count zero16 false w rfl (.inl rfl) (newStream_no p q n m c d w hs)
    refine key.mono ?_
    rintro e w' ⟨rfl, b⟩
    exact ⟨none, 0, rfl, .of ⟨rfl, .inl ⟨rfl, rfl⟩⟩, b⟩

end Go.Proofs.YtcmbglelllcbdalDoor
