/-
  A row of 16 words in a block that the call made (a stream); what the program's newStream answers: the words of a key and a nonce, with count 0; or false. Condition: bytes all.
-/
import Derived.Test.YtcmbglelllcbdalDoorConcatI
import Derived.Test.YtcmbglelllcbdalDoorSpecBlk
import Derived.Deep.MidRow
import Derived.Deep.WholeRow
namespace Go.Proofs.YtcmbglelllcbdalDoor
open Go.RowKit

def strL (l : List Nat) : List Value := l.map fun (n : Nat) => Value.int .u32 (n : Int)
theorem strL_length (l : List Nat) : (strL l).length = l.length := by simp [strL]
theorem strL_get (l : List Nat) (i : Nat) (h : i < l.length) : (strL l)[i]? = some (.int .u32 ((l.getD i 0 : Nat) : Int)) := by simp [strL, List.getElem?_eq_getElem h]
theorem strL_one (l : List Nat) : ∀ v ∈ strL l, v.oneCell' = true := by
  intro v hv
  simp only [strL, List.mem_map] at hv
  obtain ⟨n, _, rfl⟩ := hv
  rfl
/-- 16 words in a block g of their own. -/
def StrIs (w : World) (lo g : Nat) (S : List Nat) : Prop := S.length = 16 ∧ w.ownsRow lo 54 1 (.slice (some ⟨g, 0, none⟩) 16 16) 16 (strL S)
theorem StrIs.cell {w : World} {lo g : Nat} {S : List Nat} (h : StrIs w lo g S) (i : Nat) (hi : i < 16) : w.cell? ⟨g, i, none⟩ = some (.int .u32 ((S.getD i 0 : Nat) : Int)) := by
  rw [h.2.cellAt i (by omega), strL_get _ _ (by have := h.1; omega)]
theorem StrIs.frozen {w : World} {lo g : Nat} {S : List Nat} (h : StrIs w lo g S) (i : Nat) : w.frozen? ⟨g, i, none⟩ = false := h.2.frozenAt i
theorem StrIs.lt {w : World} {lo g : Nat} {S : List Nat} (h : StrIs w lo g S) : lo ≤ g ∧ g < w.heap.size := h.2.lt g rfl
theorem StrIs.below {w w' : World} {lo g : Nat} {S : List Nat} (h : StrIs w lo g S) (hb : Below w.heap.size w w') : StrIs w' lo g S := ⟨h.1, owns_below h.2 hb⟩
theorem StrIs.kept {w w' : World} {lo g r : Nat} {S : List Nat} (h : StrIs w lo g S) (hg : w.grownBy w' (some r)) (hne : g ≠ r) : StrIs w' lo g S :=
  ⟨h.1, h.2.kept hg (.inr (by simp [Value.ownBlock]; exact fun e => hne e))⟩
theorem StrIs.set {w : World} {lo g : Nat} {S : List Nat} (h : StrIs w lo g S) (k u : Nat) : StrIs (w.setCell ⟨g, k, none⟩ (.int .u32 (u : Int))) lo g (S.set k u) ∧ w.grownBy (w.setCell ⟨g, k, none⟩ (.int .u32 (u : Int))) (some g) := by
  have st := h.2.stored k (.int .u32 (u : Int))
  have e : (strL S).set k (.int .u32 (u : Int)) = strL (S.set k u) := by simp [strL, List.map_set]
  rw [e] at st
  exact ⟨⟨by simpa using h.1, st.1⟩, st.2⟩
theorem StrIs.made (w : World) (lo : Nat) (S : List Nat) (h : S.length = 16) (hlo : lo ≤ w.heap.size) : StrIs (w.alloc (.cells (strL S).toArray 54)) lo w.heap.size S := by
  have hl : (strL S).length = 16 := by rw [strL_length, h]
  refine ⟨h, by simpa using hl, .inr ⟨w.heap.size, 16, _, rfl, hlo, heap_alloc_new w _, Nat.le_refl _, by unfold maxLen; omega, by simp [hl], ?_⟩⟩
  rw [List.take_of_length_le (by simp [hl])]
theorem StrIs.range {w : World} {lo g : Nat} {S : List Nat} (h : StrIs w lo g S) : w.rangeAt g 0 (strL S) := by
  intro j v hv
  have hj : j < 16 := by have := (List.getElem?_eq_some_iff.1 hv).1; rw [strL_length, h.1] at this; exact this
  rw [Nat.zero_add, h.2.cellAt j (by omega), hv]
theorem StrIs.there {w : World} {lo g : Nat} {S : List Nat} (h : StrIs w lo g S) : w.there g 0 16 := by
  intro j hj
  rw [Nat.zero_add, h.cell j hj]
  exact ⟨rfl, h.frozen j⟩
theorem strPut {lo e g n c : Nat} (vs : List Value) : ∀ (o : Nat) (w : World) (xs : List Value), o + vs.length = n → xs.length = n → w.ownsRow lo e 1 (.slice (some ⟨g, 0, none⟩) n c) n xs →
    (w.setCells g o vs).ownsRow lo e 1 (.slice (some ⟨g, 0, none⟩) n c) n (xs.take o ++ vs) ∧ w.grownBy (w.setCells g o vs) (some g) := by
  induction vs with
  | nil =>
    intro o w xs h1 h2 h
    rw [List.append_nil, List.take_of_length_le (by simp at h1; omega)]
    exact ⟨h, World.grownBy.refl _ _⟩
  | cons v r ih =>
    intro o w xs h1 h2 h
    have k1 := h.stored o v
    have k2 := ih (o + 1) _ _ (by simp at h1; omega) (by simpa using h2) k1.1
    have e : (xs.set o v).take (o + 1) = xs.take o ++ [v] := by
      rw [List.take_succ_eq_append_getElem (by simp at h1 ⊢; omega), List.take_set_of_le (Nat.le_refl _)]
      simp
    rw [e, List.append_assoc] at k2
    exact ⟨k2.1, grown_trans k1.2 k2.2⟩
theorem StrIs.put {w : World} {lo g : Nat} {S S' : List Nat} (h : StrIs w lo g S) (h' : S'.length = 16) : StrIs (w.setCells g 0 (strL S')) lo g S' ∧ w.grownBy (w.setCells g 0 (strL S')) (some g) := by
  have k := strPut (strL S') 0 w (strL S) (by rw [strL_length]; omega) (by rw [strL_length, h.1]) h.2
  exact ⟨⟨h', by simpa using k.1⟩, k.2⟩
def zero16 : List Nat := List.replicate 16 0
theorem infoStr : (Tryd.prog.info? 54).map (fun i => (i.zero, i.size)) = some (some (.agg (strL zero16).toArray), 16) := by kernel_rfl
/-- The words of a key and a nonce, with this count. -/
def firstN (ks : List Int) (count : Int) (ns : List Int) : List Nat := (firstL ks count ns).map wordN
theorem firstN_length (ks : List Int) (count : Int) (ns : List Int) : (firstN ks count ns).length = 16 := by simp [firstN, firstL_length]
/-- The first k of T, behind them noughts. -/
def strFill (T : List Nat) (k : Nat) : List Nat := T.take k ++ List.replicate (16 - k) 0
theorem strFill_set {T : List Nat} (hT : T.length = 16) (k : Nat) (hk : k < 16) (u : Nat) (hu : u = T.getD k 0) : (strFill T k).set k u = strFill T (k + 1) := by
  subst hu
  simp only [strFill]
  have hk0 : k - (T.take k).length = 0 := by simp [hT]; omega
  rw [List.set_append_right _ _ (by rw [List.length_take]; omega), hk0, show 16 - k = (16 - (k + 1)) + 1 by omega, List.replicate_succ, List.set_cons_zero, List.take_succ_eq_append_getElem (by omega), List.append_assoc, List.getD_eq_getElem?_getD, List.getElem?_eq_getElem (by omega)]
  rfl
theorem strFill_get {T : List Nat} (hT : T.length = 16) (k : Nat) (hk : k < 16) : (strFill T k).getD k 0 = 0 := by
  simp only [strFill, List.getD_eq_getElem?_getD]
  rw [List.getElem?_append_right (by simp; omega)]
  simp [hT, Nat.min_eq_left (show k ≤ 16 by omega), show 0 < 16 - k by omega]

set_option maxRecDepth 100000 in
set_option maxHeartbeats 2400000 in
theorem newStream_no (p q : Option Addr) (n m c d : Nat) (w : World) (hno : ¬ (n = 32 ∧ m = 12)) :
    Calls Tryd.prog 32 #[.slice p n c, .slice q m d] w fun e w' => e = .returned (.tuple #[.agg (strL zero16).toArray, .bool false]) ∧ Below w.heap.size w w' := by
  have hz := (zero_of_info infoStr).1
  have hsz0 := (zero_of_info infoStr).2
  have m1 := fun X : World => StrIs.made X w.heap.size zero16 rfl
  obtain ⟨Z, hZ⟩ : ∃ Z, Z = (strL zero16).toArray := ⟨_, rfl⟩
  rw [← hZ] at hz
  simp only [← hZ] at m1
  clear hZ
  have hone : ∀ v ∈ strL zero16, v.oneCell' = true := strL_one _
  have hsz : (Tryd.prog.info? 54).map (·.size) = some (strL zero16).length := hsz0
  have hsz2 : (Tryd.prog.info? 54).map (·.size) = some (strL zero16).toArray.size := hsz0
  have hsC : (strL zero16).toArray.size = 16 := rfl
  have ba : Below w.heap.size w (w.alloc (.cells Z 54)) := (Below.refl _ _).alloc (Nat.le_refl _) _
  have sa : (w.alloc (.cells Z 54)).heap.size = w.heap.size + 1 := by simp
  have h3 := m1 (w.alloc (.cells Z 54)) (by omega)
  have bb : Below (w.alloc (.cells Z 54)).heap.size (w.alloc (.cells Z 54)) ((w.alloc (.cells Z 54)).alloc (.cells Z 54)) := (Below.refl _ _).alloc (Nat.le_refl _) _
  rw [sa] at h3
  have h2 := (m1 w (Nat.le_refl _)).below bb
  have bel := below_on ba bb
  have hth2 : ((w.alloc (.cells Z 54)).alloc (.cells Z 54)).there w.heap.size 0 (strL zero16).toArray.size := by rw [hsC]; exact h2.there
  have hra := h3.range
  have hp := h2.put (S' := zero16) rfl
  have hld := run_loadVar_mid (P := Tryd.prog) _ w.heap.size 0 54 _ _ hp.1.range Tryd.underlying54 rfl hsz
  have hbel : Below w.heap.size w (((w.alloc (.cells Z 54)).alloc (.cells Z 54)).setCells w.heap.size 0 (strL zero16)) := bel.grown hp.2 bel.size (fun k hk => by cases hk; exact Nat.le_refl _)
  obtain ⟨Cs, hCs⟩ : ∃ Cs, Cs = strL zero16 := ⟨_, rfl⟩
  rw [← hCs] at hra hsz hsz2 hth2 hbel hld hone
  replace hCs : Hid (Cs = strL zero16) := hCs
  clear hp h2 h3 bel m1 ba sa bb hsC
  by_cases t0 : n = 32
  · have t1 : m ≠ 12 := fun h => hno ⟨t0, h⟩
    subst t0
    have z1 : ((m : Int) != 12) = true := by simp; omega
    clear hno
    go_enter Tryd.func32, Tryd.ntmps32
    go_wp2_with (first | (refine wpList_load_mid rfl 54 _ rfl (w.heap.size + 1) 0 rfl Cs _ hra Tryd.underlying54 rfl hsz ?_) | (refine wpList_store_mid rfl 54 _ _ rfl w.heap.size 0 Cs.toArray rfl rfl hth2 hsz2 (all_oneCell_toArray hone) ?_))
    (try simp only [Exit.inBlock, Exit.then])
    refine bodyPost_ret (v := .tuple #[.agg Cs.toArray, .bool false]) ?_ rfl ⟨by rw [hCs.out], hbel⟩
    simp [results, asAddr, hld]
  · have z0 : ((n : Int) != 32) = true := by simp; omega
    clear hno
    go_enter Tryd.func32, Tryd.ntmps32
    go_wp2_with (first | (refine wpList_load_mid rfl 54 _ rfl (w.heap.size + 1) 0 rfl Cs _ hra Tryd.underlying54 rfl hsz ?_) | (refine wpList_store_mid rfl 54 _ _ rfl w.heap.size 0 Cs.toArray rfl rfl hth2 hsz2 (all_oneCell_toArray hone) ?_))
    (try simp only [Exit.inBlock, Exit.then])
    refine bodyPost_ret (v := .tuple #[.agg Cs.toArray, .bool false]) ?_ rfl ⟨by rw [hCs.out], hbel⟩
    simp [results, asAddr, hld]

set_option maxRecDepth 100000 in
set_option maxHeartbeats 4000000 in
theorem newStream_yes (p q : Option Addr) (c d : Nat) (ks ns : List Int) (w : World) (hc : 32 ≤ c) (hd : 12 ≤ d) (hx : ks.length = 32) (hy : ns.length = 12) (h : BytesIn w p 32 ks) (h' : BytesIn w q 12 ns) (hb1 : ∀ x ∈ ks, 0 ≤ x ∧ x < 256) (hb2 : ∀ x ∈ ns, 0 ≤ x ∧ x < 256) :
    Calls Tryd.prog 32 #[.slice p 32 c, .slice q 12 d] w fun e w' => e = .returned (.tuple #[.agg (strL (firstN ks 0 ns)).toArray, .bool true]) ∧ Below w.heap.size w w' := by
  have hz := (zero_of_info infoStr).1
  have hsz0 := (zero_of_info infoStr).2
  have m1 := fun X : World => StrIs.made X w.heap.size zero16 rfl
  obtain ⟨Z, hZ⟩ : ∃ Z, Z = (strL zero16).toArray := ⟨_, rfl⟩
  rw [← hZ] at hz
  simp only [← hZ] at m1
  clear hZ
  have C1 := fun X hX => implWords_any p 32 c false ks X (by omega) hc hx hX hb1
  have C2 := fun X hX => implWords_any q 12 d false ns X (by omega) hd hy hX hb2
  have l1 : (wordsL false ks (32 / 4)).length = 8 := by simp [wordsL]
  have l2 : (wordsL false ns (12 / 4)).length = 3 := by simp [wordsL]
  have HF : Hid ([1634760805, 857760878, 2036477234, 1797285236] ++ wordsL false ks (32 / 4) ++ [0] ++ wordsL false ns (12 / 4) = firstL ks 0 ns) := rfl
  have lF := firstL_length ks 0 ns
  have lT := firstN_length ks 0 ns
  have HT : Hid (∀ k, (firstN ks 0 ns).getD k 0 = wordN ((firstL ks 0 ns).getD k 0)) := fun k => by
    simp only [firstN, List.getD_eq_getElem?_getD, List.getElem?_map]
    cases (firstL ks 0 ns)[k]? <;> rfl
  simp only [Nat.reduceDiv] at C1 C2 l1 l2 HF
  generalize firstN ks 0 ns = T at HT lT ⊢
  generalize firstL ks 0 ns = F at HF HT lF
  generalize wordsL false ks 8 = W1 at C1 l1 HF
  generalize wordsL false ns 3 = W2 at C2 l2 HF
  have hsC : (strL T).toArray.size = 16 := by simp [strL_length, lT]
  have hone : ∀ v ∈ strL T, v.oneCell' = true := strL_one _
  have hsz : (Tryd.prog.info? 54).map (·.size) = some (strL T).length := by rw [strL_length, lT]; exact hsz0
  have hsz2 : (Tryd.prog.info? 54).map (·.size) = some (strL T).toArray.size := by rw [hsC]; exact hsz0
  go_enter Tryd.func32, Tryd.ntmps32
  go_wp2_with (fail)
  have h2 := m1 w (Nat.le_refl _)
  have ba : Below w.heap.size w (w.alloc (.cells Z 54)) := (Below.refl _ _).alloc (Nat.le_refl _) _
  have sa : (w.alloc (.cells Z 54)).heap.size = w.heap.size + 1 := by simp
  generalize w.alloc (.cells Z 54) = wa at h2 ba sa ⊢
  have h3 := m1 wa (by omega)
  have bb : Below wa.heap.size wa (wa.alloc (.cells Z 54)) := (Below.refl _ _).alloc (Nat.le_refl _) _
  have hwbs : (wa.alloc (.cells Z 54)).heap.size = wa.heap.size + 1 := by simp
  generalize wa.alloc (.cells Z 54) = wb at h3 bb hwbs ⊢
  rw [sa] at h3 hwbs
  replace h2 := h2.below bb
  have bel := below_on ba bb
  clear ba bb sa hz m1
  obtain ⟨B3, hB3⟩ : ∃ B3, B3 = w.heap.size + 1 := ⟨_, rfl⟩
  rw [← hB3] at h3 ⊢
  have hne : w.heap.size ≠ B3 := by omega
  have hsb := bel.size
  have hb3 : wb.heap.size = B3 + 1 := by rw [hB3]; exact hwbs
  have hge : w.heap.size ≤ B3 := by omega
  clear hB3 hwbs
  obtain ⟨wc, hwc⟩ : ∃ wc, wc = wb.alloc (.cells #[.int .i64 1634760805, .int .i64 857760878, .int .i64 2036477234, .int .i64 1797285236] 3) := ⟨_, rfl⟩
  have bc : Below wb.heap.size wb wc := by rw [hwc]; exact (Below.refl _ _).alloc (Nat.le_refl _) _
  have hcs : wc.heap.size = B3 + 1 + 1 := by rw [hwc]; simp [hb3]
  have ic : IntsIn wc (some ⟨B3 + 1, 0, none⟩) 4 [1634760805, 857760878, 2036477234, 1797285236] := by
    rw [← hb3, hwc]
    exact owns_inI (base := wb.heap.size) (e := 3) (c := 4) ⟨rfl, .inr ⟨wb.heap.size, 4, _, rfl, Nat.le_refl _, heap_alloc_new wb _, Nat.le_refl _, by unfold maxLen; omega, rfl, rfl⟩⟩
  obtain ⟨wd, hwd⟩ : ∃ wd, wd = wc.alloc (.cells #[.int .i64 0] 3) := ⟨_, rfl⟩
  have bd : Below wc.heap.size wc wd := by rw [hwd]; exact (Below.refl _ _).alloc (Nat.le_refl _) _
  have id : IntsIn wd (some ⟨B3 + 1 + 1, 0, none⟩) 1 [0] := by
    rw [← hcs, hwd]
    exact owns_inI (base := wc.heap.size) (e := 3) (c := 1) ⟨rfl, .inr ⟨wc.heap.size, 1, _, rfl, Nat.le_refl _, heap_alloc_new wc _, Nat.le_refl _, by unfold maxLen; omega, rfl, rfl⟩⟩
  replace ic := in_belowI ic bd
  have bcd := below_on bc bd
  replace h2 := h2.below bcd
  replace h3 := h3.below bcd
  replace bel := below_on bel bcd
  rw [← hwc, ← hwd]
  clear hwc hwd bc bd bcd hcs
  refine (C1 _ (in_below h bel)).mono ?_
  rintro e w5 ⟨p5, c5, rfl, r5, b5⟩
  have i5 := r5.ints
  replace ic := in_belowI ic b5
  replace id := in_belowI id b5
  replace h2 := h2.below b5
  replace h3 := h3.below b5
  replace bel := below_on bel b5
  clear r5 b5 C1
  go_wp2_with (fail)
  refine (C2 _ (in_below h' bel)).mono ?_
  rintro e w6 ⟨p6, c6, rfl, r6, b6⟩
  have i6 := r6.ints
  replace i5 := in_belowI i5 b6
  replace ic := in_belowI ic b6
  replace id := in_belowI id b6
  replace h2 := h2.below b6
  replace h3 := h3.below b6
  replace bel := below_on bel b6
  clear r6 b6 C2
  have CC := concat4I (some ⟨B3 + 1, 0, none⟩) p5 (some ⟨B3 + 1 + 1, 0, none⟩) p6 4 8 1 3 4 c5 1 c6 [1634760805, 857760878, 2036477234, 1797285236] W1 [0] W2 w6 rfl l1 rfl l2 (by omega) (by omega) ic i5 id i6 _ rfl
  rw [HF.out] at CC
  clear ic i5 id i6 l1 l2 HF
  go_wp2_with (fail)
  refine CC.mono ?_
  rintro e w7 ⟨p7, c7, rfl, r7, b7⟩
  have hl3 := h3.lt.2
  have hl2 := h2.lt.2
  replace h2 := h2.below b7
  replace h3 := h3.below b7
  replace bel := below_on bel b7
  obtain ⟨g7, hg7⟩ := owns_at r7.1 (by decide)
  subst hg7
  have hl7 := r7.1.lt g7 rfl
  have hne7 : B3 ≠ g7 := by omega
  have I7 := r7.ints
  obtain ⟨w8, hw8⟩ : ∃ w8, w8 = w7 := ⟨_, rfl⟩
  have HC : Hid (∀ i, i < 16 → w8.cell? ⟨g7, i, none⟩ = some (.int .i64 (F.getD i 0))) := by
    obtain ⟨bb, oo, e1, e2⟩ := I7 (by decide)
    simp only [Option.some.injEq, Addr.mk.injEq, and_true] at e1
    obtain ⟨rfl, rfl⟩ := e1
    intro i hi
    have := e2 i hi
    rw [Nat.zero_add] at this
    rw [hw8]
    exact this
  have hg8 : g7 < w8.heap.size := by rw [hw8]; exact hl7.2
  have hgr0 : w8.grownBy w7 (some B3) := by rw [hw8]; exact World.grownBy.refl _ _
  have bel8 : Below w.heap.size w w8 := by rw [hw8]; exact bel
  have h28 : StrIs w8 w.heap.size w.heap.size zero16 := by rw [hw8]; exact h2
  have h30 : StrIs w7 w.heap.size B3 (strFill T 0) := h3
  have hcap := owns_cap r7.1
  clear CC b7 r7 I7 hl3 hl2 hl7 hw8 bel h2 h3
  go_wp2_with (fail)
  go_loopw [31] (fun i wr => ∃ k : Nat, k ≤ 16 ∧ i = .int .i64 k ∧ StrIs wr w.heap.size B3 (strFill T k) ∧ w8.grownBy wr (some B3))
    (fun i _ => 16 - (intOf i).toNat)
  case atStart => exact ⟨0, by omega, rfl, h30, hgr0⟩
  case round =>
    clear h30 hgr0
    obtain ⟨k, hk, rfl, hH, hgr⟩ := hrel
    by_cases hlt : k < 16
    · have hlt' : (k : Int) < 16 := by omega
      have cy := (cell_grownQ (p := ⟨g7, k, none⟩) hgr hg8 (Ne.symm hne7)).trans (HC.out k hlt)
      have cold := hH.cell k hlt
      rw [strFill_get lT k hlt] at cold
      have hfr := hH.frozen k
      have st := hH.set k (wordN (F.getD k 0))
      rw [strFill_set lT k hlt _ (HT.out k).symm] at st
      have hwe := wordN_eq (F.getD k 0)
      generalize wordN (F.getD k 0) = u at st hwe
      generalize F.getD k 0 = y at cy hwe
      have mu : y % 4294967296 = (u : Int) := hwe.symm
      have wu : IntKind.u32.wrap y = (u : Int) := by rw [IntKind.wrap_u32]; exact mu
      have hgr' := grown_trans hgr st.2
      have st' := st.1
      clear st hH hgr hwe
      go_wp2
      go_roundw
      case rel => exact ⟨k + 1, by omega, by go_num, st', hgr'⟩
      case measure => simp [intOf]; omega
    · have hnl : ¬ (k : Int) < 16 := by omega
      have hfin : strFill T k = T := by simp [strFill, show k = 16 by omega, List.take_of_length_le (show T.length ≤ 16 by omega)]
      rw [hfin] at hH
      clear hfin
      have hra := hH.range
      have hk2 := h28.kept hgr hne
      have hth2 : wr.there w.heap.size 0 (strL T).toArray.size := by rw [hsC]; exact hk2.there
      have hp := hk2.put lT
      have hbel : Below w.heap.size w (wr.setCells w.heap.size 0 (strL T)) := (bel8.grown hgr bel8.size (fun k hk => by cases hk; exact hge)).grown hp.2 (Nat.le_trans bel8.size hgr.size) (fun k hk => by cases hk; exact Nat.le_refl _)
      have hld := run_loadVar_mid (P := Tryd.prog) _ w.heap.size 0 54 _ _ hp.1.range Tryd.underlying54 rfl hsz
      obtain ⟨Cs, hCs⟩ : ∃ Cs, Cs = strL T := ⟨_, rfl⟩
      rw [← hCs] at hra hsz hsz2 hth2 hbel hld hone
      replace hCs : Hid (Cs = strL T) := hCs
      clear hp hk2 hH hgr
      go_wp2_with (first | (refine wpList_load_mid rfl 54 _ rfl B3 0 rfl Cs _ hra Tryd.underlying54 rfl hsz ?_) | (refine wpList_store_mid rfl 54 _ _ rfl w.heap.size 0 Cs.toArray rfl rfl hth2 hsz2 (all_oneCell_toArray hone) ?_))
      (try simp only [Exit.inBlock, Exit.then])
      refine bodyPost_ret (v := .tuple #[.agg Cs.toArray, .bool true]) ?_ rfl ⟨by rw [hCs.out], hbel⟩
      simp [results, asAddr, hld]

end Go.Proofs.YtcmbglelllcbdalDoor
