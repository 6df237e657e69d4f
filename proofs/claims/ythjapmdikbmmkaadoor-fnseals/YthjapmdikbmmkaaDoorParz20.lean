/-
  A part of the proof.
-/
import Derived.Test.YthjapmdikbmmkaaDoorParz18
import Derived.Test.YthjapmdikbmmkaaDoorParz19
import Derived.Deep.MidRow
import Derived.Deep.WholeRow
import Derived.Test.YthjapmdikbmmkaaDoorParz16
import Derived.Deep.RegionHeld3
namespace Go.Proofs.YthjapmdikbmmkaaDoor
open Go.RowKit
set_option maxRecDepth 100000
def strL (l : List Nat) : List Value := l.map fun (n : Nat) => Value.int .u32 (n : Int)
theorem strL_length (l : List Nat) : (strL l).length = l.length := by simp [strL]
theorem strL_get (l : List Nat) (i : Nat) (h : i < l.length) : (strL l)[i]? = some (.int .u32 ((l.getD i 0 : Nat) : Int)) := by simp [strL, List.getElem?_eq_getElem h]
theorem strL_one (l : List Nat) : ∀ v ∈ strL l, v.oneCell' = true := by
  intro v hv
  simp only [strL, List.mem_map] at hv
  obtain ⟨n, _, rfl⟩ := hv
  rfl
def StrIs (w : World) (lo g : Nat) (S : List Nat) : Prop := S.length = 16 ∧ w.ownsRow lo 53 1 (.slice (some ⟨g, 0, none⟩) 16 16) 16 (strL S)
theorem StrIs.cell {w : World} {lo g : Nat} {S : List Nat} (h : StrIs w lo g S) (i : Nat) (hi : i < 16) : w.cell? ⟨g, i, none⟩ = some (.int .u32 ((S.getD i 0 : Nat) : Int)) := by
  rw [h.2.cellAt i (by omega), strL_get _ _ (by have := h.1; omega)]
theorem StrIs.frozen {w : World} {lo g : Nat} {S : List Nat} (h : StrIs w lo g S) (i : Nat) : w.frozen? ⟨g, i, none⟩ = false := h.2.frozenAt i
theorem StrIs.lt {w : World} {lo g : Nat} {S : List Nat} (h : StrIs w lo g S) : lo ≤ g ∧ g < w.heap.size := h.2.lt g rfl
theorem StrIs.below {w w' : World} {lo g : Nat} {S : List Nat} (h : StrIs w lo g S) (hb : Below w.heap.size w w') : StrIs w' lo g S := ⟨h.1, owns_below h.2 hb⟩
theorem StrIs.kept {w w' : World} {lo g r : Nat} {S : List Nat} (h : StrIs w lo g S) (hg : w.grownBy w' (some r)) (hne : g ≠ r) : StrIs w' lo g S :=
  ⟨h.1, h.2.kept hg (.inr (by simp [Value.ownBlock]; exact fun e => hne e))⟩
theorem StrIs.set {w : World} {lo g : Nat} {S : List Nat} (h : StrIs w lo g S) (k u : Nat) : StrIs (w.setCell ⟨g, k, none⟩ (.int .u32 (u : Int))) lo g (S.set k u) ∧ w.grownBy (w.setCell ⟨g, k, none⟩ (.int .u32 (u : Int))) (some g) := by
  have st := h.2.stored k (.int .u32 (u : Int))
  have e : (strL S).set k (.int .u32 (u : Int)) = strL (S.set k u) := by simp [strL, List.map_set]
  rw [e] at st
  exact ⟨⟨by simpa using h.1, st.1⟩, st.2⟩
theorem StrIs.made (w : World) (lo : Nat) (S : List Nat) (h : S.length = 16) (hlo : lo ≤ w.heap.size) : StrIs (w.alloc (.cells (strL S).toArray 53)) lo w.heap.size S := by
  have hl : (strL S).length = 16 := by rw [strL_length, h]
  refine ⟨h, by simpa using hl, .inr ⟨w.heap.size, 16, _, rfl, hlo, heap_alloc_new w _, Nat.le_refl _, by unfold maxLen; omega, by simp [hl], ?_⟩⟩
  rw [List.take_of_length_le (by simp [hl])]
theorem StrIs.range {w : World} {lo g : Nat} {S : List Nat} (h : StrIs w lo g S) : w.rangeAt g 0 (strL S) := by
  intro j v hv
  have hj : j < 16 := by have := (List.getElem?_eq_some_iff.1 hv).1; rw [strL_length, h.1] at this; exact this
  rw [Nat.zero_add, h.2.cellAt j (by omega), hv]
theorem StrIs.there {w : World} {lo g : Nat} {S : List Nat} (h : StrIs w lo g S) : w.there g 0 16 := by
  intro j hj
  rw [Nat.zero_add, h.cell j hj]
  exact ⟨rfl, h.frozen j⟩
theorem strPut {lo e g n c : Nat} (vs : List Value) : ∀ (o : Nat) (w : World) (xs : List Value), o + vs.length = n → xs.length = n → w.ownsRow lo e 1 (.slice (some ⟨g, 0, none⟩) n c) n xs →
    (w.setCells g o vs).ownsRow lo e 1 (.slice (some ⟨g, 0, none⟩) n c) n (xs.take o ++ vs) ∧ w.grownBy (w.setCells g o vs) (some g) := by
  induction vs with
  | nil =>
    intro o w xs h1 h2 h
    rw [List.append_nil, List.take_of_length_le (by simp at h1; omega)]
    exact ⟨h, World.grownBy.refl _ _⟩
  | cons v r ih =>
    intro o w xs h1 h2 h
    have k1 := h.stored o v
    have k2 := ih (o + 1) _ _ (by simp at h1; omega) (by simpa using h2) k1.1
    have e : (xs.set o v).take (o + 1) = xs.take o ++ [v] := by
      rw [List.take_succ_eq_append_getElem (by simp at h1 ⊢; omega), List.take_set_of_le (Nat.le_refl _)]
      simp
    rw [e, List.append_assoc] at k2
    exact ⟨k2.1, grown_trans k1.2 k2.2⟩
theorem StrIs.put {w : World} {lo g : Nat} {S S' : List Nat} (h : StrIs w lo g S) (h' : S'.length = 16) : StrIs (w.setCells g 0 (strL S')) lo g S' ∧ w.grownBy (w.setCells g 0 (strL S')) (some g) := by
  have k := strPut (strL S') 0 w (strL S) (by rw [strL_length]; omega) (by rw [strL_length, h.1]) h.2
  exact ⟨⟨h', by simpa using k.1⟩, k.2⟩
def zero16 : List Nat := List.replicate 16 0
theorem infoStr : (Tryd.prog.info? 53).map (fun i => (i.zero, i.size)) = some (some (.agg (strL zero16).toArray), 16) := by kernel_rfl
def firstN (ks : List Int) (count : Int) (ns : List Int) : List Nat := (firstL ks count ns).map wordN
theorem firstN_length (ks : List Int) (count : Int) (ns : List Int) : (firstN ks count ns).length = 16 := by simp [firstN, firstL_length]
def strFill (T : List Nat) (k : Nat) : List Nat := T.take k ++ List.replicate (16 - k) 0
theorem strFill_set {T : List Nat} (hT : T.length = 16) (k : Nat) (hk : k < 16) (u : Nat) (hu : u = T.getD k 0) : (strFill T k).set k u = strFill T (k + 1) := by
  subst hu
  simp only [strFill]
  have hk0 : k - (T.take k).length = 0 := by simp [hT]; omega
  rw [List.set_append_right _ _ (by rw [List.length_take]; omega), hk0, show 16 - k = (16 - (k + 1)) + 1 by omega, List.replicate_succ, List.set_cons_zero, List.take_succ_eq_append_getElem (by omega), List.append_assoc, List.getD_eq_getElem?_getD, List.getElem?_eq_getElem (by omega)]
  rfl
theorem strFill_get {T : List Nat} (hT : T.length = 16) (k : Nat) (hk : k < 16) : (strFill T k).getD k 0 = 0 := by
  simp only [strFill, List.getD_eq_getElem?_getD]
  rw [List.getElem?_append_right (by simp; omega)]
  simp [hT, Nat.min_eq_left (show k ≤ 16 by omega), show 0 < 16 - k by omega]
set_option maxHeartbeats 2400000 in
theorem newStream_no (p q : Option Addr) (n m c d : Nat) (w : World) (hno : ¬ (n = 32 ∧ m = 12)) :
    Calls Tryd.prog 44 #[.slice p n c, .slice q m d] w fun e w' => e = .returned (.tuple #[.agg (strL zero16).toArray, .bool false]) ∧ Below w.heap.size w w' := by
  have hz := (zero_of_info infoStr).1
  have hsz0 := (zero_of_info infoStr).2
  have m1 := fun X : World => StrIs.made X w.heap.size zero16 rfl
  obtain ⟨Z, hZ⟩ : ∃ Z, Z = (strL zero16).toArray := ⟨_, rfl⟩
  rw [← hZ] at hz
  simp only [← hZ] at m1
  clear hZ
  have hone : ∀ v ∈ strL zero16, v.oneCell' = true := strL_one _
  have hsz : (Tryd.prog.info? 53).map (·.size) = some (strL zero16).length := hsz0
  have hsz2 : (Tryd.prog.info? 53).map (·.size) = some (strL zero16).toArray.size := hsz0
  have hsC : (strL zero16).toArray.size = 16 := rfl
  have ba : Below w.heap.size w (w.alloc (.cells Z 53)) := (Below.refl _ _).alloc (Nat.le_refl _) _
  have sa : (w.alloc (.cells Z 53)).heap.size = w.heap.size + 1 := by simp
  have h3 := m1 (w.alloc (.cells Z 53)) (by omega)
  have bb : Below (w.alloc (.cells Z 53)).heap.size (w.alloc (.cells Z 53)) ((w.alloc (.cells Z 53)).alloc (.cells Z 53)) := (Below.refl _ _).alloc (Nat.le_refl _) _
  rw [sa] at h3
  have h2 := (m1 w (Nat.le_refl _)).below bb
  have bel := below_on ba bb
  have hth2 : ((w.alloc (.cells Z 53)).alloc (.cells Z 53)).there w.heap.size 0 (strL zero16).toArray.size := by rw [hsC]; exact h2.there
  have hra := h3.range
  have hp := h2.put (S' := zero16) rfl
  have hld := run_loadVar_mid (P := Tryd.prog) _ w.heap.size 0 53 _ _ hp.1.range Tryd.underlying53 rfl hsz
  have hbel : Below w.heap.size w (((w.alloc (.cells Z 53)).alloc (.cells Z 53)).setCells w.heap.size 0 (strL zero16)) := bel.grown hp.2 bel.size (fun k hk => by cases hk; exact Nat.le_refl _)
  obtain ⟨Cs, hCs⟩ : ∃ Cs, Cs = strL zero16 := ⟨_, rfl⟩
  rw [← hCs] at hra hsz hsz2 hth2 hbel hld hone
  replace hCs : Hid (Cs = strL zero16) := hCs
  clear hp h2 h3 bel m1 ba sa bb hsC
  by_cases t0 : n = 32
  · have t1 : m ≠ 12 := fun h => hno ⟨t0, h⟩
    subst t0
    have z1 : ((m : Int) != 12) = true := by simp; omega
    clear hno
    go_enter Tryd.func44, Tryd.ntmps44
    go_wp2_with (first | (refine wpList_load_mid rfl 53 _ rfl (w.heap.size + 1) 0 rfl Cs _ hra Tryd.underlying53 rfl hsz ?_) | (refine wpList_store_mid rfl 53 _ _ rfl w.heap.size 0 Cs.toArray rfl rfl hth2 hsz2 (all_oneCell_toArray hone) ?_))
    (try simp only [Exit.inBlock, Exit.then])
    refine bodyPost_ret (v := .tuple #[.agg Cs.toArray, .bool false]) ?_ rfl ⟨by rw [hCs.out], hbel⟩
    simp [results, asAddr, hld]
  · have z0 : ((n : Int) != 32) = true := by simp; omega
    clear hno
    go_enter Tryd.func44, Tryd.ntmps44
    go_wp2_with (first | (refine wpList_load_mid rfl 53 _ rfl (w.heap.size + 1) 0 rfl Cs _ hra Tryd.underlying53 rfl hsz ?_) | (refine wpList_store_mid rfl 53 _ _ rfl w.heap.size 0 Cs.toArray rfl rfl hth2 hsz2 (all_oneCell_toArray hone) ?_))
    (try simp only [Exit.inBlock, Exit.then])
    refine bodyPost_ret (v := .tuple #[.agg Cs.toArray, .bool false]) ?_ rfl ⟨by rw [hCs.out], hbel⟩
    simp [results, asAddr, hld]
set_option maxHeartbeats 4000000 in
theorem newStream_yes (p q : Option Addr) (c d : Nat) (ks ns : List Int) (w : World) (hc : 32 ≤ c) (hd : 12 ≤ d) (hx : ks.length = 32) (hy : ns.length = 12) (h : BytesIn w p 32 ks) (h' : BytesIn w q 12 ns) (hb1 : ∀ x ∈ ks, 0 ≤ x ∧ x < 256) (hb2 : ∀ x ∈ ns, 0 ≤ x ∧ x < 256) :
    Calls Tryd.prog 44 #[.slice p 32 c, .slice q 12 d] w fun e w' => e = .returned (.tuple #[.agg (strL (firstN ks 0 ns)).toArray, .bool true]) ∧ Below w.heap.size w w' := by
  have hz := (zero_of_info infoStr).1
  have hsz0 := (zero_of_info infoStr).2
  have m1 := fun X : World => StrIs.made X w.heap.size zero16 rfl
  obtain ⟨Z, hZ⟩ : ∃ Z, Z = (strL zero16).toArray := ⟨_, rfl⟩
  rw [← hZ] at hz
  simp only [← hZ] at m1
  clear hZ
  have C1 := fun X hX => implWords_any p 32 c false ks X (by omega) hc hx hX hb1
  have C2 := fun X hX => implWords_any q 12 d false ns X (by omega) hd hy hX hb2
  have l1 : (wordsL false ks (32 / 4)).length = 8 := by simp [wordsL]
  have l2 : (wordsL false ns (12 / 4)).length = 3 := by simp [wordsL]
  have HF : Hid ([1634760805, 857760878, 2036477234, 1797285236] ++ wordsL false ks (32 / 4) ++ [0] ++ wordsL false ns (12 / 4) = firstL ks 0 ns) := rfl
  have lF := firstL_length ks 0 ns
  have lT := firstN_length ks 0 ns
  have HT : Hid (∀ k, (firstN ks 0 ns).getD k 0 = wordN ((firstL ks 0 ns).getD k 0)) := fun k => by
    simp only [firstN, List.getD_eq_getElem?_getD, List.getElem?_map]
    cases (firstL ks 0 ns)[k]? <;> rfl
  simp only [Nat.reduceDiv] at C1 C2 l1 l2 HF
  generalize firstN ks 0 ns = T at HT lT ⊢
  generalize firstL ks 0 ns = F at HF HT lF
  generalize wordsL false ks 8 = W1 at C1 l1 HF
  generalize wordsL false ns 3 = W2 at C2 l2 HF
  have hsC : (strL T).toArray.size = 16 := by simp [strL_length, lT]
  have hone : ∀ v ∈ strL T, v.oneCell' = true := strL_one _
  have hsz : (Tryd.prog.info? 53).map (·.size) = some (strL T).length := by rw [strL_length, lT]; exact hsz0
  have hsz2 : (Tryd.prog.info? 53).map (·.size) = some (strL T).toArray.size := by rw [hsC]; exact hsz0
  go_enter Tryd.func44, Tryd.ntmps44
  go_wp2_with (fail)
  have h2 := m1 w (Nat.le_refl _)
  have ba : Below w.heap.size w (w.alloc (.cells Z 53)) := (Below.refl _ _).alloc (Nat.le_refl _) _
  have sa : (w.alloc (.cells Z 53)).heap.size = w.heap.size + 1 := by simp
  generalize w.alloc (.cells Z 53) = wa at h2 ba sa ⊢
  have h3 := m1 wa (by omega)
  have bb : Below wa.heap.size wa (wa.alloc (.cells Z 53)) := (Below.refl _ _).alloc (Nat.le_refl _) _
  have hwbs : (wa.alloc (.cells Z 53)).heap.size = wa.heap.size + 1 := by simp
  generalize wa.alloc (.cells Z 53) = wb at h3 bb hwbs ⊢
  rw [sa] at h3 hwbs
  replace h2 := h2.below bb
  have bel := below_on ba bb
  clear ba bb sa hz m1
  obtain ⟨B3, hB3⟩ : ∃ B3, B3 = w.heap.size + 1 := ⟨_, rfl⟩
  rw [← hB3] at h3 ⊢
  have hne : w.heap.size ≠ B3 := by omega
  have hsb := bel.size
  have hb3 : wb.heap.size = B3 + 1 := by rw [hB3]; exact hwbs
  have hge : w.heap.size ≤ B3 := by omega
  clear hB3 hwbs
  obtain ⟨wc, hwc⟩ : ∃ wc, wc = wb.alloc (.cells #[.int .i64 1634760805, .int .i64 857760878, .int .i64 2036477234, .int .i64 1797285236] 3) := ⟨_, rfl⟩
  have bc : Below wb.heap.size wb wc := by rw [hwc]; exact (Below.refl _ _).alloc (Nat.le_refl _) _
  have hcs : wc.heap.size = B3 + 1 + 1 := by rw [hwc]; simp [hb3]
  have ic : IntsIn wc (some ⟨B3 + 1, 0, none⟩) 4 [1634760805, 857760878, 2036477234, 1797285236] := by
    rw [← hb3, hwc]
    exact owns_inI (base := wb.heap.size) (e := 3) (c := 4) ⟨rfl, .inr ⟨wb.heap.size, 4, _, rfl, Nat.le_refl _, heap_alloc_new wb _, Nat.le_refl _, by unfold maxLen; omega, rfl, rfl⟩⟩
  obtain ⟨wd, hwd⟩ : ∃ wd, wd = wc.alloc (.cells #[.int .i64 0] 3) := ⟨_, rfl⟩
  have bd : Below wc.heap.size wc wd := by rw [hwd]; exact (Below.refl _ _).alloc (Nat.le_refl _) _
  have id : IntsIn wd (some ⟨B3 + 1 + 1, 0, none⟩) 1 [0] := by
    rw [← hcs, hwd]
    exact owns_inI (base := wc.heap.size) (e := 3) (c := 1) ⟨rfl, .inr ⟨wc.heap.size, 1, _, rfl, Nat.le_refl _, heap_alloc_new wc _, Nat.le_refl _, by unfold maxLen; omega, rfl, rfl⟩⟩
  replace ic := in_belowI ic bd
  have bcd := below_on bc bd
  replace h2 := h2.below bcd
  replace h3 := h3.below bcd
  replace bel := below_on bel bcd
  rw [← hwc, ← hwd]
  clear hwc hwd bc bd bcd hcs
  refine (C1 _ (in_below h bel)).mono ?_
  rintro e w5 ⟨p5, c5, rfl, r5, b5⟩
  have i5 := r5.ints
  replace ic := in_belowI ic b5
  replace id := in_belowI id b5
  replace h2 := h2.below b5
  replace h3 := h3.below b5
  replace bel := below_on bel b5
  clear r5 b5 C1
  go_wp2_with (fail)
  refine (C2 _ (in_below h' bel)).mono ?_
  rintro e w6 ⟨p6, c6, rfl, r6, b6⟩
  have i6 := r6.ints
  replace i5 := in_belowI i5 b6
  replace ic := in_belowI ic b6
  replace id := in_belowI id b6
  replace h2 := h2.below b6
  replace h3 := h3.below b6
  replace bel := below_on bel b6
  clear r6 b6 C2
  have CC := concat4I (some ⟨B3 + 1, 0, none⟩) p5 (some ⟨B3 + 1 + 1, 0, none⟩) p6 4 8 1 3 4 c5 1 c6 [1634760805, 857760878, 2036477234, 1797285236] W1 [0] W2 w6 rfl l1 rfl l2 (by omega) (by omega) ic i5 id i6 _ rfl
  rw [HF.out] at CC
  clear ic i5 id i6 l1 l2 HF
  go_wp2_with (fail)
  refine CC.mono ?_
  rintro e w7 ⟨p7, c7, rfl, r7, b7⟩
  have hl3 := h3.lt.2
  have hl2 := h2.lt.2
  replace h2 := h2.below b7
  replace h3 := h3.below b7
  replace bel := below_on bel b7
  obtain ⟨g7, hg7⟩ := owns_at r7.1 (by decide)
  subst hg7
  have hl7 := r7.1.lt g7 rfl
  have hne7 : B3 ≠ g7 := by omega
  have I7 := r7.ints
  obtain ⟨w8, hw8⟩ : ∃ w8, w8 = w7 := ⟨_, rfl⟩
  have HC : Hid (∀ i, i < 16 → w8.cell? ⟨g7, i, none⟩ = some (.int .i64 (F.getD i 0))) := by
    obtain ⟨bb, oo, e1, e2⟩ := I7 (by decide)
    simp only [Option.some.injEq, Addr.mk.injEq, and_true] at e1
    obtain ⟨rfl, rfl⟩ := e1
    intro i hi
    have := e2 i hi
    rw [Nat.zero_add] at this
    rw [hw8]
    exact this
  have hg8 : g7 < w8.heap.size := by rw [hw8]; exact hl7.2
  have hgr0 : w8.grownBy w7 (some B3) := by rw [hw8]; exact World.grownBy.refl _ _
  have bel8 : Below w.heap.size w w8 := by rw [hw8]; exact bel
  have h28 : StrIs w8 w.heap.size w.heap.size zero16 := by rw [hw8]; exact h2
  have h30 : StrIs w7 w.heap.size B3 (strFill T 0) := h3
  have hcap := owns_cap r7.1
  clear CC b7 r7 I7 hl3 hl2 hl7 hw8 bel h2 h3
  go_wp2_with (fail)
  go_loopw [31] (fun i wr => ∃ k : Nat, k ≤ 16 ∧ i = .int .i64 k ∧ StrIs wr w.heap.size B3 (strFill T k) ∧ w8.grownBy wr (some B3))
    (fun i _ => 16 - (intOf i).toNat)
  case atStart => exact ⟨0, by omega, rfl, h30, hgr0⟩
  case round =>
    clear h30 hgr0
    obtain ⟨k, hk, rfl, hH, hgr⟩ := hrel
    by_cases hlt : k < 16
    · have hlt' : (k : Int) < 16 := by omega
      have cy := (cell_grownQ (p := ⟨g7, k, none⟩) hgr hg8 (Ne.symm hne7)).trans (HC.out k hlt)
      have cold := hH.cell k hlt
      rw [strFill_get lT k hlt] at cold
      have hfr := hH.frozen k
      have st := hH.set k (wordN (F.getD k 0))
      rw [strFill_set lT k hlt _ (HT.out k).symm] at st
      have hwe := wordN_eq (F.getD k 0)
      generalize wordN (F.getD k 0) = u at st hwe
      generalize F.getD k 0 = y at cy hwe
      have mu : y % 4294967296 = (u : Int) := hwe.symm
      have wu : IntKind.u32.wrap y = (u : Int) := by rw [IntKind.wrap_u32]; exact mu
      have hgr' := grown_trans hgr st.2
      have st' := st.1
      clear st hH hgr hwe
      go_wp2
      go_roundw
      case rel => exact ⟨k + 1, by omega, by go_num, st', hgr'⟩
      case measure => simp [intOf]; omega
    · have hnl : ¬ (k : Int) < 16 := by omega
      have hfin : strFill T k = T := by simp [strFill, show k = 16 by omega, List.take_of_length_le (show T.length ≤ 16 by omega)]
      rw [hfin] at hH
      clear hfin
      have hra := hH.range
      have hk2 := h28.kept hgr hne
      have hth2 : wr.there w.heap.size 0 (strL T).toArray.size := by rw [hsC]; exact hk2.there
      have hp := hk2.put lT
      have hbel : Below w.heap.size w (wr.setCells w.heap.size 0 (strL T)) := (bel8.grown hgr bel8.size (fun k hk => by cases hk; exact hge)).grown hp.2 (Nat.le_trans bel8.size hgr.size) (fun k hk => by cases hk; exact Nat.le_refl _)
      have hld := run_loadVar_mid (P := Tryd.prog) _ w.heap.size 0 53 _ _ hp.1.range Tryd.underlying53 rfl hsz
      obtain ⟨Cs, hCs⟩ : ∃ Cs, Cs = strL T := ⟨_, rfl⟩
      rw [← hCs] at hra hsz hsz2 hth2 hbel hld hone
      replace hCs : Hid (Cs = strL T) := hCs
      clear hp hk2 hH hgr
      go_wp2_with (first | (refine wpList_load_mid rfl 53 _ rfl B3 0 rfl Cs _ hra Tryd.underlying53 rfl hsz ?_) | (refine wpList_store_mid rfl 53 _ _ rfl w.heap.size 0 Cs.toArray rfl rfl hth2 hsz2 (all_oneCell_toArray hone) ?_))
      (try simp only [Exit.inBlock, Exit.then])
      refine bodyPost_ret (v := .tuple #[.agg Cs.toArray, .bool true]) ?_ rfl ⟨by rw [hCs.out], hbel⟩
      simp [results, asAddr, hld]
theorem turned_by (x : Nat) (k : Int) (m : Nat) (w : World) (hx : x < 4294967296) (hm : countN k = m) :
    Calls Tryd.prog 85 #[.int .u32 x, .int .i64 k] w fun e w' => e = .returned (.int .u32 ((turnN x m : Nat) : Int)) ∧ w' = w := by
  subst hm
  exact turned_same x k w hx
theorem u32_sum (a b : Nat) : IntKind.u32.wrap ((a : Int) + (b : Int)) = (((a + b) % 4294967296 : Nat) : Int) := by
  rw [IntKind.wrap_u32]
  omega
theorem u32_summ (a b : Nat) : ((a : Int) + (b : Int)) % 4294967296 = (((a + b) % 4294967296 : Nat) : Int) := by omega
theorem u32_xor2 (a b : Nat) (ha : a < 4294967296) (hb : b < 4294967296) : bits .xor .u32 (a : Int) (b : Int) = ((a ^^^ b : Nat) : Int) := by
  have e : bits .xor .u32 (a : Int) (b : Int) = IntKind.u32.wrap ((BitVec.ofInt 32 (a : Int) ^^^ BitVec.ofInt 32 (b : Int)).toNat : Int) := rfl
  have e1 : (BitVec.ofInt 32 (a : Int)).toNat = a := by rw [BitVec.toNat_ofInt]; omega
  have e2 : (BitVec.ofInt 32 (b : Int)).toNat = b := by rw [BitVec.toNat_ofInt]; omega
  have hlt : a ^^^ b < 4294967296 := Nat.xor_lt_two_pow (n := 32) ha hb
  rw [e, BitVec.toNat_xor, e1, e2, IntKind.wrap_u32]
  omega
theorem xor_lt32 {a b : Nat} (ha : a < 4294967296) (hb : b < 4294967296) : a ^^^ b < 4294967296 := Nat.xor_lt_two_pow (n := 32) ha hb
theorem mod_lt32 (a : Nat) : a % 4294967296 < 4294967296 := Nat.mod_lt _ (by decide)
set_option maxHeartbeats 2400000 in
theorem quarter_same (a b c d : Nat) (w : World) (hb : b < 4294967296) (hd : d < 4294967296) :
    Calls Tryd.prog 78 #[.int .u32 (a : Int), .int .u32 (b : Int), .int .u32 (c : Int), .int .u32 (d : Int)] w fun e w' => e = .returned (.tuple #[.int .u32 ((quarterN a b c d).1 : Int), .int .u32 ((quarterN a b c d).2.1 : Int), .int .u32 ((quarterN a b c d).2.2.1 : Int), .int .u32 ((quarterN a b c d).2.2.2 : Int)]) ∧ w' = w := by
  simp only [quarterN]
  have s1 := u32_sum a b
  have m1 := u32_summ a b
  have l1 := mod_lt32 (a + b)
  generalize (a + b) % 4294967296 = a1 at s1 m1 l1 ⊢
  have x1 := u32_xor2 d a1 hd l1
  have lx1 := xor_lt32 hd l1
  generalize d ^^^ a1 = y1 at x1 lx1 ⊢
  have c1 := fun w => turned_by y1 16 16 w lx1 rfl
  have lt1 := turn_lt (m := 16) lx1 (by decide)
  generalize turnN y1 16 = d1 at c1 lt1 ⊢
  have s2 := u32_sum c d1
  have m2 := u32_summ c d1
  have l2 := mod_lt32 (c + d1)
  generalize (c + d1) % 4294967296 = c2 at s2 m2 l2 ⊢
  have x2 := u32_xor2 b c2 hb l2
  have lx2 := xor_lt32 hb l2
  generalize b ^^^ c2 = y2 at x2 lx2 ⊢
  have k2 := fun w => turned_by y2 12 12 w lx2 rfl
  have lt2 := turn_lt (m := 12) lx2 (by decide)
  generalize turnN y2 12 = b1 at k2 lt2 ⊢
  have s3 := u32_sum a1 b1
  have m3 := u32_summ a1 b1
  have l3 := mod_lt32 (a1 + b1)
  generalize (a1 + b1) % 4294967296 = a2 at s3 m3 l3 ⊢
  have x3 := u32_xor2 d1 a2 lt1 l3
  have lx3 := xor_lt32 lt1 l3
  generalize d1 ^^^ a2 = y3 at x3 lx3 ⊢
  have k3 := fun w => turned_by y3 8 8 w lx3 rfl
  have lt3 := turn_lt (m := 8) lx3 (by decide)
  generalize turnN y3 8 = d2 at k3 lt3 ⊢
  have s4 := u32_sum c2 d2
  have m4 := u32_summ c2 d2
  have l4 := mod_lt32 (c2 + d2)
  generalize (c2 + d2) % 4294967296 = c3 at s4 m4 l4 ⊢
  have x4 := u32_xor2 b1 c3 lt2 l4
  have lx4 := xor_lt32 lt2 l4
  generalize b1 ^^^ c3 = y4 at x4 lx4 ⊢
  have k4 := fun w => turned_by y4 7 7 w lx4 rfl
  generalize turnN y4 7 = b2 at k4 ⊢
  clear lt1 lt2 lt3 l1 l2 l3 l4 lx1 lx2 lx3 lx4 hb hd
  go_enter Tryd.func78, Tryd.ntmps78
  go_wp2_with (fail)
  refine (c1 _).mono ?_
  rintro e w1 ⟨rfl, rfl⟩
  go_wp2_with (fail)
  refine (k2 _).mono ?_
  rintro e w1 ⟨rfl, rfl⟩
  go_wp2_with (fail)
  refine (k3 _).mono ?_
  rintro e w1 ⟨rfl, rfl⟩
  go_wp2_with (fail)
  refine (k4 _).mono ?_
  rintro e w1 ⟨rfl, rfl⟩
  go_wp2
  (try simp only [Exit.inBlock, Exit.then])
  refine bodyPost_ret (v := .tuple #[.int .u32 (a2 : Int), .int .u32 (b2 : Int), .int .u32 (c3 : Int), .int .u32 (d2 : Int)]) ?_ rfl ⟨rfl, rfl⟩
  simp [results, asAddr]
end Go.Proofs.YthjapmdikbmmkaaDoor
namespace Go.Proofs.YthjapmdikbmmkaaDoor
set_option maxRecDepth 100000
def castL (S : List Nat) : List Int := S.map fun (n : Nat) => (n : Int)
theorem castL_length (S : List Nat) : (castL S).length = S.length := by simp [castL]
theorem castL_getD (S : List Nat) (k : Nat) : (castL S).getD k 0 = ((S.getD k 0 : Nat) : Int) := by
  simp only [castL, List.getD_eq_getElem?_getD, List.getElem?_map]
  cases S[k]? <;> rfl
theorem castL_set (S : List Nat) (k n : Nat) : (castL S).set k (n : Int) = castL (S.set k n) := by simp [castL, List.map_set]
def lowS (S : List Nat) : Prop := ∀ x ∈ S, x < 4294967296
theorem lowS.get {S : List Nat} (h : lowS S) (k : Nat) : S.getD k 0 < 4294967296 := by
  rw [List.getD_eq_getElem?_getD]
  cases hk : S[k]? with
  | none => decide
  | some x => exact h x (List.mem_of_getElem? hk)
theorem lowS.set {S : List Nat} (h : lowS S) (k : Nat) {n : Nat} (hn : n < 4294967296) : lowS (S.set k n) := by
  intro x hx
  rcases List.mem_or_eq_of_mem_set hx with h1 | h1
  · exact h x h1
  · rw [h1]; exact hn
theorem quarterN_low {a b c d : Nat} (hb : b < 4294967296) (hd : d < 4294967296) : (quarterN a b c d).1 < 4294967296 ∧ (quarterN a b c d).2.1 < 4294967296 ∧ (quarterN a b c d).2.2.1 < 4294967296 ∧ (quarterN a b c d).2.2.2 < 4294967296 := by
  simp only [quarterN]
  exact ⟨mod_lt32 _, turn_lt (xor_lt32 (turn_lt (xor_lt32 hb (mod_lt32 _)) (by decide)) (mod_lt32 _)) (by decide), mod_lt32 _, turn_lt (xor_lt32 (turn_lt (xor_lt32 hd (mod_lt32 _)) (by decide)) (mod_lt32 _)) (by decide)⟩
def quarterS (S : List Nat) (a b c d : Nat) : List Nat :=
  let q := quarterN (S.getD a 0) (S.getD b 0) (S.getD c 0) (S.getD d 0)
  (((S.set a q.1).set b q.2.1).set c q.2.2.1).set d q.2.2.2
theorem quarterS_length (S : List Nat) (a b c d : Nat) : (quarterS S a b c d).length = S.length := by simp [quarterS]
theorem quarterS_low {S : List Nat} (h : lowS S) (a b c d : Nat) : lowS (quarterS S a b c d) := by
  have q := quarterN_low (a := S.getD a 0) (c := S.getD c 0) (h.get b) (h.get d)
  exact (((h.set a q.1).set b q.2.1).set c q.2.2.1).set d q.2.2.2
theorem quarterL_cast {S : List Nat} (h : lowS S) (a b c d : Nat) : quarterL (castL S) a b c d = castL (quarterS S a b c d) := by
  simp only [quarterL, setQ, castL_getD, wordN_nat (h.get _), castL_set, quarterS]
def placesL : List (List Nat) := [[0, 4, 8, 12], [1, 5, 9, 13], [2, 6, 10, 14], [3, 7, 11, 15], [0, 5, 10, 15], [1, 6, 11, 12], [2, 7, 8, 13], [3, 4, 9, 14]]
def placeN (k i : Nat) : Nat := (placesL.getD k []).getD i 0
def eightS (S : List Nat) : Nat → List Nat
  | 0 => S
  | k + 1 => quarterS (eightS S k) (placeN k 0) (placeN k 1) (placeN k 2) (placeN k 3)
theorem eightS_length (S : List Nat) : ∀ k, (eightS S k).length = S.length
  | 0 => rfl
  | k + 1 => by rw [eightS, quarterS_length, eightS_length S k]
theorem eightS_low {S : List Nat} (h : lowS S) : ∀ k, lowS (eightS S k)
  | 0 => h
  | k + 1 => quarterS_low (eightS_low h k) _ _ _ _
theorem doubleL_cast {S : List Nat} (h : lowS S) : doubleL (castL S) = castL (eightS S 8) := by
  have c : ∀ k, k ≤ 4 → colsL (castL S) k = castL (eightS S k) := by
    intro k
    induction k with
    | zero => intro _; rfl
    | succ k ih =>
      intro hk
      rw [colsL, ih (by omega), quarterL_cast (eightS_low h k)]
      have h4 : k = 0 ∨ k = 1 ∨ k = 2 ∨ k = 3 := by omega
      rcases h4 with rfl | rfl | rfl | rfl <;> rfl
  have d : ∀ k, k ≤ 4 → diasL (castL (eightS S 4)) k = castL (eightS S (4 + k)) := by
    intro k
    induction k with
    | zero => intro _; rfl
    | succ k ih =>
      intro hk
      rw [diasL, ih (by omega), quarterL_cast (eightS_low h _)]
      have h4 : k = 0 ∨ k = 1 ∨ k = 2 ∨ k = 3 := by omega
      rcases h4 with rfl | rfl | rfl | rfl <;> rfl
  rw [doubleL, c 4 (by decide), d 4 (by decide)]
def tenS (S : List Nat) : Nat → List Nat
  | 0 => S
  | k + 1 => eightS (tenS S k) 8
theorem tenS_length (S : List Nat) : ∀ k, (tenS S k).length = S.length
  | 0 => rfl
  | k + 1 => by rw [tenS, eightS_length, tenS_length S k]
theorem tenS_low {S : List Nat} (h : lowS S) : ∀ k, lowS (tenS S k)
  | 0 => h
  | k + 1 => eightS_low (tenS_low h k) _
theorem tenL_cast {S : List Nat} (h : lowS S) : ∀ k, tenL (castL S) k = castL (tenS S k)
  | 0 => rfl
  | k + 1 => by rw [tenL, tenL_cast h k, doubleL_cast (tenS_low h k), tenS]
def sumS (S F : List Nat) : List Int := (List.range 16).map fun i => (((S.getD i 0 + F.getD i 0) % 4294967296 : Nat) : Int)
theorem sumS_length (S F : List Nat) : (sumS S F).length = 16 := by simp [sumS]
theorem sumS_getD (S F : List Nat) (k : Nat) (hk : k < 16) : (sumS S F).getD k 0 = (((S.getD k 0 + F.getD k 0) % 4294967296 : Nat) : Int) := by simp [sumS, hk]
theorem sumsL_cast {S F : List Nat} (hS : lowS S) (hF : lowS F) (hl : S.length = 16) : sumsL (castL S) (castL F) 16 = sumS S F := by
  rw [sumsL, List.drop_of_length_le (by rw [castL_length]; omega), List.append_nil]
  apply List.map_congr_left
  intro i _
  rw [castL_getD, castL_getD, wordN_nat (hS.get i), wordN_nat (hF.get i)]
theorem blkB_cast {F : List Nat} (hF : lowS F) (hl : F.length = 16) {ks ns : List Int} {count : Int} (h : firstL ks count ns = castL F) : blkB ks count ns = bytesL false (sumS (tenS F 10) F) := by
  rw [blkB, h, tenL_cast hF, sumsL_cast (tenS_low hF _) hF (by rw [tenS_length, hl])]
theorem firstN_set (ks ns : List Int) (count : Int) : (firstN ks 0 ns).set 12 (wordN count) = firstN ks count ns := by
  have e : firstL ks count ns = (firstL ks 0 ns).set 12 count := by
    simp only [firstL]
    rw [List.set_append_left _ _ (by simp [wordsL]), List.set_append_right _ _ (by simp [wordsL])]
    simp [wordsL]
  rw [firstN, firstN, e, List.map_set]
theorem firstL_cast (ks ns : List Int) (count : Int) (hc : 0 ≤ count ∧ count ≤ 4294967295) (hw : ∀ x ∈ wordsL false ks 8, 0 ≤ x ∧ x < 4294967296) (hv : ∀ x ∈ wordsL false ns 3, 0 ≤ x ∧ x < 4294967296) : firstL ks count ns = castL (firstN ks count ns) ∧ lowS (firstN ks count ns) := by
  have hall : ∀ x ∈ firstL ks count ns, 0 ≤ x ∧ x < 4294967296 := by
    intro x hx
    simp only [firstL, List.mem_append, List.mem_cons, List.not_mem_nil, or_false] at hx
    rcases hx with (((rfl | rfl | rfl | rfl) | h) | rfl) | h
    · decide
    · decide
    · decide
    · decide
    · exact hw x h
    · omega
    · exact hv x h
  refine ⟨?_, fun x hx => ?_⟩
  · rw [firstN, castL, List.map_map]
    conv => lhs; rw [← List.map_id (firstL ks count ns)]
    apply List.map_congr_left
    intro x hx
    have := hall x hx
    simp only [id, Function.comp, wordN]
    omega
  · simp only [firstN, List.mem_map] at hx
    obtain ⟨y, _, rfl⟩ := hx
    exact wordN_lt y
section
variable {P : Program} {ops : Array Oper} {Q : Exit → Act → World → Prop} {T S : World → Prop} {m : Nat}
def AnyT (P : Program) (ops : Array Oper) (Q : Exit → Act → World → Prop) (T S : World → Prop) (m : Nat) : Nat → Array Bool → Act → World → Prop
  | 0, listed, a, w => Region.ready .any ops listed = [] ∧ Q .normal a w
  | fuel + 1, listed, a, w => (Region.ready .any ops listed = [] → Q .normal a w) ∧ ∀ i ∈ Region.ready .any ops listed, wpOp P ops Q i (fun a' w' => T w' ∧ ((listed.setIfInBounds i true).getD m true = false → S w') ∧ AnyT P ops Q T S m fuel (listed.setIfInBounds i true) a' w') a w
theorem AnyT.any : ∀ (fuel : Nat) (listed : Array Bool) (a : Act) (w : World), AnyT P ops Q T S m fuel listed a w → wpAny P .any ops Q fuel listed a w
  | 0, _, _, _, h => h
  | fuel + 1, _, _, _, h => ⟨h.1, fun i hi => wpOp_mono (fun a' w' k => AnyT.any fuel _ a' w' k.2.2) (h.2 i hi)⟩
theorem anyT_firstS {i : Nat} {oi om : Oper} {v : Value} (hi : ops[i]? = some oi) (hm : ops[m]? = some om) (him : i ≠ m) (hwait : ∃ e ∈ om.after, Region.binds .any e = true ∧ e.on = i) (hsel : ∀ (j : Nat) (o : Oper) cs b, ops[j]? = some o → o.op ≠ .select cs b)
    (hQ : ∀ c a w, Q (.panic c) (a.put oi.dst v) w → Q (.panic c) a w) :
    ∀ (fuel : Nat) (listed : Array Bool) (a : Act) (w : World),
      (∀ j oj, ops[j]? = some oj → j ≠ i → listed.getD j true = false → (∀ e ∈ oj.after, Region.binds .any e = true → e.on ≠ i) → oi.apart ops oj = true) →
      i ∈ Region.ready .any ops listed → YieldsIf P ops (fun w => T w ∧ S w) oi v a → T w → (listed.getD m true = false → S w) → listed.getD m true = false →
      AnyT P ops Q T S m fuel (listed.setIfInBounds i true) (a.put oi.dst v) w → AnyT P ops Q T S m (fuel + 1) listed a w := by
  intro fuel
  induction fuel with
  | zero =>
    intro listed a w _ hr hy hT hS hlm H
    refine ⟨fun h => absurd hr (by rw [h]; exact List.not_mem_nil), fun j hj => ?_⟩
    by_cases hji : j = i
    · subst hji; exact hy.wpOp hi ⟨hT, hS hlm⟩ ⟨hT, fun h => hS (by rwa [getD_set_ne true him] at h), H⟩
    · exact absurd (ready_mono hj hji) (by rw [H.1]; exact List.not_mem_nil)
  | succ fuel ih =>
    intro listed a w hfree hr hy hT hS hlm H
    refine ⟨fun h => absurd hr (by rw [h]; exact List.not_mem_nil), fun j hj => ?_⟩
    by_cases hji : j = i
    · subst hji; exact hy.wpOp hi ⟨hT, hS hlm⟩ ⟨hT, fun h => hS (by rwa [getD_set_ne true him] at h), H⟩
    · have hun : listed.getD i true = false := (mem_ready.1 hr).1
      obtain ⟨hjun, oj, hoj, hall⟩ := mem_ready.1 hj
      have hnot : ∀ e ∈ oj.after, Region.binds .any e = true → e.on ≠ i := fun e he hb heq => by
        have h1 := hall e he hb
        rw [heq] at h1
        rcases Nat.lt_or_ge i listed.size with h' | h'
        · simp [h'] at hun h1
          rw [hun] at h1
          cases h1
        · simp [Array.getElem?_eq_none h'] at h1
      have hjm : j ≠ m := fun e => by
        subst e
        rw [hoj] at hm
        cases hm
        obtain ⟨e, he, hb, ho⟩ := hwait
        exact hnot e he hb ho
      have hlm' : (listed.setIfInBounds j true).getD m true = false := by rw [getD_set_ne true hjm]; exact hlm
      have h2 := wpOp_putIf hoj (hfree j oj hoj hji hjun hnot) (fun cs b => hsel i oi cs b hi) (fun cs b => hsel j oj cs b hoj) hQ hy (H.2 j (ready_mono hj hji))
      refine wpOp_mono (fun a' w' k => ?_) h2
      obtain ⟨k1, k2, k3, k4⟩ := k
      rw [Array.setIfInBounds_comm _ _ (Ne.symm hji)] at k3 k4
      have hS' : (listed.setIfInBounds j true).getD m true = false → S w' := fun h => k3 (by rw [getD_set_ne true him]; exact h)
      refine ⟨k2, hS', ih _ a' w' (fun q oq hq hqi hqu hqn => hfree q oq hq hqi ?_ hqn) (ready_mono hr (Ne.symm hji)) k1 k2 hS' hlm' k4⟩
      by_cases hjq : j = q
      · subst hjq; exact hjun
      · rw [getD_set_ne true hjq] at hqu; exact hqu
theorem anyT_firstT {i : Nat} {oi : Oper} {v : Value} (hi : ops[i]? = some oi) (him : i ≠ m) (hsel : ∀ (j : Nat) (o : Oper) cs b, ops[j]? = some o → o.op ≠ .select cs b)
    (hQ : ∀ c a w, Q (.panic c) (a.put oi.dst v) w → Q (.panic c) a w) :
    ∀ (fuel : Nat) (listed : Array Bool) (a : Act) (w : World),
      (∀ j oj, ops[j]? = some oj → j ≠ i → listed.getD j true = false → (∀ e ∈ oj.after, Region.binds .any e = true → e.on ≠ i) → oi.apart ops oj = true) →
      i ∈ Region.ready .any ops listed → YieldsIf P ops T oi v a → T w → (listed.getD m true = false → S w) →
      AnyT P ops Q T S m fuel (listed.setIfInBounds i true) (a.put oi.dst v) w → AnyT P ops Q T S m (fuel + 1) listed a w := by
  intro fuel
  induction fuel with
  | zero =>
    intro listed a w _ hr hy hT hS H
    refine ⟨fun h => absurd hr (by rw [h]; exact List.not_mem_nil), fun j hj => ?_⟩
    by_cases hji : j = i
    · subst hji; exact hy.wpOp hi hT ⟨hT, fun h => hS (by rwa [getD_set_ne true him] at h), H⟩
    · exact absurd (ready_mono hj hji) (by rw [H.1]; exact List.not_mem_nil)
  | succ fuel ih =>
    intro listed a w hfree hr hy hT hS H
    refine ⟨fun h => absurd hr (by rw [h]; exact List.not_mem_nil), fun j hj => ?_⟩
    by_cases hji : j = i
    · subst hji; exact hy.wpOp hi hT ⟨hT, fun h => hS (by rwa [getD_set_ne true him] at h), H⟩
    · have hun : listed.getD i true = false := (mem_ready.1 hr).1
      obtain ⟨hjun, oj, hoj, hall⟩ := mem_ready.1 hj
      have hnot : ∀ e ∈ oj.after, Region.binds .any e = true → e.on ≠ i := fun e he hb heq => by
        have h1 := hall e he hb
        rw [heq] at h1
        rcases Nat.lt_or_ge i listed.size with h' | h'
        · simp [h'] at hun h1
          rw [hun] at h1
          cases h1
        · simp [Array.getElem?_eq_none h'] at h1
      have h2 := wpOp_putIf hoj (hfree j oj hoj hji hjun hnot) (fun cs b => hsel i oi cs b hi) (fun cs b => hsel j oj cs b hoj) hQ hy (H.2 j (ready_mono hj hji))
      refine wpOp_mono (fun a' w' k => ?_) h2
      obtain ⟨k1, k2, k3, k4⟩ := k
      rw [Array.setIfInBounds_comm _ _ (Ne.symm hji)] at k3 k4
      have hS' : (listed.setIfInBounds j true).getD m true = false → S w' := fun h => k3 (by rw [getD_set_ne true him]; exact h)
      refine ⟨k2, hS', ih _ a' w' (fun q oq hq hqi hqu hqn => hfree q oq hq hqi ?_ hqn) (ready_mono hr (Ne.symm hji)) k1 k2 hS' k4⟩
      by_cases hjq : j = q
      · subst hjq; exact hjun
      · rw [getD_set_ne true hjq] at hqu; exact hqu
theorem anyT_takeS {i : Nat} {oi om : Oper} {v : Value} {fuel : Nat} {listed : Array Bool} {a : Act} {w : World} (hi : ops[i]? = some oi) (hm : ops[m]? = some om) (him : (i != m && om.after.any (fun e => Region.binds .any e && e.on == i)) = true)
    (hs : Region.noSelect ops = true) (hf : Region.free .any ops listed i = true) (hr : (Region.ready .any ops listed).contains i = true) (hlm : listed.getD m true = false)
    (hQ : ∀ c a w, Q (.panic c) (a.put oi.dst v) w → Q (.panic c) a w) (hy : YieldsIf P ops (fun w => T w ∧ S w) oi v a) (hT : T w) (hS : S w)
    (h : AnyT P ops Q T S m fuel (listed.setIfInBounds i true) (a.put oi.dst v) w) : AnyT P ops Q T S m (fuel + 1) listed a w := by
  rw [Bool.and_eq_true] at him
  refine anyT_firstS hi hm (by simpa using him.1) ?_ (Region.noSelect_spec hs) hQ fuel listed a w (Region.free_spec hi hf) (by simpa using hr) hy hT (fun _ => hS) hlm h
  obtain ⟨e, he, hb⟩ := Array.any_eq_true'.1 him.2
  rw [Bool.and_eq_true] at hb
  exact ⟨e, he, hb.1, by simpa using hb.2⟩
theorem anyT_takeT {i : Nat} {oi : Oper} {v : Value} {fuel : Nat} {listed : Array Bool} {a : Act} {w : World} (hi : ops[i]? = some oi) (him : (i != m) = true)
    (hs : Region.noSelect ops = true) (hf : Region.free .any ops listed i = true) (hr : (Region.ready .any ops listed).contains i = true)
    (hQ : ∀ c a w, Q (.panic c) (a.put oi.dst v) w → Q (.panic c) a w) (hy : YieldsIf P ops T oi v a) (hT : T w) (hS : listed.getD m true = false → S w)
    (h : AnyT P ops Q T S m fuel (listed.setIfInBounds i true) (a.put oi.dst v) w) : AnyT P ops Q T S m (fuel + 1) listed a w :=
  anyT_firstT hi (by simpa using him) (Region.noSelect_spec hs) hQ fuel listed a w (Region.free_spec hi hf) (by simpa using hr) hy hT hS h
theorem anyT_one {i : Nat} {o : Oper} {fuel : Nat} {listed : Array Bool} {a : Act} {w : World} (hr : Region.ready .any ops listed = [i]) (ho : ops[i]? = some o)
    (h : ∀ K' : Act → World → Prop, Go.Shut (∀ a w, T w → ((listed.setIfInBounds i true).getD m true = false → S w) → AnyT P ops Q T S m fuel (listed.setIfInBounds i true) a w → K' a w) → if Region.wanted o (yielded ops a.tmps) = true then Oper.wp P o a w K' Q else K' (a.put o.dst undef) w) :
    AnyT P ops Q T S m (fuel + 1) listed a w := by
  refine ⟨fun e => absurd (hr.symm.trans e) (by simp), fun j hj => ?_⟩
  rw [hr, List.mem_singleton] at hj
  subst hj
  exact wpOp_step ho (fun K' hK => h K' (fun a w h0 h1 h2 => hK a w ⟨h0, h1, h2⟩))
theorem anyT_done {listed : Array Bool} {a : Act} {w : World} (hr : Region.ready .any ops listed = []) (h : Q .normal a w) : ∀ fuel, AnyT P ops Q T S m fuel listed a w
  | 0 => ⟨hr, h⟩
  | _ + 1 => ⟨fun _ => h, by rw [hr]; simp⟩
theorem wp_region_T (m : Nat) (T S : World → Prop) {id : Nat} {a : Act} {w : World} (hm : P.follows .mixedOrders = true) (h : AnyT P ops Q T S m ops.size (Array.replicate ops.size false) a w.drew) : (Code.region id ops true).wp P Q a w :=
  wp_region_any hm (h.any)
end
end Go.Proofs.YthjapmdikbmmkaaDoor
