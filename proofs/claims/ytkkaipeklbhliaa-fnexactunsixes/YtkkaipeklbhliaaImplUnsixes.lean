/-
  FnExactUnsixes: what impl.Unsixes answers. Conditions: at most 1048576 signs.
-/
import Derived.Test.YtkkaipeklbhliaaUnOk
import Derived.Test.YtkkaipeklbhliaaGrpEq
import Derived.Test.YtkkaipeklbhliaaGroupOf
import Derived.Test.YtkkaipeklbhliaaSignFar
import Derived.Test.YtkkaipeklbhliaaPlainI
import Derived.Deep.RegionHeld3
namespace Go.Proofs.Ytkkaipeklbhliaa
open Go.RowKit
set_option maxRecDepth 100000

/-- The rune that comes next, as the signs see it. -/
theorem rune6_at (s : ByteArray) (pos : Nat) (h : pos < s.size) : ∃ R wd : Nat, Utf8.decode s pos = (R, wd) ∧ (0 ≤ h6 R → (R : Int) = c6 s pos ∧ wd = 1) ∧ (h6 R < 0 → d6 s pos < 0) := by
  have e := c6_at s pos h
  by_cases ha : (s[pos]'h).toNat < 128
  · refine ⟨_, _, decode_ascii s pos h ha, fun _ => ⟨e, rfl⟩, fun hl => ?_⟩
    unfold d6
    rw [← e]; exact hl
  · have hh := decode_high s pos h (by omega)
    refine ⟨(Utf8.decode s pos).1, (Utf8.decode s pos).2, rfl, fun hl => ?_, fun _ => ?_⟩
    · rw [h6_high _ (by omega)] at hl; omega
    · unfold d6
      rw [h6_high _ (by omega)]; omega

theorem GrpIs.iter {w : World} {lo g k p0 : Nat} {S : List Int} {t : ByteArray} (h : GrpIs w lo g S) (hk : w.heap[k]? = some (.stringIter t p0)) (p1 : Nat) : GrpIs (w.iterAt k t p1) lo g S := ⟨h.1, owns_iter h.2 hk p1⟩
theorem same_pos {s : ByteArray} {q m : Nat} (h : ∀ i, i < m → 0 ≤ d6 s (4 * q + i)) (h1 : 1 ≤ m) (_ : m ≤ 4) (e : gP (prt s q m) (sixN (6 * m / 8)) = gC s q m) : 0 < 6 * m / 8 := by
  by_cases hm : m = 1
  · exfalso
    subst hm
    have : (gP (prt s q 1) (sixN (6 * 1 / 8))).getD 0 0 = (gC s q 1).getD 0 0 := by rw [e]
    rw [gP_getD _ _ _ (by decide), gC_getD _ _ _ _ (by decide), if_neg (by decide), if_pos (by decide)] at this
    have h0 := h 0 (by decide)
    unfold d6 at h0
    rw [← this] at h0
    revert h0
    decide
  · omega
/-- What is held ahead of a place of the text. -/
def UnAt (s : ByteArray) (w wr : World) (v : Value) (pos : Nat) : Prop :=
  (pos < s.size → GrpIs wr w.heap.size w.heap.size (gC s (pos / 4) (pos % 4)) ∧ wr.ownsRow (w.heap.size + 2) 5 1 v (3 * (pos / 4)) ((unT6 s (3 * (pos / 4))).map (Value.int .u8))) ∧
  (pos = s.size → ok6 s = true ∧ wr.ownsRow (w.heap.size + 2) 5 1 v (6 * s.size / 8) ((unT6 s (6 * s.size / 8)).map (Value.int .u8)))

set_option maxHeartbeats 4000000 in
theorem implUnsixes_any (s : ByteArray) (w : World) (hs : s.size ≤ 1048576) :
    Calls Try.prog 12 #[.string s] w fun e w' => ∃ p c, e = .returned (.tuple #[.slice p (unN6 s) c, .bool (ok6 s)]) ∧ Own 5 w' w.heap.size w'.heap.size (.slice p (unN6 s) c) (unN6 s) (unL6 s) ∧ Below w.heap.size w w' := by
  obtain ⟨i0, hi, hz0, hz1, hz2⟩ := info_parts infoByte
  obtain ⟨w1, hw1⟩ : ∃ w1, w1 = w.alloc (.cells #[.int .u8 0, .int .u8 0, .int .u8 0, .int .u8 0] 40) := ⟨_, rfl⟩
  have b1 : Below w.heap.size w w1 := by rw [hw1]; exact (Below.refl _ _).alloc (Nat.le_refl _) _
  have s1 : w1.heap.size = w.heap.size + 1 := by rw [hw1]; simp
  have g1 : GrpIs w1 w.heap.size w.heap.size (gC s 0 0) := by rw [hw1, gC_zero]; exact GrpIs.made w 0 0 0 0
  have b2 : Below w.heap.size w (w1.iter s 0) := b1.alloc (by omega) _
  have g2 := g1.below ((Below.refl _ w1).alloc (Nat.le_refl _) (.stringIter s 0))
  have h2 : (w1.iter s 0).heap[w.heap.size + 1]? = some (.stringIter s 0) := by rw [← s1]; exact World.iter_heap w1 s 0
  rw [hw1] at b2 g2 h2
  clear b1 g1 s1 hw1
  go_enter Try.func12, Try.ntmps12
  go_wp2
  go_loopw [4] (fun v wr => ∃ pos : Nat, pos ≤ s.size ∧ Hid (All6 s pos) ∧ wr.heap[w.heap.size + 1]? = some (.stringIter s pos) ∧ Hid (UnAt s w wr v pos) ∧ Below w.heap.size w wr)
    (fun _ wr => s.size - wr.iterPos (w.heap.size + 1))
  case atStart => exact ⟨0, Nat.zero_le _, fun j hj => by omega, h2, ⟨fun _ => ⟨g2, World.ownsRow_nil _ _ _ _⟩, fun h => ⟨ok6_empty h.symm, by rw [← h]; exact World.ownsRow_nil _ _ _ _⟩⟩, b2⟩
  case round =>
    clear h2 g2 b2
    obtain ⟨pos, hpos, hA, hit, hU, hbel⟩ := hrel
    have hsz := hbel.size
    by_cases hlt : pos < s.size
    · have hnx : ∀ ty, (Instr.next (.pointer (some ⟨w.heap.size + 1, 0, none⟩)) true ty).run Try.prog wr = _ := fun ty => Lib.run_next_any_at wr (w.heap.size + 1) s pos ty hit hlt
      obtain ⟨R, wd, hdec, hr1, hr2⟩ := rune6_at s pos hlt
      have hRm := decode_le s pos
      simp only [hdec] at hnx hRm
      clear hdec
      have hit2 := Lib.iterAt_heap wr (w.heap.size + 1) s pos (pos + wd) hit
      have hbel2 : Below w.heap.size w (wr.iterAt (w.heap.size + 1) s (pos + wd)) := Lib.below_iterAt hbel (Nat.le_succ _) s (pos + wd)
      have CC := fun X => containsRune_any (R : Int) X (by omega)
      by_cases hR : h6 (R : Int) < 0
      · have hB : Hid (ok6 s = false) := ok6_not hlt (hr2 hR)
        rw [decide_eq_false (show ¬ 0 ≤ h6 (R : Int) by omega)] at CC
        clear hr1 hr2 hA hU hRm
        go_wp2_with (go_at_call 27; refine (CC _).mono ?_; rintro e w' ⟨rfl, hb⟩)
        go_ret2
        exact un6_bad hB.out (World.ownsRow_nil _ _ _ _) (below_on hbel2 hb)
      · have hR0 : 0 ≤ h6 (R : Int) := by omega
        obtain ⟨hRc, rfl⟩ := hr1 hR0
        rw [decide_eq_true hR0] at CC
        obtain ⟨hG, hown⟩ := hU.out.1 hlt
        have hd0 : 0 ≤ d6 s pos := by unfold d6; rw [← hRc]; exact hR0
        have hA1 : Hid (All6 s (pos + 1)) := hA.out.more hd0
        have hRl : (R : Int) < 128 := Int.not_le.1 fun h => by rw [h6_high _ (by omega)] at hR0; omega
        obtain ⟨q, hq⟩ : ∃ q, pos / 4 = q := ⟨_, rfl⟩
        obtain ⟨a, ha⟩ : ∃ a, pos % 4 = a := ⟨_, rfl⟩
        have ha4 : a < 4 := by omega
        have hpa : Hid (4 * q + a = pos) := by show _ = _; omega
        rw [hq, ha] at hG
        rw [hq] at hown
        have ham : (pos : Int) % 4 = (a : Int) := by omega
        replace hRc : Hid ((R : Int) = c6 s pos) := hRc
        clear hr1 hr2 hA hU hRm hq ha hR
        go_wp2_with (fail)
        refine (CC _).mono ?_
        rintro e w3 ⟨rfl, hb3⟩
        have hG3 := (hG.iter hit (pos + 1)).below hb3
        have hown3 := owns_below (owns_iter hown hit (pos + 1)) hb3
        have hl2 : w.heap.size + 1 < (wr.iterAt (w.heap.size + 1) s (pos + 1)).heap.size := (Array.getElem?_eq_some_iff.1 hit2).1
        have hit3 : w3.heap[w.heap.size + 1]? = some (.stringIter s (pos + 1)) := (hb3.block _ hl2).trans hit2
        have hbel3 := below_on hbel2 hb3
        have hl3 : w.heap.size + 1 < w3.heap.size := (Array.getElem?_eq_some_iff.1 hit3).1
        have hc := hG3.cell a ha4
        have hf := hG3.frozen a
        have st := hG3.set a (c6 s pos)
        have hset := gC_set s q a ha4
        rw [hpa.out] at hset
        rw [hset, ← hRc.out] at st
        clear hset
        have hit4 : (w3.setCell ⟨w.heap.size, a, none⟩ (.int .u8 (R : Int))).heap[w.heap.size + 1]? = some (.stringIter s (pos + 1)) := (st.2.block _ hl3 (by simp)).trans hit3
        have hown4 := hown3.kept st.2 (by
          rcases hv : u4.ownBlock with _ | k
          · exact .inl rfl
          · right
            intro he
            have := (hown3.lt k hv).1
            cases he
            omega)
        have hbel4 := hbel3.grown st.2 (by omega) (fun k hk => by cases hk; exact Nat.le_refl _)
        have hG4 := st.1
        have hm0 : Hid (wr.iterPos (w.heap.size + 1) = pos) := by show _ = _; rw [World.iterPos, hit]
        clear st hit3 hit2 hit hG hown hbel hbel2 hb3 hl2 hnx CC hG3 hown3 hsz
        by_cases hcon : a < 3 ∧ pos + 1 < s.size
        · have k1 : (a : Int) < 3 := by omega
          have k2 : (pos : Int) < (s.size : Int) - 1 := by omega
          have hcon' : Hid (a < 3 ∧ pos + 1 < s.size) := hcon
          clear hcon
          go_wp2
          go_roundw
          case rel =>
            have h1 := hpa.out
            have h2 := hcon'.out
            refine ⟨pos + 1, by omega, hA1, hit4, ⟨fun _ => ?_, fun h => by omega⟩, hbel4⟩
            rw [show (pos + 1) / 4 = q by omega, show (pos + 1) % 4 = a + 1 by omega]
            exact ⟨hG4, hown4⟩
          case measure => rw [hm0.out, World.iterPos, hit4]; simp; omega
        · have hcs : (3 ≤ (a : Int)) ∨ ((a : Int) < 3 ∧ (s.size : Int) - 1 ≤ (pos : Int)) := by omega
          have hcon' : Hid (a = 3 ∨ pos + 1 = s.size) := by show _ ∨ _; omega
          have hsg : ∀ i, i < a + 1 → 0 ≤ d6 s (4 * q + i) := fun i hi => hA1.out _ (by have := hpa.out; omega)
          have CP := fun X => partOf_any (gC s q (a + 1)) (a + 1) X (gC_length s q _) (by omega) (by omega) (gC_lt s q _) (fun i hi => gC_sign s q _ i hsg (by omega) hi)
          rw [part_of hsg (by omega) (by omega)] at CP
          simp only [show ((a + 1 : Nat) : Int) = (a : Int) + 1 from rfl] at CP
          have hsg' : Hid (∀ i, i < a + 1 → 0 ≤ d6 s (4 * q + i)) := hsg
          have hra := hG4.range
          have hsz := sizeG (gC_length s q (a + 1))
          obtain ⟨G, hGe⟩ : ∃ G, G = gC s q (a + 1) := ⟨_, rfl⟩
          rw [← hGe] at CP hra hsz hG4
          replace hGe : Hid (G = gC s q (a + 1)) := hGe
          have hPb := part_lt hsg
          have hPl := part_length s q (a + 1)
          have hE0 := same_pos hsg (Nat.succ_le_succ (Nat.zero_le a)) (by omega)
          obtain ⟨P, hPe⟩ : ∃ P, P = prt s q (a + 1) := ⟨_, rfl⟩
          obtain ⟨u, hue⟩ : ∃ u, u = 6 * (a + 1) / 8 := ⟨_, rfl⟩
          have hu3 : u ≤ 3 := by omega
          rw [← hPe] at hPb hPl CP hE0
          rw [← hue] at hPl CP hE0
          rw [← hGe.out] at hE0
          replace hE0 : Hid (gP P (sixN u) = G → 0 < u) := hE0
          replace hPe : Hid (P = prt s q (a + 1)) := hPe
          replace hue : Hid (u = 6 * (a + 1) / 8) := hue
          have hGl : G.length = 4 := hG4.1
          have heq := grpEq (gP P (sixN u)) G (gP_length _ _) hGl
          have CG := fun X p c h => groupOf_any p u c P X hu3 hPl h hPb
          obtain ⟨E, hEe⟩ : ∃ E, E = gP P (sixN u) := ⟨_, rfl⟩
          rw [← hEe] at heq hE0
          simp only [← hEe] at CG
          replace hEe : Hid (E = gP P (sixN u)) := hEe
          have hZs : (Try.prog.info? 40).map (·.size) = some (#[Value.int .u8 0, .int .u8 0, .int .u8 0, .int .u8 0] : Array Value).size := sizeG (S := [0, 0, 0, 0]) rfl
          have hZo : ∀ v ∈ [Value.int .u8 0, .int .u8 0, .int .u8 0, .int .u8 0], v.oneCell' = true := u8G_one [0, 0, 0, 0]
          have hgd : Try.prog.eqGuardType Try.prog.depth 40 = false := by kernel_rfl
          clear hsg hcon hGl
          rcases hcs with k1 | ⟨k1, k2⟩
          all_goals
            go_wp2_with (first | (refine wpList_load_mid rfl 40 _ rfl w.heap.size 0 rfl (u8G G) _ hra Try.underlying40 rfl hsz ?_) | (go_at_call 28; refine (CP _).mono ?_; rintro e w5 ⟨p5, c5, rfl, hin5, hb5⟩))
            have hG5 := hG4.below hb5
            have hown5 := owns_below hown4 hb5
            have hl4 : w.heap.size + 1 < (w3.setCell ⟨w.heap.size, a, none⟩ (.int .u8 (R : Int))).heap.size := (Array.getElem?_eq_some_iff.1 hit4).1
            have hit5 : w5.heap[w.heap.size + 1]? = some (.stringIter s (pos + 1)) := (hb5.block _ hl4).trans hit4
            have hbel5 := below_on hbel4 hb5
            have hl5 : w.heap.size + 1 < w5.heap.size := (Array.getElem?_eq_some_iff.1 hit5).1
            clear hc hf CP hra hG4 hown4 hit4 hbel4 hb5 hl4
            have e5 : Below w5.heap.size w5 w5.drew := (Below.refl _ _).drew
            have rS : w5.drew.rangeAt w.heap.size 0 (u8G G) := (hG5.below e5).range
            refine wp_region_noPanic ?_
            refine wp_region_held_drew (S := fun w' => w'.rangeAt w.heap.size 0 (u8G G)) (by kernel_rfl) rS (fun hHeld => ?_)
            refine wpAnyH_take (i := 0) (v := .slice p5 u c5) rfl (by kernel_rfl) (by kernel_rfl) (by kernel_rfl) (fun _ _ _ h => h) (Or.inl ⟨by rfl, fun w hSw => by (try dsimp only at hSw); go_simp⟩) hHeld ?_
            simp only [Act.put, List.getElem_toArray, List.getElem_cons_zero, List.setIfInBounds_toArray, List.set_cons_zero, List.set_cons_succ]
            refine wpAnyH_take (i := 2) rfl (by kernel_rfl) (by kernel_rfl) (by kernel_rfl) (fun _ _ _ h => h) (yieldsIf_load_mid (by rfl) _ _ rfl _ _ rfl (u8G G) _ (fun _ hw => hw) Try.underlying40 rfl hsz) hHeld ?_
            simp only [Act.put, List.getElem_toArray, List.getElem_cons_zero, List.getElem_cons_succ, List.setIfInBounds_toArray, List.set_cons_zero, List.set_cons_succ]
            refine wpAnyH_ready (rs := [1]) (by kernel_rfl) (by simp) ?_
            refine AllReadyH.cons rfl (fun K hK => ?_) AllReadyH.nil
            go_simp
            refine (CG _ _ _ (in_below hin5 e5)).mono ?_
            rintro e w6 ⟨rfl, b6⟩
            have b6' := below_on e5 b6
            have hG6 := hG5.below b6'
            go_wp2_with (fail)
            refine hK.out _ _ hG6.range (fun hHeld => ?_)
            clear hK K
            refine wpAnyH_take (i := 3) (v := .bool (!decide (E = G))) rfl (by kernel_rfl) (by kernel_rfl) (by kernel_rfl) (fun _ _ _ h => h) (Or.inl ⟨by rfl, fun w hSw => by (try dsimp only at hSw); go_simp⟩) hHeld ?_
            simp only [Act.put, List.getElem_toArray, List.getElem_cons_zero, List.getElem_cons_succ, List.setIfInBounds_toArray, List.set_cons_zero, List.set_cons_succ]
            refine wpAnyH_done (by kernel_rfl) ?_ _
            refine NoPanic.normal ?_
            have hown6 := owns_below hown5 b6'
            have hit6 : w6.heap[w.heap.size + 1]? = some (.stringIter s (pos + 1)) := (b6'.block _ hl5).trans hit5
            have hbel6 := below_on hbel5 b6'
            have hin6 := in_below hin5 b6'
            have hsz6 := hbel6.size
            have hl6 : w.heap.size + 1 < w6.heap.size := (Array.getElem?_eq_some_iff.1 hit6).1
            have hq3 : 3 * q ≤ 1099511627776 := by have := hpa.out; omega
            have hE1 : Hid (E = G ↔ gP (prt s q (a + 1)) (sixN (6 * (a + 1) / 8)) = gC s q (a + 1)) := by show _ ↔ _; rw [hEe.out, hGe.out, hPe.out, hue.out]
            clear hin5 hG5 hown5 hit5 hbel5 hl5 e5 rS b6 b6' hHeld heq CG hsz
            by_cases hE : E = G
            · have hu0 := hE0.out hE
              simp only [decide_eq_true hE, Bool.not_true]
              have hE' : Hid (E = G) := hE
              have hrow : Hid (unT6 s (3 * q) ++ P = unT6 s (3 * q + u)) := by show _ = _; rw [hPe.out, hue.out]; exact part_more s q (a + 1)
              clear hE hE0 hEe hGe hPe hPb
              go_wp2_with (first | (at_builtin; refine list_spread hi hz0 hz1 hz2 (.tmp 42) (.tmp 43) 22 Try.underlying22 hown6 hin6 hPl hu0 (by omega) hq3 (by omega) (by rfl) (by rfl) (by rfl) (by rfl) ?_; intro g cap w7 ho7 hg7 hb7; have hG7 := hG6.below' hb7 (by omega); have ht7 : w7.there w.heap.size 0 (#[Value.int .u8 0, .int .u8 0, .int .u8 0, .int .u8 0] : Array Value).size := hG7.there) | (refine wpList_store_mid rfl 40 _ _ rfl w.heap.size 0 #[.int .u8 0, .int .u8 0, .int .u8 0, .int .u8 0] rfl rfl ht7 hZs (all_oneCell_toArray hZo) ?_))
              have hp8 := hG7.put (S' := [0, 0, 0, 0]) rfl
              have hit7 : w7.heap[w.heap.size + 1]? = some (.stringIter s (pos + 1)) := (hb7.block _ (by omega)).trans hit6
              have hl7 : w.heap.size + 1 < w7.heap.size := (Array.getElem?_eq_some_iff.1 hit7).1
              have hbel7 := hbel6.trans (hb7.mono (by omega))
              have ho8 := ho7.kept hp8.2 (.inr (by simp [Value.ownBlock]; intro e; have := (ho7.lt g rfl).1; omega))
              have hit8 := (hp8.2.block _ hl7 (by simp)).trans hit7
              have hbel8 := hbel7.grown hp8.2 (by omega) (fun k hk => by cases hk; exact Nat.le_refl _)
              have hG8 := hp8.1
              rw [hrow.out] at ho8
              have hZe : u8G [0, 0, 0, 0] = [Value.int .u8 0, .int .u8 0, .int .u8 0, .int .u8 0] := rfl
              rw [hZe] at ho8 hit8 hbel8 hG8
              clear hZe hp8 ho7 hg7 hb7 hG7 ht7 hit7 hl7 hbel7 hown6 hit6 hbel6 hin6 hG6
              dsimp only [Act.put]
              go_roundw
              case rel =>
                have h1 := hpa.out
                have h2 := hcon'.out
                have h3 := hue.out
                refine ⟨pos + 1, by omega, hA1, hit8, ⟨fun h => ?_, fun h => ⟨?_, ?_⟩⟩, hbel8⟩
                · have h4 : a = 3 := by omega
                  subst h4
                  rw [show (pos + 1) / 4 = q + 1 by omega, show (pos + 1) % 4 = 0 by omega, gC_zero, show 3 * (q + 1) = 3 * q + u by omega]
                  exact ⟨hG8, ho8⟩
                · exact (ok6_last (q := q) (m := a + 1) (by omega) (by omega) (by omega) (by have := hA1.out; rwa [h] at this)).2 (hE1.out.1 hE'.out)
                · rw [show 6 * s.size / 8 = 3 * q + u by omega]
                  exact ho8
              case measure => rw [hm0.out, World.iterPos, hit8]; simp; omega
            · simp only [decide_eq_false hE, Bool.not_false]
              have hB : Hid (ok6 s = false) := by
                show _ = _
                have h1 := hpa.out
                rcases Decidable.em (pos + 1 = s.size) with h2 | h2
                · rw [Bool.eq_false_iff]
                  intro hok
                  exact hE (hE1.out.2 ((ok6_last (q := q) (m := a + 1) (by omega) (by omega) (by omega) (by have := hA1.out; rwa [h2] at this)).1 hok))
                · exfalso
                  have h4 : a = 3 := by have := hcon'.out; omega
                  subst h4
                  exact hE (hE1.out.2 (full_same hsg'.out))
              clear hE hE0 hEe hGe hPe hPb hE1
              go_wp2
              go_ret2
              exact un6_bad hB.out (World.ownsRow_nil _ _ _ _) hbel6
    · have hnx : ∀ ty, (Instr.next (.pointer (some ⟨w.heap.size + 1, 0, none⟩)) true ty).run Try.prog wr = _ := fun ty => Lib.run_next_end_at wr (w.heap.size + 1) s pos ty hit hlt
      have hps : pos = s.size := by omega
      obtain ⟨hok, hown⟩ := hU.out.2 hps
      replace hok : Hid (ok6 s = true) := hok
      clear hA hU
      go_wp2
      go_ret2
      exact un6_good rfl hok.out (owns_mono hown (by omega)) hbel

end Go.Proofs.Ytkkaipeklbhliaa
