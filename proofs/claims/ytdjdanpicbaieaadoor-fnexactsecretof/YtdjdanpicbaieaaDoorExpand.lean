/-
  What the program's Expand answers: the first so many bytes of the codes one behind the other. Conditions: bytes all; the table of the rounds' numbers is as its text says.
-/
import Derived.Test.YtdjdanpicbaieaaDoorNewCode
import Derived.Test.YtdjdanpicbaieaaDoorExpMath
namespace Go.Proofs.YtdjdanpicbaieaaDoor
open Go.RowKit

theorem concat3 (p0 p1 p2 : Option Addr) (n0 n1 n2 c0 c1 c2 : Nat) (xs0 xs1 xs2 : List Int) (w0 : World) (hx0 : xs0.length = n0) (hx1 : xs1.length = n1) (hx2 : xs2.length = n2) (h0 : 0 < n0 + n1 + n2) (hs1 : n0 + n1 + n2 ≤ 1048576)
    (i0 : BytesIn w0 p0 n0 xs0) (i1 : BytesIn w0 p1 n1 xs1) (i2 : BytesIn w0 p2 n2 xs2) (gr : Nat) (hgr : w0.heap.size = gr) :
    Calls Tryd.prog 47 #[.slice (some ⟨gr, 0, none⟩) 3 3] (w0.alloc (.cells #[.slice p0 n0 c0, .slice p1 n1 c1, .slice p2 n2 c2] 22)) fun e w' =>
      ∃ p' c', e = .returned (.slice p' (n0 + n1 + n2) c') ∧ Own 5 w' w0.heap.size w'.heap.size (.slice p' (n0 + n1 + n2) c') (n0 + n1 + n2) (xs0 ++ xs1 ++ xs2) ∧ Below w0.heap.size w0 w' := by
  subst hgr
  have ba : Below w0.heap.size w0 (w0.alloc (.cells #[.slice p0 n0 c0, .slice p1 n1 c1, .slice p2 n2 c2] 22)) := (Below.refl _ _).alloc (Nat.le_refl _) _
  have hs : sumN (fun k => match k with | 0 => n0 | 1 => n1 | _ => n2) 3 = n0 + n1 + n2 := by simp [sumN]
  have hc : catL (fun k => match k with | 0 => xs0 | 1 => xs1 | _ => xs2) 3 = xs0 ++ xs1 ++ xs2 := by simp [catL]
  have h := concat_any w0.heap.size 3 (fun k => match k with | 0 => p0 | 1 => p1 | _ => p2) (fun k => match k with | 0 => n0 | 1 => n1 | _ => n2) (fun k => match k with | 0 => c0 | 1 => c1 | _ => c2) (fun k => match k with | 0 => xs0 | 1 => xs1 | _ => xs2)
    (w0.alloc (.cells #[.slice p0 n0 c0, .slice p1 n1 c1, .slice p2 n2 c2] 22)) (by decide)
    (fun k hk => by
      rw [cell_of_row _ _ k _ _ _ (heap_alloc_new w0 _)]
      match k, hk with
      | 0, _ => rfl
      | 1, _ => rfl
      | 2, _ => rfl)
    (fun k hk => by
      match k, hk with
      | 0, _ => exact hx0
      | 1, _ => exact hx1
      | 2, _ => exact hx2)
    (fun k hk => by
      match k, hk with
      | 0, _ => exact in_below i0 ba
      | 1, _ => exact in_below i1 ba
      | 2, _ => exact in_below i2 ba)
    (by rw [hs]; omega) (by rw [hs]; omega)
  rw [hs, hc] at h
  refine h.mono ?_
  rintro e w' ⟨p', c', rfl, r, b⟩
  exact ⟨p', c', rfl, ⟨owns_mono r.1 (by simp), r.2⟩, below_on ba b⟩
theorem in_byte (w : World) (ty : Nat) (x : Int) : BytesIn (w.alloc (.cells #[.int .u8 x] ty)) (some ⟨w.heap.size, 0, none⟩) 1 [x] := by
  intro _
  refine ⟨w.heap.size, 0, rfl, fun i hi => ?_⟩
  obtain rfl : i = 0 := by omega
  exact in_one w ty x
theorem make_room (M : Nat) (hM : M ≤ 8160) (W : World) : (Instr.makeSlice 22 (.int .i64 0) (.int .i64 (M : Int))).run Tryd.prog W = .ok (.slice (some ⟨W.heap.size, 0, none⟩) 0 M) (W.alloc (.cells (madeCells #[.int .u8 0] M) 5)) := by
  obtain ⟨i0, hi, hz0, hz1, hz2⟩ := info_parts infoByte
  have := run_makeSlice (P := Tryd.prog) W 22 5 i0 (.int .u8 0) Tryd.underlying22 hi hz0 .i64 .i64 0 M (by omega) (by omega) (by rw [hz1]; simp; omega) (by rw [hz2]; omega) (by omega)
  rw [hz1] at this
  simpa [Value.cells] using this

set_option maxRecDepth 100000 in
set_option maxHeartbeats 1000000 in
theorem implExpand_yes (p q : Option Addr) (n m c d M : Nat) (ks xs : List Int) (w : World) (hM1 : 1 ≤ M) (hM2 : M ≤ 8160) (hn : n ≤ 400) (hm : m ≤ 400) (hx : ks.length = n) (hy : xs.length = m) (h : BytesIn w p n ks) (h' : BytesIn w q m xs) (hb : ∀ x ∈ ks, 0 ≤ x ∧ x < 256) (hb' : ∀ x ∈ xs, 0 ≤ x ∧ x < 256) (hK : KeysIs w) :
    Calls Tryd.prog 65 #[.slice p n c, .slice q m d, .int .i64 (M : Int)] w fun e w' => ∃ p' c', e = .returned (.slice p' M c') ∧ Own 5 w' w.heap.size w'.heap.size (.slice p' M c') M (expL ks xs (M : Int)) ∧ Below w.heap.size w w' := by
  obtain ⟨i0, hi, hz0, hz1, hz2⟩ := info_parts infoByte
  have d1 : ¬ (400 : Int) < (n : Int) := by omega
  have d2 : ¬ (400 : Int) < (m : Int) := by omega
  have d3 : ¬ (M : Int) < 1 := by omega
  have d4 : ¬ (8160 : Int) < (M : Int) := by omega
  have CN := newCode_any p n c ks w (by omega) hx h hb hK
  have hkl := kL_length (key := ks) (by omega)
  have HE : Hid (∀ i, M ≤ 32 * i → expL ks xs (M : Int) = (allL (kL ks) xs i).take M) := fun i hi => exp_is hM1 hM2 (by omega) (by omega) hi
  generalize kL ks = kk at CN hkl HE
  have CO := fun (q : Option Addr) (n c : Nat) (xs : List Int) (X : World) => codeOf_any kk q n c xs X hkl
  have hCl := codeC_length hkl
  have hC1 := codeC_one kk
  generalize codeC kk = Cs at CN CO hCl hC1
  have hsz0 := (zero_of_info infoCode).2
  have hzv := (zero_of_info infoCode).1
  have hszC : (Tryd.prog.info? 85).map (·.size) = some Cs.length := by rw [hCl]; exact hsz0
  have hszC2 : (Tryd.prog.info? 85).map (·.size) = some Cs.toArray.size := by simpa using hszC
  have m1 := zCode_made
  have hmk := make_room M hM2
  have hzz : Hid (zCode = hashC (List.replicate 8 0) zeroL zero64 ++ hashC (List.replicate 8 0) zeroL zero64) := rfl
  rw [← hzz.out] at hzv
  generalize zCode = ZC at hzv m1 hzz
  clear hzz
  go_enter Tryd.func65, Tryd.ntmps65
  go_wp2_with (fail)
  refine CN.mono ?_
  rintro e w1 ⟨rfl, b1⟩
  clear CN h
  have oa := m1 w1 w.heap.size b1.size
  have ba : Below w.heap.size w (w1.alloc (.cells ZC.toArray 85)) := b1.alloc b1.size _
  have hth : (w1.alloc (.cells ZC.toArray 85)).there w1.heap.size 0 Cs.toArray.size := by rw [show Cs.toArray.size = 272 by simpa using hCl]; exact owns_there oa
  have hp := code_put oa hCl
  have b2 : Below w.heap.size w ((w1.alloc (.cells ZC.toArray 85)).setCells w1.heap.size 0 Cs) := ba.grown hp.2 ba.size (fun k hk => by cases hk; exact b1.size)
  have hr2 := owns_range hp.1
  have hlt2 := (hp.1.lt w1.heap.size rfl).2
  clear oa ba hp m1
  obtain ⟨ZA, hZA⟩ : ∃ ZA, ZA = ZC.toArray := ⟨_, rfl⟩
  rw [← hZA] at hzv hth b2 hr2 hlt2
  clear hZA
  go_wp2_with (refine wpList_store_mid rfl 85 _ _ rfl w1.heap.size 0 Cs.toArray rfl rfl hth hszC2 (all_oneCell_toArray hC1) ?_)
  have hown4 : (((w1.alloc (.cells ZA 85)).setCells w1.heap.size 0 Cs).alloc (.cells (madeCells #[.int .u8 0] M) 5)).ownsRow ((w1.alloc (.cells ZA 85)).setCells w1.heap.size 0 Cs).heap.size 5 1 (.slice (some ⟨((w1.alloc (.cells ZA 85)).setCells w1.heap.size 0 Cs).heap.size, 0, none⟩) 0 M) 0 (([] : List Int).map (Value.int .u8)) :=
    World.ownsRow_made _ _ M (Nat.le_refl _) (by unfold maxLen; omega) (by rw [← Array.length_toList, toList_madeCells_one]; simp)
  generalize (w1.alloc (.cells ZA 85)).setCells w1.heap.size 0 Cs = w2 at hown4 hlt2 hr2 b2 ⊢
  generalize w1.heap.size = gc at hlt2 hr2 ⊢
  have ba : Below w2.heap.size w2 (w2.alloc (.cells (madeCells #[.int .u8 0] M) 5)) := (Below.refl _ _).alloc (Nat.le_refl _) _
  generalize w2.alloc (.cells (madeCells #[.int .u8 0] M) 5) = w4 at hown4 ba ⊢
  clear hth hzv hmk hsz0 hszC2 hC1 hb hx b1
  have hin2 := in_below h' b2
  have hK2 := keys_below hK b2
  have HA : Hid (∀ i x, 32 * i < M → x = min 32 (M - 32 * i) → (allL kk xs i).take M ++ (tL kk xs (i + 1)).take x = (allL kk xs (i + 1)).take M) := fun i x h1 h2 => all_step hkl (by omega) h1 h2
  have HT : Hid (∀ i, (tL kk xs (i + 1)).length = 32) := fun i => tL_length hkl (by omega) i
  have HTt : Hid (∀ i, (tL kk xs i).length ≤ 32) := fun i => (tL_text hkl (by omega) i).1
  have HTb : Hid (∀ i, i + 1 < 256 → ∀ x ∈ tL kk xs i ++ xs ++ [((i + 1 : Nat) : Int)], 0 ≤ x ∧ x < 256) := fun i hi => text_byte hb' hi
  have HTe : Hid (∀ i, ofL kk (tL kk xs i ++ xs ++ [((i + 1 : Nat) : Int)]) = tL kk xs (i + 1)) := fun _ => rfl
  have z0 : (allL kk xs 0).take M = [] := by simp [allL]
  have zt : tL kk xs 0 = [] := rfl
  go_loopw [8, 9, 10] (fun v u i wr => ∃ (k j mm nl cl : Nat) (pl : Option Addr), Hid (j = k + 1) ∧ Hid (mm = min (32 * k) M) ∧ mm ≤ M ∧ i = .int .i64 j ∧ 1 ≤ j ∧ wr.ownsRow w2.heap.size 5 1 v mm (((allL kk xs k).take M).map (Value.int .u8)) ∧ u = .slice pl nl cl ∧ Hid ((tL kk xs k).length = nl) ∧ BytesIn wr pl nl (tL kk xs k) ∧ Below w2.heap.size w2 wr)
    (fun v _ _ _ => M - sliceLen v)
  case atStart => exact ⟨0, 1, 0, 0, 0, none, rfl, by rw [Hid]; omega, by omega, rfl, by omega, by rw [z0]; exact hown4, rfl, rfl, fun h0 => absurd h0 (by omega), ba⟩
  case round =>
    clear hown4 ba z0 zt
    obtain ⟨k, j, mm, nl, cl, pl, hj, hmm, hle, rfl, hj1, hown, rfl, hnl, hinl, hbl⟩ := hrel
    have hszr := hbl.size
    obtain ⟨pv, cv, hv⟩ := owns_form hown
    subst hv
    by_cases hlt : mm < M
    · have hkM : 32 * k < M := by have := hmm.out; omega
      have hj255 : j ≤ 255 := by have := hj.out; omega
      have hnl32 : nl ≤ 32 := by have := hnl.out; have := HTt.out k; omega
      have hw8 : IntKind.u8.wrap (j : Int) = (j : Int) := by rw [IntKind.wrap_u8]; omega
      have hgcv : ∀ g, (Value.slice pv mm cv).ownBlock = some g → w2.heap.size ≤ g ∧ g < wr.heap.size := fun g hg => hown.lt g hg
      have hrr : wr.rangeAt gc 0 Cs := range_below hr2 hbl hlt2
      go_wp2_with (fail)
      refine wp_region_noPanic ?_
      refine wp_region_held_drew (S := fun X => X.rangeAt gc 0 Cs ∧ True) (by kernel_rfl) ⟨by rw [World.rangeAt_drew]; exact hrr, trivial⟩ (fun hHeld => ?_)
      refine wpAnyH_take (i := 0) rfl (by kernel_rfl) (by kernel_rfl) (by kernel_rfl) (fun _ _ _ h => h) (yieldsIf_load_mid (by rfl) _ _ rfl _ _ rfl Cs _ (fun _ hw => hw.1) Tryd.underlying85 rfl hszC) hHeld ?_
      simp only [Act.put, List.getElem_toArray, List.getElem_cons_zero, List.setIfInBounds_toArray, List.set_cons_zero, List.set_cons_succ]
      refine wpAnyH_take (i := 1) (v := .slice pl nl cl) rfl (by kernel_rfl) (by kernel_rfl) (by kernel_rfl) (fun _ _ _ h => h) (Or.inl ⟨by rfl, fun w hSw => by (try dsimp only at hSw); go_simp⟩) hHeld ?_
      simp only [Act.put, List.getElem_toArray, List.getElem_cons_zero, List.getElem_cons_succ, List.setIfInBounds_toArray, List.set_cons_zero, List.set_cons_succ]
      refine wpAnyH_take (i := 2) (v := .slice q m d) rfl (by kernel_rfl) (by kernel_rfl) (by kernel_rfl) (fun _ _ _ h => h) (Or.inl ⟨by rfl, fun w hSw => by (try dsimp only at hSw); go_simp⟩) hHeld ?_
      simp only [Act.put, List.getElem_toArray, List.getElem_cons_zero, List.getElem_cons_succ, List.setIfInBounds_toArray, List.set_cons_zero, List.set_cons_succ]
      refine wpAnyH_take (i := 3) (v := .int .i64 (j : Int)) rfl (by kernel_rfl) (by kernel_rfl) (by kernel_rfl) (fun _ _ _ h => h) (Or.inl ⟨by rfl, fun w hSw => by (try dsimp only at hSw); go_simp⟩) hHeld ?_
      simp only [Act.put, List.getElem_toArray, List.getElem_cons_zero, List.getElem_cons_succ, List.setIfInBounds_toArray, List.set_cons_zero, List.set_cons_succ]
      refine wpAnyH_take (i := 4) (v := .int .u8 (j : Int)) rfl (by kernel_rfl) (by kernel_rfl) (by kernel_rfl) (fun _ _ _ h => h) (Or.inl ⟨by rfl, fun w hSw => by (try dsimp only at hSw); go_simp⟩) hHeld ?_
      simp only [Act.put, List.getElem_toArray, List.getElem_cons_zero, List.getElem_cons_succ, List.setIfInBounds_toArray, List.set_cons_zero, List.set_cons_succ]
      have bd : Below wr.heap.size wr wr.drew := (Below.refl _ _).drew
      have hsd : wr.drew.heap.size = wr.heap.size := rfl
      generalize wr.drew = wd at bd hsd hHeld ⊢
      refine wpAnyH_ready (rs := [5]) (by kernel_rfl) (by simp) ?_
      refine AllReadyH.cons rfl (fun K hK => ?_) AllReadyH.nil
      go_simp
      have be : Below wd.heap.size wd (wd.alloc (.cells #[.int .u8 (j : Int)] 5)) := (Below.refl _ _).alloc (Nat.le_refl _) _
      have ie := in_byte wd 5 (j : Int)
      have hre : (wd.alloc (.cells #[.int .u8 (j : Int)] 5)).rangeAt gc 0 Cs := range_below hHeld.1 be (by omega)
      have bE := below_on bd be
      have hsE : (wd.alloc (.cells #[.int .u8 (j : Int)] 5)).heap.size = wd.heap.size + 1 := by simp
      rw [hsd] at ie hsE
      generalize wd.alloc (.cells #[.int .u8 (j : Int)] 5) = we at ie hre bE hsE ⊢
      refine hK.out _ _ ⟨hre, trivial⟩ (fun hHeld => ?_)
      clear hK K be bd
      refine wpAnyH_ready (rs := [6]) (by kernel_rfl) (by simp) ?_
      refine AllReadyH.cons rfl (fun K hK => ?_) AllReadyH.nil
      go_simp
      have bf : Below we.heap.size we (we.alloc (.cells #[.slice pl nl cl, .slice q m d, .slice (some ⟨wr.heap.size, 0, none⟩) 1 1] 22)) := (Below.refl _ _).alloc (Nat.le_refl _) _
      refine hK.out _ _ ⟨range_below hre bf (by omega), trivial⟩ (fun hHeld => ?_)
      clear hK K bf
      have hTX : ofL kk (tL kk xs k ++ xs ++ [(j : Int)]) = tL kk xs (k + 1) := by rw [hj.out]; exact HTe.out k
      have hTB : ∀ x ∈ tL kk xs k ++ xs ++ [(j : Int)], 0 ≤ x ∧ x < 256 := by rw [hj.out]; exact HTb.out k (by have := hj.out; omega)
      have hTl : (tL kk xs k ++ xs ++ [(j : Int)]).length = nl + m + 1 := by simp only [List.length_append, hnl.out, hy, List.length_singleton]
      refine wpAnyH_ready (rs := [7]) (by kernel_rfl) (by simp) ?_
      refine AllReadyH.cons rfl (fun K hK => ?_) AllReadyH.nil
      go_simp
      refine (concat3 pl q (some ⟨wr.heap.size, 0, none⟩) nl m 1 _ _ _ (tL kk xs k) xs [(j : Int)] we hnl.out hy rfl (by omega) (by omega) (in_below hinl bE) (in_below (in_below hin2 hbl) bE) ie _ hsE).mono ?_
      rintro e wg ⟨pg, cg, rfl, rg, bg⟩
      go_wp2_with (fail)
      have hrg : wg.rangeAt gc 0 Cs := range_below hre bg (by omega)
      refine hK.out _ _ ⟨hrg, trivial⟩ (fun hHeld => ?_)
      clear hK K
      have bG := below_on bE bg
      refine wpAnyH_ready (rs := [8]) (by kernel_rfl) (by simp) ?_
      refine AllReadyH.cons rfl (fun K hK => ?_) AllReadyH.nil
      go_simp
      refine (CO pg (nl + m + 1) _ (tL kk xs k ++ xs ++ [(j : Int)]) wg (by omega) hTl rg.bytes hTB (keys_below (keys_below hK2 hbl) bG)).mono ?_
      rintro e wh ⟨ph, chh, rfl, rh, bh⟩
      rw [hTX] at rh
      go_wp2_with (fail)
      have bH := below_on bG bh
      have hrw : w2.heap.size ≤ wg.heap.size := Nat.le_trans hszr bG.size
      refine hK.out _ _ ⟨range_below hrg bh (by omega), trivial⟩ (fun hHeld => ?_)
      clear hK K
      refine wpAnyH_take (i := 9) (v := .slice ph 32 chh) rfl (by kernel_rfl) (by kernel_rfl) (by kernel_rfl) (fun _ _ _ h => h) (Or.inl ⟨by rfl, fun w hSw => by (try dsimp only at hSw); go_simp⟩) hHeld ?_
      simp only [Act.put, List.getElem_toArray, List.getElem_cons_zero, List.getElem_cons_succ, List.setIfInBounds_toArray, List.set_cons_zero, List.set_cons_succ]
      refine wpAnyH_done (by kernel_rfl) ?_ _
      refine NoPanic.normal ?_
      have hcap := rh.cap
      have hrh := rh.1
      obtain ⟨gl, rfl⟩ := owns_at hrh (by decide)
      have hgl := hrh.lt gl rfl
      obtain ⟨x, hx⟩ : ∃ x, x = min 32 (M - mm) := ⟨_, rfl⟩
      have hmin : min (32 : Int) ((M : Int) - (mm : Int)) = (x : Int) := by omega
      have hx1 : 0 < x := by omega
      have hx2 : x ≤ 32 := by omega
      have i1 : (x : Int) ≤ (chh : Int) := by omega
      have HX : Hid ((allL kk xs k).take M ++ (tL kk xs (k + 1)).take x = (allL kk xs (k + 1)).take M) := HA.out k x hkM (by have := hmm.out; omega)
      have inx : BytesIn wh (some ⟨gl, 0, none⟩) x ((tL kk xs (k + 1)).take x) := fun _ => by
        obtain ⟨b', o', e1, e2⟩ := rh.bytes (by decide)
        refine ⟨b', o', e1, fun i hi => ?_⟩
        rw [e2 i (by omega), List.getD_eq_getElem?_getD, List.getD_eq_getElem?_getD, List.getElem?_take_of_lt hi]
      have lx : ((tL kk xs (k + 1)).take x).length = x := by rw [List.length_take, HT.out k]; omega
      have hownH := owns_below hown bH
      have hsH : w2.heap.size ≤ wh.heap.size := Nat.le_trans hszr bH.size
      have hneL : Hid ((Value.slice (some ⟨gl, 0, none⟩) 32 chh).ownBlock ≠ (Value.slice pv mm cv).ownBlock) := fun e => by
        have h1 := (hgcv gl e.symm).2
        have h2 := bG.size
        omega
      have hx3 : Hid (x = min 32 (M - mm)) := hx
      have hj3 : Hid (j + 1 = k + 1 + 1) := by have := hj.out; rw [Hid]; omega
      have hm3 : Hid (mm + x = min (32 * (k + 1)) M) := by have := hmm.out; rw [Hid]; omega
      clear hx hTX hTB hTl hrg rg bg bE ie hsE hre hHeld hgcv hrr hw8 hinl hnl hown bG
      go_wp2_with (at_builtin; refine list_spread hi hz0 hz1 hz2 (.tmp 46) (.tmp 53) 22 Tryd.underlying22 hownH inx lx hx1 (by omega) (by omega) hsH (by rfl) (by rfl) (by rfl) (by rfl) ?_; intro g5 cap5 w5 ho5 hg5 hb5; rw [HX.out] at ho5)
      have hl5 := owns_in (hrh.kept hg5 (.inr hneL.out))
      go_roundw
      case rel => exact ⟨k + 1, j + 1, mm + x, 32, chh, some ⟨gl, 0, none⟩, hj3, hm3, by have := hx3.out; omega, by go_num, by omega, ho5, rfl, HT.out k, hl5, hbl.trans ((bH.mono hszr).trans hb5)⟩
      case measure => simp only [sliceLen]; omega
    · have hmM : mm = M := by omega
      have hnl2 : ¬ (mm : Int) < (M : Int) := by omega
      rw [← HE.out k (by have := hmm.out; omega)] at hown
      have bW := below_on b2 hbl
      have hsW := b2.size
      clear hnl hinl hmm HA HT HTt HTb HTe CO
      go_wp2
      go_ret
      rw [hmM] at hown
      exact ⟨_, _, rfl, .of (owns_mono hown hsW), bW⟩

theorem implExpand_no (p q : Option Addr) (n m c d : Nat) (many : Int) (w : World) (h : ¬ expOk n m many) :
    Calls Tryd.prog 65 #[.slice p n c, .slice q m d, .int .i64 many] w fun e w' => ∃ p' c', e = .returned (.slice p' 0 c') ∧ Own 5 w' w.heap.size w'.heap.size (.slice p' 0 c') 0 [] ∧ Below w.heap.size w w' := by
  unfold expOk at h
  by_cases d1 : many < 1
  · go_enter Tryd.func65, Tryd.ntmps65
    go_wp2
    go_ret
    exact ⟨_, _, rfl, .of (World.ownsRow_nil _ _ _ _), Below.refl _ _⟩
  · by_cases d2 : 8160 < many
    · go_enter Tryd.func65, Tryd.ntmps65
      go_wp2
      go_ret
      exact ⟨_, _, rfl, .of (World.ownsRow_nil _ _ _ _), Below.refl _ _⟩
    · by_cases d3 : m ≤ 400
      · have d4 : ¬ (400 : Int) < (m : Int) := by omega
        have d5 : (400 : Int) < (n : Int) := by omega
        go_enter Tryd.func65, Tryd.ntmps65
        go_wp2
        go_ret
        exact ⟨_, _, rfl, .of (World.ownsRow_nil _ _ _ _), Below.refl _ _⟩
      · have d4 : (400 : Int) < (m : Int) := by omega
        go_enter Tryd.func65, Tryd.ntmps65
        go_wp2
        go_ret
        exact ⟨_, _, rfl, .of (World.ownsRow_nil _ _ _ _), Below.refl _ _⟩
theorem implExpand_any (p q : Option Addr) (n m c d : Nat) (many : Int) (ks xs : List Int) (w : World) (hx : ks.length = n) (hy : xs.length = m) (h : BytesIn w p n ks) (h' : BytesIn w q m xs) (hb : ∀ x ∈ ks, 0 ≤ x ∧ x < 256) (hb' : ∀ x ∈ xs, 0 ≤ x ∧ x < 256) (hK : KeysIs w) :
    Calls Tryd.prog 65 #[.slice p n c, .slice q m d, .int .i64 many] w fun e w' => ∃ p' c', e = .returned (.slice p' (expN n m many) c') ∧ Own 5 w' w.heap.size w'.heap.size (.slice p' (expN n m many) c') (expN n m many) (expL ks xs many) ∧ Below w.heap.size w w' := by
  by_cases hok : expOk n m many
  · obtain ⟨h1, h2, h3, h4⟩ := hok
    obtain ⟨M, rfl⟩ : ∃ M : Nat, many = M := ⟨many.toNat, by omega⟩
    rw [expN_is (by omega) (by omega) h3 h4]
    exact implExpand_yes p q n m c d M ks xs w (by omega) (by omega) h4 h3 hx hy h h' hb hb' hK
  · rw [show expN n m many = 0 from if_neg hok, show expL ks xs many = [] by unfold expL; rw [hx, hy, if_neg hok]]
    exact implExpand_no p q n m c d many w hok

end Go.Proofs.YtdjdanpicbaieaaDoor
