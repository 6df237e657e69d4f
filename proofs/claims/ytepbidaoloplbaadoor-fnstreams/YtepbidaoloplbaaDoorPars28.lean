/-
  FnStreams returns true for any code, and writes nothing that was there, in the program of doors; conditions: bytes all, the table as its text says.
-/
import Derived.Test.YtepbidaoloplbaaDoorPars26
import Derived.Test.YtepbidaoloplbaaDoorPars24
import Derived.Test.YtepbidaoloplbaaDoorPars27
import Derived.Test.YtepbidaoloplbaaDoorPars11
import Derived.Test.YtepbidaoloplbaaDoorPars16
import Derived.Test.YtepbidaoloplbaaDoorPars14
import Derived.Test.YtepbidaoloplbaaDoorPars13
import Derived.Test.YtepbidaoloplbaaDoorPars15
import Derived.Test.YtepbidaoloplbaaDoorPars25
import Derived.Test.YtepbidaoloplbaaDoorPars23
namespace Go.Proofs.YtepbidaoloplbaaDoor.Alt
open Go.RowKit

set_option maxRecDepth 100000 in
set_option maxHeartbeats 16000000 in
theorem fnStreams_small (p : Option Addr) (n c : Nat) (xs : List Int) (w : World) (hn : n ≤ 1048576) (hx : xs.length = n) (h : BytesIn w p n xs) (hb : ∀ x ∈ xs, 0 ≤ x ∧ x < 256) (hK : PlacesIs w) :
    Calls Altd.prog 3 #[.slice p n c] w fun e w' => e = .returned (.bool true) ∧ Below w.heap.size w w' := by
  go_enter Altd.func3, Altd.ntmps3
  go_wp2_with (fail)
  refine (big_small p n c _ hn).mono ?_
  rintro e w1 ⟨rfl, b1⟩
  have k1 : Below w.heap.size w w1 := below_on (Below.refl _ _) b1
  have z1 := b1.size
  go_wp2_with (fail)
  refine (dStream p n c xs _ hn hx (in_below h k1) hb).mono ?_
  rintro e w2 ⟨ga, ka, ca, ya, z, gb, kb, cb, yb, gd, kd, cd, yd, rfl, ⟨hka, hkb, hkd, hz, hya, hyb, hyd⟩, ra, rb, rd, b2⟩
  have k2 : Below w.heap.size w w2 := below_on k1 b2
  have z2 := b2.size
  have hSl := strS_le ya z yb yd
  go_wp2_with (fail)
  refine (implStream_own (some ⟨ga, 0, none⟩) (some ⟨gb, 0, none⟩) (some ⟨gd, 0, none⟩) ka kb kd ca cb cd z ya yb yd _ (by omega) (by omega) (by omega) ra.cap rb.cap rd.cap (by omega) ra.len rb.len rd.len ra.bytes rb.bytes rd.bytes hya hyb hyd).mono ?_
  rintro e w3 ⟨pr1, cr1, rfl, r1, b3⟩
  have k3 : Below w.heap.size w w3 := below_on k2 b3
  have z3 := b3.size
  replace ra := ra.on b3
  replace rb := rb.on b3
  replace rd := rd.on b3
  go_wp2_with (fail)
  refine (dBlock p n c xs _ hn hx (in_below h k3) hb).mono ?_
  rintro e w4 ⟨ge, ke, ce, ye, cz, gf, kf, cf, yf, rfl, ⟨hke, hkf, hcz, hye, hyf⟩, re, rf, b4⟩
  have k4 : Below w.heap.size w w4 := below_on k3 b4
  have z4 := b4.size
  replace ra := ra.on b4
  replace rb := rb.on b4
  replace rd := rd.on b4
  replace r1 := r1.on b4
  go_wp2_with (fail)
  refine (implBlk_any (some ⟨ge, 0, none⟩) (some ⟨gf, 0, none⟩) ke kf ce cf cz ye yf _ re.len rf.len re.bytes rf.bytes hye hyf re.cap rf.cap (places_below hK k4)).mono ?_
  rintro e w5 ⟨pr2, cr2, rfl, r2, b5⟩
  have k5 : Below w.heap.size w w5 := below_on k4 b5
  have z5 := b5.size
  replace ra := ra.on b5
  replace rb := rb.on b5
  replace rd := rd.on b5
  replace r1 := r1.on b5
  replace re := re.on b5
  replace rf := rf.on b5
  have hBl := blkN_le ke kf cz
  go_wp2_with (fail)
  refine (specStream_own (some ⟨ga, 0, none⟩) (some ⟨gb, 0, none⟩) (some ⟨gd, 0, none⟩) ka kb kd ca cb cd z ya yb yd _ rd.cap ra.len rb.len rd.len ra.bytes rb.bytes rd.bytes hya hyb).mono ?_
  rintro e w6 ⟨pr3, cr3, rfl, r3, b6⟩
  have k6 : Below w.heap.size w w6 := below_on k5 b6
  have z6 := b6.size
  replace ra := ra.on b6
  replace rb := rb.on b6
  replace rd := rd.on b6
  replace r1 := r1.on b6
  replace re := re.on b6
  replace rf := rf.on b6
  replace r2 := r2.on b6
  go_wp2_with (fail)
  refine (implSame_any pr1 pr3 (strS ya z yb yd).length (strS ya z yb yd).length cr1 cr3 (strS ya z yb yd) (strS ya z yb yd) _ r1.len r3.len r1.bytes r3.bytes).mono ?_
  rintro e w7 ⟨rfl, b7⟩
  have k7 : Below w.heap.size w w7 := below_on k6 b7
  have z7 := b7.size
  replace ra := ra.on b7
  replace rb := rb.on b7
  replace rd := rd.on b7
  replace r1 := r1.on b7
  replace re := re.on b7
  replace rf := rf.on b7
  replace r2 := r2.on b7
  replace r3 := r3.on b7
  clear r3
  go_wp2_with (fail)
  refine (specBlk_any (some ⟨ge, 0, none⟩) (some ⟨gf, 0, none⟩) ke kf ce cf cz ye yf _ re.len rf.len re.bytes rf.bytes hye hyf).mono ?_
  rintro e w8 ⟨pr4, cr4, rfl, r4, b8⟩
  have k8 : Below w.heap.size w w8 := below_on k7 b8
  have z8 := b8.size
  replace ra := ra.on b8
  replace rb := rb.on b8
  replace rd := rd.on b8
  replace r1 := r1.on b8
  replace re := re.on b8
  replace rf := rf.on b8
  replace r2 := r2.on b8
  go_wp2_with (fail)
  refine (implSame_any pr2 pr4 (blkN ke kf cz) (blkN ke kf cz) cr2 cr4 (blkL ye cz yf) (blkL ye cz yf) _ r2.len r4.len r2.bytes r4.bytes).mono ?_
  rintro e w9 ⟨rfl, b9⟩
  have k9 : Below w.heap.size w w9 := below_on k8 b9
  have z9 := b9.size
  replace ra := ra.on b9
  replace rb := rb.on b9
  replace rd := rd.on b9
  replace r1 := r1.on b9
  replace re := re.on b9
  replace rf := rf.on b9
  replace r2 := r2.on b9
  replace r4 := r4.on b9
  clear r4 re rf
  have hB : blkN ke kf cz = 0 ∨ blkN ke kf cz = 64 := by unfold blkN; split <;> simp
  clear r2 hBl hye hyf hke hkf hcz
  generalize blkN ke kf cz = BN at hB ⊢
  by_cases hk0 : kd = 0
  · have hl : (strS ya z yb yd).length = 0 := by
      by_cases hg : GoodT ya.length yb.length yd.length z
      · rw [strS_length hg, rd.len]; exact hk0
      · rw [good_no hg]; rfl
    rw [hl]
    clear ra rb rd r1 hl hSl hya hyb hyd hx hb h
    have d1 : ((0 : Int) != (kd : Int)) = false := by simp; omega
    have d2 : ((kd : Int) == 0) = true := by simp; omega
    have hE := k9
    clear k1 b1 z1 k2 b2 z2 k3 b3 z3 k4 b4 z4 k5 b5 z5 k6 b6 z6 k7 b7 z7 k8 b8 z8 k9 b9 z9
    rcases hB with rfl | rfl
    all_goals
      go_wp2_with (fail)
      go_ret
      exact ⟨rfl, hE⟩
  · by_cases hg : GoodT ka kb kd z
    · have hgl : GoodT ya.length yb.length yd.length z := by rw [ra.len, rb.len, rd.len]; exact hg
      have hl := strS_length hgl
      rw [rd.len] at hl
      have hyS := strS_byte (ks := ya) (ct := z) (ns := yb) (bs := yd)
      have E2 := strS_twice hgl hyd
      have E3 := fun i => strS_take hgl i
      rw [hl] at r1 ⊢
      have hlS := r1.len
      obtain ⟨gS, hgS⟩ := owns_at r1.1 (show 0 < kd by omega)
      subst hgS
      have C2 := fun X (h1 : BytesIn X (some ⟨ga, 0, none⟩) ka ya) (h2 : BytesIn X (some ⟨gb, 0, none⟩) kb yb) (h3 : BytesIn X (some ⟨gS, 0, none⟩) kd (strS ya z yb yd)) => implStream_own (some ⟨ga, 0, none⟩) (some ⟨gb, 0, none⟩) (some ⟨gS, 0, none⟩) ka kb kd ca cb cr1 z ya yb (strS ya z yb yd) X (by omega) (by omega) (by omega) ra.cap rb.cap r1.cap (by omega) ra.len rb.len hlS h1 h2 h3 hya hyb hyS
      simp only [E2, rd.len] at C2
      have C3 := fun (I : Nat) (hI : I < kd) X (h1 : BytesIn X (some ⟨ga, 0, none⟩) ka ya) (h2 : BytesIn X (some ⟨gb, 0, none⟩) kb yb) (h3 : BytesIn X (some ⟨gd, 0, none⟩) I (yd.take I)) => implStream_own (some ⟨ga, 0, none⟩) (some ⟨gb, 0, none⟩) (some ⟨gd, 0, none⟩) ka kb I ca cb cd z ya yb (yd.take I) X (by omega) (by omega) (by omega) ra.cap rb.cap (by have := rd.cap; omega) (by omega) ra.len rb.len (by have := rd.len; simp; omega) h1 h2 h3 hya hyb (fun y hy => hyd y (List.mem_of_mem_take hy))
      have E4 : ∀ I : Nat, I < kd → ((strS ya z yb yd).take I).length = I := fun I hI => by rw [List.length_take, hlS]; omega
      generalize strS ya z yb yd = SL at r1 C2 C3 E3 E4 hlS
      have hcd := rd.cap
      have hcS := r1.cap
      have hld := rd.len
      have d2 : ((kd : Int) == 0) = false := by simp; omega
      have CA := fun X (hX : BytesIn X p n xs) => at_any p n c xs 1 X hn (by omega) hX hb
      have h0 := in_below h k9
      have hE := k9
      clear hx hSl hgl hl E2 h k1 b1 z1 k2 b2 z2 k3 b3 z3 k4 b4 z4 k5 b5 z5 k6 b6 z6 k7 b7 z7 k8 b8 z8 k9 b9 z9
      rcases hB with rfl | rfl
      all_goals
        go_wp2_with (fail)
        refine (CA _ h0).mono ?_
        rintro e wA ⟨x, rfl, hx0, hwA⟩
        subst hwA
        clear CA h0
        obtain ⟨I, hI⟩ : ∃ I : Nat, x % (kd : Int) = (I : Int) := ⟨(x % (kd : Int)).toNat, by have := Int.emod_nonneg x (show (kd : Int) ≠ 0 by omega); omega⟩
        have lI : I < kd := by have := Int.emod_lt_of_pos x (show (0 : Int) < (kd : Int) by omega); omega
        have hzk : ((kd : Int) == 0) = false := d2
        have C4 := C3 I lI
        simp only [E3, E4 I lI] at C4
        have sl1 := slice_to (some ⟨gd, 0, none⟩) kd cd I (by omega) (fun h => by cases h)
        have sl2 := slice_to (some ⟨gS, 0, none⟩) kd cr1 I (by omega) (fun h => by cases h)
        have lT1 : (yd.take I).length = I := by simp; omega
        have lT2 := E4 I lI
        clear C3 E3 E4
        go_wp2_with (fail)
        refine wp_region_noPanic ?_
        refine wp_region_T 21 (fun _ => True) (fun _ => True) (by kernel_rfl) ?_
        obtain ⟨wd, hwd⟩ : ∃ wd, wd = wA.drew := ⟨_, rfl⟩
        have bd : Below wA.heap.size wA wd := by rw [hwd]; exact (Below.refl _ _).drew
        rw [← hwd]
        replace ra := ra.on bd
        replace rb := rb.on bd
        replace rd := rd.on bd
        replace r1 := r1.on bd
        replace hE := below_on hE bd
        clear hwd bd
        refine anyT_takeT (i := 0) (v := .slice (some ⟨ga, 0, none⟩) ka ca) rfl (by kernel_rfl) (by kernel_rfl) (by kernel_rfl) (by kernel_rfl) (fun _ _ _ h => h) (Or.inl ⟨by rfl, fun X _ => by (go_simp <;> omega)⟩) trivial (fun _ => trivial) ?_
        simp only [Act.put, List.getElem_toArray, List.getElem_cons_zero, List.setIfInBounds_toArray, List.set_cons_zero, List.set_cons_succ]
        refine anyT_takeT (i := 1) (v := .int .i64 z) rfl (by kernel_rfl) (by kernel_rfl) (by kernel_rfl) (by kernel_rfl) (fun _ _ _ h => h) (Or.inl ⟨by rfl, fun X _ => by (go_simp <;> omega)⟩) trivial (fun _ => trivial) ?_
        simp only [Act.put, List.getElem_toArray, List.getElem_cons_zero, List.getElem_cons_succ, List.setIfInBounds_toArray, List.set_cons_zero, List.set_cons_succ]
        refine anyT_takeT (i := 2) (v := .slice (some ⟨gb, 0, none⟩) kb cb) rfl (by kernel_rfl) (by kernel_rfl) (by kernel_rfl) (by kernel_rfl) (fun _ _ _ h => h) (Or.inl ⟨by rfl, fun X _ => by (go_simp <;> omega)⟩) trivial (fun _ => trivial) ?_
        simp only [Act.put, List.getElem_toArray, List.getElem_cons_zero, List.getElem_cons_succ, List.setIfInBounds_toArray, List.set_cons_zero, List.set_cons_succ]
        refine anyT_takeT (i := 3) (v := .slice (some ⟨gS, 0, none⟩) kd cr1) rfl (by kernel_rfl) (by kernel_rfl) (by kernel_rfl) (by kernel_rfl) (fun _ _ _ h => h) (Or.inl ⟨by rfl, fun X _ => by (go_simp <;> omega)⟩) trivial (fun _ => trivial) ?_
        simp only [Act.put, List.getElem_toArray, List.getElem_cons_zero, List.getElem_cons_succ, List.setIfInBounds_toArray, List.set_cons_zero, List.set_cons_succ]
        refine anyT_takeT (i := 5) (v := .slice (some ⟨gd, 0, none⟩) kd cd) rfl (by kernel_rfl) (by kernel_rfl) (by kernel_rfl) (by kernel_rfl) (fun _ _ _ h => h) (Or.inl ⟨by rfl, fun X _ => by (go_simp <;> omega)⟩) trivial (fun _ => trivial) ?_
        simp only [Act.put, List.getElem_toArray, List.getElem_cons_zero, List.getElem_cons_succ, List.setIfInBounds_toArray, List.set_cons_zero, List.set_cons_succ]
        refine anyT_one (i := 4) (by kernel_rfl) rfl (fun K hK => ?_)
        go_simp
        refine (C2 _ ra.bytes rb.bytes r1.bytes).mono ?_
        rintro e x6 ⟨p6, c6, rfl, r6, f6⟩
        go_simp
        refine hK.out _ _ trivial (fun _ => trivial) ?_
        clear hK K
        replace ra := ra.on f6
        replace rb := rb.on f6
        replace rd := rd.on f6
        replace r1 := r1.on f6
        replace hE := below_on hE f6
        refine anyT_one (i := 6) (by kernel_rfl) rfl (fun K hK => ?_)
        go_simp
        refine (implSame_any p6 (some ⟨gd, 0, none⟩) kd kd c6 cd yd yd _ r6.len rd.len r6.bytes rd.bytes).mono ?_
        rintro e x7 ⟨rfl, f7⟩
        go_simp
        refine hK.out _ _ trivial (fun _ => trivial) ?_
        clear hK K
        replace ra := ra.on f7
        replace rb := rb.on f7
        replace rd := rd.on f7
        replace r1 := r1.on f7
        replace hE := below_on hE f7
        clear r6 f6 f7 C2
        refine anyT_takeT (i := 7) (v := .bool true) rfl (by kernel_rfl) (by kernel_rfl) (by kernel_rfl) (by kernel_rfl) (fun _ _ _ h => h) (Or.inl ⟨by rfl, fun X _ => by (go_simp <;> omega)⟩) trivial (fun _ => trivial) ?_
        simp only [Act.put, List.getElem_toArray, List.getElem_cons_zero, List.getElem_cons_succ, List.setIfInBounds_toArray, List.set_cons_zero, List.set_cons_succ]
        refine anyT_takeT (i := 8) (v := .slice (some ⟨ga, 0, none⟩) ka ca) rfl (by kernel_rfl) (by kernel_rfl) (by kernel_rfl) (by kernel_rfl) (fun _ _ _ h => h) (Or.inl ⟨by rfl, fun X _ => by (go_simp <;> omega)⟩) trivial (fun _ => trivial) ?_
        simp only [Act.put, List.getElem_toArray, List.getElem_cons_zero, List.getElem_cons_succ, List.setIfInBounds_toArray, List.set_cons_zero, List.set_cons_succ]
        refine anyT_takeT (i := 9) (v := .int .i64 z) rfl (by kernel_rfl) (by kernel_rfl) (by kernel_rfl) (by kernel_rfl) (fun _ _ _ h => h) (Or.inl ⟨by rfl, fun X _ => by (go_simp <;> omega)⟩) trivial (fun _ => trivial) ?_
        simp only [Act.put, List.getElem_toArray, List.getElem_cons_zero, List.getElem_cons_succ, List.setIfInBounds_toArray, List.set_cons_zero, List.set_cons_succ]
        refine anyT_takeT (i := 10) (v := .slice (some ⟨gb, 0, none⟩) kb cb) rfl (by kernel_rfl) (by kernel_rfl) (by kernel_rfl) (by kernel_rfl) (fun _ _ _ h => h) (Or.inl ⟨by rfl, fun X _ => by (go_simp <;> omega)⟩) trivial (fun _ => trivial) ?_
        simp only [Act.put, List.getElem_toArray, List.getElem_cons_zero, List.getElem_cons_succ, List.setIfInBounds_toArray, List.set_cons_zero, List.set_cons_succ]
        refine anyT_takeT (i := 11) (v := .slice (some ⟨gd, 0, none⟩) kd cd) rfl (by kernel_rfl) (by kernel_rfl) (by kernel_rfl) (by kernel_rfl) (fun _ _ _ h => h) (Or.inl ⟨by rfl, fun X _ => by (go_simp <;> omega)⟩) trivial (fun _ => trivial) ?_
        simp only [Act.put, List.getElem_toArray, List.getElem_cons_zero, List.getElem_cons_succ, List.setIfInBounds_toArray, List.set_cons_zero, List.set_cons_succ]
        refine anyT_takeT (i := 12) (v := .int .i64 (I : Int)) rfl (by kernel_rfl) (by kernel_rfl) (by kernel_rfl) (by kernel_rfl) (fun _ _ _ h => h) (Or.inl ⟨by rfl, fun X _ => by (go_simp <;> omega)⟩) trivial (fun _ => trivial) ?_
        simp only [Act.put, List.getElem_toArray, List.getElem_cons_zero, List.getElem_cons_succ, List.setIfInBounds_toArray, List.set_cons_zero, List.set_cons_succ]
        refine anyT_takeT (i := 13) (v := .slice (some ⟨gd, 0, none⟩) I cd) rfl (by kernel_rfl) (by kernel_rfl) (by kernel_rfl) (by kernel_rfl) (fun _ _ _ h => h) (Or.inl ⟨by rfl, fun X _ => by (go_simp <;> omega)⟩) trivial (fun _ => trivial) ?_
        simp only [Act.put, List.getElem_toArray, List.getElem_cons_zero, List.getElem_cons_succ, List.setIfInBounds_toArray, List.set_cons_zero, List.set_cons_succ]
        refine anyT_takeT (i := 15) (v := .slice (some ⟨gS, 0, none⟩) kd cr1) rfl (by kernel_rfl) (by kernel_rfl) (by kernel_rfl) (by kernel_rfl) (fun _ _ _ h => h) (Or.inl ⟨by rfl, fun X _ => by (go_simp <;> omega)⟩) trivial (fun _ => trivial) ?_
        simp only [Act.put, List.getElem_toArray, List.getElem_cons_zero, List.getElem_cons_succ, List.setIfInBounds_toArray, List.set_cons_zero, List.set_cons_succ]
        refine anyT_takeT (i := 16) (v := .int .i64 (I : Int)) rfl (by kernel_rfl) (by kernel_rfl) (by kernel_rfl) (by kernel_rfl) (fun _ _ _ h => h) (Or.inl ⟨by rfl, fun X _ => by (go_simp <;> omega)⟩) trivial (fun _ => trivial) ?_
        simp only [Act.put, List.getElem_toArray, List.getElem_cons_zero, List.getElem_cons_succ, List.setIfInBounds_toArray, List.set_cons_zero, List.set_cons_succ]
        refine anyT_takeT (i := 17) (v := .slice (some ⟨gS, 0, none⟩) I cr1) rfl (by kernel_rfl) (by kernel_rfl) (by kernel_rfl) (by kernel_rfl) (fun _ _ _ h => h) (Or.inl ⟨by rfl, fun X _ => by (go_simp <;> omega)⟩) trivial (fun _ => trivial) ?_
        simp only [Act.put, List.getElem_toArray, List.getElem_cons_zero, List.getElem_cons_succ, List.setIfInBounds_toArray, List.set_cons_zero, List.set_cons_succ]
        refine anyT_one (i := 14) (by kernel_rfl) rfl (fun K hK => ?_)
        go_simp
        refine (C4 _ ra.bytes rb.bytes (in_prefix rd.bytes (by omega))).mono ?_
        rintro e x8 ⟨p8, c8, rfl, r8, f8⟩
        go_simp
        refine hK.out _ _ trivial (fun _ => trivial) ?_
        clear hK K
        replace ra := ra.on f8
        replace rb := rb.on f8
        replace rd := rd.on f8
        replace r1 := r1.on f8
        replace hE := below_on hE f8
        refine anyT_one (i := 18) (by kernel_rfl) rfl (fun K hK => ?_)
        go_simp
        refine (implSame_any p8 (some ⟨gS, 0, none⟩) I I c8 cr1 (SL.take I) (SL.take I) _ lT2 lT2 r8.bytes (in_prefix r1.bytes (by omega))).mono ?_
        rintro e x9 ⟨rfl, f9⟩
        go_simp
        refine hK.out _ _ trivial (fun _ => trivial) ?_
        clear hK K
        replace hE := below_on hE f9
        clear f8 f9 r8
        refine anyT_takeT (i := 19) (v := .bool true) rfl (by kernel_rfl) (by kernel_rfl) (by kernel_rfl) (by kernel_rfl) (fun _ _ _ h => h) (Or.inl ⟨by rfl, fun X _ => by (go_simp <;> omega)⟩) trivial (fun _ => trivial) ?_
        simp only [Act.put, List.getElem_toArray, List.getElem_cons_zero, List.getElem_cons_succ, List.setIfInBounds_toArray, List.set_cons_zero, List.set_cons_succ]
        refine anyT_takeT (i := 20) (v := .bool true) rfl (by kernel_rfl) (by kernel_rfl) (by kernel_rfl) (by kernel_rfl) (fun _ _ _ h => h) (Or.inl ⟨by rfl, fun X _ => by (go_simp <;> omega)⟩) trivial (fun _ => trivial) ?_
        simp only [Act.put, List.getElem_toArray, List.getElem_cons_zero, List.getElem_cons_succ, List.setIfInBounds_toArray, List.set_cons_zero, List.set_cons_succ]
        refine anyT_done (by kernel_rfl) ?_ _
        refine NoPanic.normal ?_
        go_wp2_with (fail)
        go_ret
        exact ⟨rfl, hE⟩
    · have hl : (strS ya z yb yd).length = 0 := by rw [good_no (by rw [ra.len, rb.len, rd.len]; exact hg)]; rfl
      rw [hl]
      clear ra rb rd r1 hl hSl hya hyb hyd hx hb h
      have d1 : ((0 : Int) != (kd : Int)) = true := by simp; omega
      have d2 : ((kd : Int) == 0) = false := by simp; omega
      have hE := k9
      clear k1 b1 z1 k2 b2 z2 k3 b3 z3 k4 b4 z4 k5 b5 z5 k6 b6 z6 k7 b7 z7 k8 b8 z8 k9 b9 z9
      rcases hB with rfl | rfl
      all_goals
        go_wp2_with (fail)
        go_ret
        exact ⟨rfl, hE⟩

theorem fnStreams_law (p : Option Addr) (n c : Nat) (xs : List Int) (w : World) (hx : xs.length = n) (h : BytesIn w p n xs) (hb : ∀ x ∈ xs, 0 ≤ x ∧ x < 256) (hK : PlacesIs w) :
    Calls Altd.prog 3 #[.slice p n c] w fun e w' => e = .returned (.bool true) ∧ Below w.heap.size w w' := by
  by_cases hn : n ≤ 1048576
  · exact fnStreams_small p n c xs w hn hx h hb hK
  · clear hx h hb hK
    have C := fun X => big_great p n c X hn
    go_enter Altd.func3, Altd.ntmps3
    go_wp2_with (fail)
    refine (C _).mono ?_
    rintro e w1 ⟨rfl, b1⟩
    go_wp2
    go_ret
    exact ⟨rfl, b1⟩

end Go.Proofs.YtepbidaoloplbaaDoor.Alt
