/-
  What the program's markedKey answers: the key, noughts up to 64 bytes, each with the mark. Condition: at most 64 bytes.
-/
import Derived.Test.YtdjdanpicbaieaaDoorTakeAll
import Derived.Test.YtdjdanpicbaieaaDoorRepeat
import Derived.Test.YtdjdanpicbaieaaDoorXor
import Derived.Test.YtdjdanpicbaieaaDoorPad
namespace Go.Proofs.YtdjdanpicbaieaaDoor
open Go.RowKit

def keyL (xs : List Int) : List Int := xs ++ List.replicate (64 - xs.length) 0
def markL (xs : List Int) (m : Int) : List Int := xorL (keyL xs) (List.replicate 64 m)
theorem keyL_length {xs : List Int} (h : xs.length ≤ 64) : (keyL xs).length = 64 := by simp [keyL]; omega
theorem markL_length {xs : List Int} (h : xs.length ≤ 64) (m : Int) : (markL xs m).length = 64 := by rw [markL, xorL_length, keyL_length h, List.length_replicate]; rfl
theorem infoBlkZ : (Tryd.prog.info? 80).map (fun i => (i.zero, i.size)) = some (some (.agg (u8L zeroL).toArray), 64) := by kernel_rfl
theorem u8L_length (l : List Int) : (u8L l).length = l.length := by simp [u8L]
theorem blk_made (w : World) (lo : Nat) (L : List Int) (h : L.length = 64) (hlo : lo ≤ w.heap.size) :
    (w.alloc (.cells (u8L L).toArray 80)).ownsRow lo 80 1 (.slice (some ⟨w.heap.size, 0, none⟩) 64 64) 64 (u8L L) := by
  refine ⟨by rw [u8L_length, h], .inr ⟨w.heap.size, 64, _, rfl, hlo, heap_alloc_new w _, Nat.le_refl _, by unfold maxLen; omega, by simp [u8L_length, h], ?_⟩⟩
  rw [List.take_of_length_le (by simp [u8L_length, h])]
theorem copyKey (p : Option Addr) (n c : Nat) (xs : List Int) (X : World) (g lo : Nat) (hn : n ≤ 64) (hx : xs.length = n) (h : BytesIn X p n xs) (hown : X.ownsRow lo 80 1 (.slice (some ⟨g, 0, none⟩) 64 64) 64 (u8L zeroL)) :
    ∃ X', (∀ ty, (Builtin.copy_ #[22, 22] ty #[.slice (some ⟨g, 0, none⟩) 64 64, .slice p n c]).run Tryd.prog X = .ok (.int .i64 (n : Int)) X') ∧ X'.ownsRow lo 80 1 (.slice (some ⟨g, 0, none⟩) 64 64) 64 (u8L (keyL xs)) ∧ X.grownBy X' (some g) := by
  obtain ⟨i0, hi, hz0, hz1, hz2⟩ := info_parts infoByte
  have hs5 : (Tryd.prog.info? 5).map (·.size) = some 1 := by rw [hi]; simp [hz1]
  rcases Nat.eq_zero_or_pos n with h0 | h0
  · subst h0
    obtain rfl : xs = [] := List.eq_nil_of_length_eq_zero hx
    exact ⟨X, fun ty => run_copy_none (P := Tryd.prog) X 22 22 ty 5 _ p _ _ 0 c Tryd.underlying22 hs5 (by simp), hown, World.grownBy.refl _ _⟩
  · obtain ⟨b, o, rfl, hc⟩ := h h0
    have hp := owns_put (u8L xs) 0 X _ hown
    have e := putL_mid [] (u8L (List.replicate n 0)) (u8L (List.replicate (64 - n) 0)) (u8L xs) (by simp [u8L, hx])
    have hz : u8L zeroL = [] ++ (u8L (List.replicate n 0) ++ u8L (List.replicate (64 - n) 0)) := by
      rw [List.nil_append, u8L, u8L, u8L, ← List.map_append, List.replicate_append_replicate, show n + (64 - n) = 64 by omega]
      rfl
    have hk : [] ++ (u8L xs ++ u8L (List.replicate (64 - n) 0)) = u8L (keyL xs) := by rw [List.nil_append, keyL, u8L, u8L, u8L, List.map_append, hx]
    rw [hz, show (0 : Nat) = ([] : List Value).length from rfl, e, hk] at hp
    refine ⟨_, fun ty => ?_, hp.1, hp.2⟩
    have hr := run_copy_cells (P := Tryd.prog) X 22 22 ty 5 g 0 64 64 ⟨b, o, none⟩ n c (u8L xs) Tryd.underlying22 hs5 (by rw [u8L_length, hx]; exact (Nat.min_eq_left hn).symm)
      (fun j v hj => by
        have hjn : j < n := by have := (List.getElem?_eq_some_iff.1 hj).1; rw [u8L_length] at this; omega
        rw [Addr.add_mid, hc j hjn, ← hj]
        simp [u8L, List.getElem?_eq_getElem (show j < xs.length by omega)])
      (fun j hj => by
        rw [u8L_length] at hj
        have := (owns_there hown) j (by omega)
        exact this.1)
      (fun j _ => hown.frozenAt _) (u8L_one xs)
    rw [u8L_length, hx] at hr
    exact hr

theorem in_one (w : World) (ty : Nat) (m : Int) : (w.alloc (.cells #[.int .u8 m] ty)).cell? ⟨w.heap.size, 0, none⟩ = some (.int .u8 m) := by
  rw [cell_of_row _ _ _ _ _ _ (heap_alloc_new w _)]
  rfl
theorem rep_getD (m : Int) : Hid (∀ i, i < 64 → (List.replicate 64 m).getD i 0 = m) := fun i hi => by
  rw [List.getD_eq_getElem?_getD, List.getElem?_replicate, if_pos hi]
  rfl
theorem u8L_in_range {w : World} {lo e g : Nat} {L : List Int} (h : w.ownsRow lo e 1 (.slice (some ⟨g, 0, none⟩) 64 64) 64 (u8L L)) : BytesIn w (some ⟨g, 0, none⟩) 64 L := owns_in h

set_option maxRecDepth 100000 in
set_option maxHeartbeats 2000000 in
theorem markedKey_any (p : Option Addr) (n c : Nat) (xs : List Int) (m : Int) (w : World) (hn : n ≤ 64) (hx : xs.length = n) (h : BytesIn w p n xs) :
    Calls Tryd.prog 80 #[.slice p n c, .int .u8 m] w fun e w' => e = .returned (.agg (u8L (markL xs m)).toArray) ∧ Below w.heap.size w w' := by
  have hz := (zero_of_info infoBlkZ).1
  have hsz0 := (zero_of_info infoBlkZ).2
  have hzl : zeroL.length = 64 := by simp [zeroL]
  have ho1 := blk_made w w.heap.size zeroL hzl (Nat.le_refl _)
  have ho2 := blk_made (w.alloc (.cells (u8L zeroL).toArray 80)) w.heap.size zeroL hzl (by simp)
  have ba : Below w.heap.size w ((w.alloc (.cells (u8L zeroL).toArray 80)).alloc (.cells (u8L zeroL).toArray 80)) := ((Below.refl _ _).alloc (Nat.le_refl _) _).alloc (by simp) _
  replace ho1 := ho1.alloc (.cells (u8L zeroL).toArray 80)
  have hsA : (w.alloc (.cells (u8L zeroL).toArray 80)).heap.size = w.heap.size + 1 := by simp
  rw [hsA] at ho2
  obtain ⟨wc, hcp, hoc, hgc⟩ := copyKey p n c xs _ (w.heap.size + 1) w.heap.size hn hx (in_alloc (in_alloc h _) _) ho2
  have ho1c := ho1.kept hgc (.inr (by simp [Value.ownBlock]))
  have bc : Below w.heap.size w wc := ba.grown hgc ba.size (fun k hk => by cases hk; omega)
  obtain ⟨Z, hZ⟩ : ∃ Z, Z = (u8L zeroL).toArray := ⟨_, rfl⟩
  rw [← hZ] at hz hcp
  clear ho1 ho2 hgc ba hZ hsA
  go_enter Tryd.func80, Tryd.ntmps80
  go_wp2_with (at_builtin; refine Lib.wpList_copy_run _ rfl _ _ 22 22 rfl _ _ rfl rfl (hcp _) ?_)
  clear hcp hz
  have hkl := keyL_length (xs := xs) (by omega)
  have hml : Hid ((markL xs m).length = 64) := markL_length (by omega) m
  have hme : Hid (xorL (keyL xs) (List.replicate 64 m) = markL xs m) := rfl
  have hmk : Hid (markL xs m = markL xs m) := rfl
  generalize hML : markL xs m = ML at hml hme hmk
  replace hML : Hid (markL xs m = ML) := hML
  clear hmk
  generalize keyL xs = KL at hoc hkl hme
  have hrl : (List.replicate 64 m).length = 64 := by simp
  have hrep := rep_getD m
  generalize List.replicate 64 m = RL at hme hrl hrep
  refine wp_region_noPanic ?_
  refine wp_region_held_drew (S := fun _ => True) (by kernel_rfl) trivial (fun hHeld => ?_)
  refine wpAnyH_take (i := 0) (v := .slice (some ⟨w.heap.size + 1, 0, none⟩) 64 64) rfl (by kernel_rfl) (by kernel_rfl) (by kernel_rfl) (fun _ _ _ h => h) (Or.inl ⟨by rfl, fun w hSw => by (try dsimp only at hSw); go_simp⟩) hHeld ?_
  simp only [Act.put, List.getElem_toArray, List.getElem_cons_zero, List.setIfInBounds_toArray, List.set_cons_zero, List.set_cons_succ]
  refine wpAnyH_take (i := 1) (v := .int .u8 m) rfl (by kernel_rfl) (by kernel_rfl) (by kernel_rfl) (fun _ _ _ h => h) (Or.inl ⟨by rfl, fun w hSw => by (try dsimp only at hSw); go_simp⟩) hHeld ?_
  simp only [Act.put, List.getElem_toArray, List.getElem_cons_zero, List.getElem_cons_succ, List.setIfInBounds_toArray, List.set_cons_zero, List.set_cons_succ]
  have bd : Below wc.heap.size wc wc.drew := (Below.refl _ _).drew
  have od := owns_below hoc bd
  have o1d := owns_below ho1c bd
  replace bc := below_on bc bd
  generalize wc.drew = wd at bc od o1d ⊢
  clear bd hoc ho1c
  refine wpAnyH_ready (rs := [2]) (by kernel_rfl) (by simp) ?_
  refine AllReadyH.cons rfl (fun K hK => ?_) AllReadyH.nil
  go_simp
  refine hK.out _ _ trivial (fun hHeld => ?_)
  clear hK K
  have be : Below wd.heap.size wd (wd.alloc (.cells #[.int .u8 m] 5)) := (Below.refl _ _).alloc (Nat.le_refl _) _
  have ce := in_one wd 5 m
  have oe := owns_below od be
  have o1e := owns_below o1d be
  have bce := below_on bc be
  generalize wd.alloc (.cells #[.int .u8 m] 5) = we at be ce oe o1e bce ⊢
  clear be od o1d bc
  refine wpAnyH_ready (rs := [3]) (by kernel_rfl) (by simp) ?_
  refine AllReadyH.cons rfl (fun K hK => ?_) AllReadyH.nil
  go_simp
  refine (repeat64 _ _ _ m RL hrep we ce).mono ?_
  rintro e wf ⟨rfl, hinf, bf⟩
  go_wp2_with (fail)
  refine hK.out _ _ trivial (fun hHeld => ?_)
  clear hK K
  have ofz := owns_below oe bf
  have o1f := owns_below o1e bf
  have bcf := below_on bce bf
  clear oe o1e bce bf ce
  refine wpAnyH_ready (rs := [4]) (by kernel_rfl) (by simp) ?_
  refine AllReadyH.cons rfl (fun K hK => ?_) AllReadyH.nil
  go_simp
  refine (implXor_own _ _ 64 64 _ _ KL RL wf (by omega) (by omega) hkl hrl (u8L_in_range ofz) hinf).mono ?_
  rintro e wg ⟨px, cx, rfl, rx, bx⟩
  rw [hme.out] at rx
  have hrx := rx.1
  have hcx := rx.cap
  obtain ⟨gx, rfl⟩ := owns_at hrx (by decide)
  go_wp2_with (fail)
  refine hK.out _ _ trivial (fun hHeld => ?_)
  clear hK K
  have o1g := owns_below o1f bx
  have bcg := below_on bcf bx
  clear o1f bcf bx ofz hinf rx
  have hat : ∀ w, (Instr.arrayAt 80 (.slice (some ⟨gx, 0, none⟩) 64 cx)).run Tryd.prog w = .ok (.pointer (some ⟨gx, 0, none⟩)) w := fun w => run_arrayAt w 80 _ 64 _ 64 cx Tryd.underlying80 (by omega)
  have hra : wg.rangeAt gx 0 (u8L ML) := fun j v hv => by
    have hj : j < 64 := by have := (List.getElem?_eq_some_iff.1 hv).1; rw [u8L_length, hml.out] at this; exact this
    rw [Nat.zero_add, hrx.cellAt j hj]
    exact hv
  have hszM : (Tryd.prog.info? 80).map (·.size) = some (u8L ML).length := by rw [infoBlk, u8L_length, hml.out]
  have hszM2 : (Tryd.prog.info? 80).map (·.size) = some (u8L ML).toArray.size := by rw [hszM]; simp
  have hth : wg.there w.heap.size 0 (u8L ML).toArray.size := by rw [show (u8L ML).toArray.size = 64 by simp [u8L_length, hml.out]]; exact owns_there o1g
  have hp := owns_put (u8L ML) 0 wg _ o1g
  have e1 := putL_mid [] (u8L zeroL) [] (u8L ML) (by rw [u8L_length, u8L_length, hml.out, hzl])
  simp only [List.nil_append, List.append_nil, List.length_nil] at e1
  rw [e1] at hp
  have bfin : Below w.heap.size w (wg.setCells w.heap.size 0 (u8L ML)) := bcg.grown hp.2 bcg.size (fun k hk => by cases hk; exact Nat.le_refl _)
  have hld := run_loadVar_mid (P := Tryd.prog) _ w.heap.size 0 80 _ _ (owns_range hp.1) Tryd.underlying80 rfl hszM
  clear hp e1 o1g bcg hrx
  refine wpAnyH_take (i := 5) (v := .pointer (some ⟨gx, 0, none⟩)) rfl (by kernel_rfl) (by kernel_rfl) (by kernel_rfl) (fun _ _ _ h => h) (Or.inl ⟨by rfl, fun w hSw => by (try dsimp only at hSw); go_simp⟩) hHeld ?_
  simp only [Act.put, List.getElem_toArray, List.getElem_cons_zero, List.getElem_cons_succ, List.setIfInBounds_toArray, List.set_cons_zero, List.set_cons_succ]
  refine wpAnyH_ready (rs := [6]) (by kernel_rfl) (by simp) ?_
  refine AllReadyH.cons rfl (fun K hK => ?_) AllReadyH.nil
  rw [if_pos (by rfl)]
  refine wp_load_mid _ _ rfl gx 0 rfl (u8L ML) _ hra Tryd.underlying80 rfl hszM ?_
  refine hK.out _ _ trivial (fun hHeld => ?_)
  clear hK K
  simp only [Act.put, List.getElem_toArray, List.getElem_cons_zero, List.getElem_cons_succ, List.setIfInBounds_toArray, List.set_cons_zero, List.set_cons_succ]
  refine wpAnyH_ready (rs := [7]) (by kernel_rfl) (by simp) ?_
  refine AllReadyH.cons rfl (fun K hK => ?_) AllReadyH.nil
  rw [if_pos (by rfl)]
  refine wp_store_mid _ _ _ rfl w.heap.size 0 (u8L ML).toArray rfl rfl hth hszM2 (all_oneCell_toArray (u8L_one ML)) ?_
  change K _ (wg.setCells w.heap.size 0 (u8L ML))
  refine hK.out _ _ trivial (fun _ => ?_)
  clear hK K
  simp only [Act.put, List.getElem_toArray, List.getElem_cons_zero, List.getElem_cons_succ]
  refine wpAnyH_done (by kernel_rfl) ?_ _
  refine NoPanic.normal ?_
  generalize wg.setCells w.heap.size 0 (u8L ML) = wz at bfin hld ⊢
  go_wp2_with (fail)
  (try simp only [Exit.inBlock, Exit.then])
  refine bodyPost_ret (v := .agg (u8L ML).toArray) ?_ rfl ⟨by rw [hML.out], bfin⟩
  simp [results, asAddr, hld]

end Go.Proofs.YtdjdanpicbaieaaDoor
