/-
  What the program's markedKey answers: the key, noughts up to 64 bytes, each with the mark. Condition: at most 64 bytes.
  Plain laws of lists for a code by a key: what a hash makes of a block and of what lies behind it.
  What the program's padBehindBlock answers: the pad of 64 bytes and the text, without those 64. Condition: at most 3936 bytes.
  What the program's code.of answers of a code by a key of at most 64 bytes: the hash by both marks of the key. Conditions: at most 3936 bytes, bytes all; the table of the rounds' numbers is as its text says.
  What the program's newCode answers: two hashes that have taken the key's marked blocks. Conditions: at most 4000 bytes, bytes all; the table of the rounds' numbers is as its text says.
  What the program's Mac answers: the code by a key; nothing of more than 3936 bytes of either. Conditions: bytes all; the table of the rounds' numbers is as its text says.
  What the specification's Mac answers: the code by a key; nothing of more than 3936 bytes of either. Condition: bytes all.
  What both sides' Extract answers: the code by the salt, or by 32 noughts where it is empty. Conditions: bytes all; for the program the table of the rounds' numbers is as its text says.
  Plain laws of lists for Expand: the codes one behind the other.
  What the program's Expand answers: the first so many bytes of the codes one behind the other. Conditions: bytes all; the table of the rounds' numbers is as its text says.
  What the specification's Expand answers: the first so many bytes of the codes one behind the other. Condition: bytes all.
  What both sides' Derive answers: Expand of Extract. Conditions: bytes all; for the program the table of the rounds' numbers is as its text says.
-/
import Derived.Test.YthfnechcddmjkaaGreatDoorParf11
import Derived.Test.YthfnechcddmjkaaGreatDoorParf15
import Derived.Test.YthfnechcddmjkaaGreatDoorParf02
import Derived.Test.YthfnechcddmjkaaGreatDoorParf13
import Derived.Test.YthfnechcddmjkaaGreatDoorParf14
import Derived.Test.YthfnechcddmjkaaGreatDoorParf12
namespace Go.Proofs.YthfnechcddmjkaaGreatDoor
open Go.RowKit

def keyL (xs : List Int) : List Int := xs ++ List.replicate (64 - xs.length) 0
def markL (xs : List Int) (m : Int) : List Int := xorL (keyL xs) (List.replicate 64 m)
theorem keyL_length {xs : List Int} (h : xs.length ≤ 64) : (keyL xs).length = 64 := by simp [keyL]; omega
theorem markL_length {xs : List Int} (h : xs.length ≤ 64) (m : Int) : (markL xs m).length = 64 := by rw [markL, xorL_length, keyL_length h, List.length_replicate]; rfl
theorem infoBlkZ : (Tryz.prog.info? 134).map (fun i => (i.zero, i.size)) = some (some (.agg (u8L zeroL).toArray), 64) := by kernel_rfl
theorem u8L_length (l : List Int) : (u8L l).length = l.length := by simp [u8L]
theorem blk_made (w : World) (lo : Nat) (L : List Int) (h : L.length = 64) (hlo : lo ≤ w.heap.size) :
    (w.alloc (.cells (u8L L).toArray 134)).ownsRow lo 134 1 (.slice (some ⟨w.heap.size, 0, none⟩) 64 64) 64 (u8L L) := by
  refine ⟨by rw [u8L_length, h], .inr ⟨w.heap.size, 64, _, rfl, hlo, heap_alloc_new w _, Nat.le_refl _, by unfold maxLen; omega, by simp [u8L_length, h], ?_⟩⟩
  rw [List.take_of_length_le (by simp [u8L_length, h])]
theorem copyKey (p : Option Addr) (n c : Nat) (xs : List Int) (X : World) (g lo : Nat) (hn : n ≤ 64) (hx : xs.length = n) (h : BytesIn X p n xs) (hown : X.ownsRow lo 134 1 (.slice (some ⟨g, 0, none⟩) 64 64) 64 (u8L zeroL)) :
    ∃ X', (∀ ty, (Builtin.copy_ #[22, 22] ty #[.slice (some ⟨g, 0, none⟩) 64 64, .slice p n c]).run Tryz.prog X = .ok (.int .i64 (n : Int)) X') ∧ X'.ownsRow lo 134 1 (.slice (some ⟨g, 0, none⟩) 64 64) 64 (u8L (keyL xs)) ∧ X.grownBy X' (some g) := by
  obtain ⟨i0, hi, hz0, hz1, hz2⟩ := info_parts infoByte
  have hs5 : (Tryz.prog.info? 5).map (·.size) = some 1 := by rw [hi]; simp [hz1]
  rcases Nat.eq_zero_or_pos n with h0 | h0
  · subst h0
    obtain rfl : xs = [] := List.eq_nil_of_length_eq_zero hx
    exact ⟨X, fun ty => run_copy_none (P := Tryz.prog) X 22 22 ty 5 _ p _ _ 0 c Tryz.underlying22 hs5 (by simp), hown, World.grownBy.refl _ _⟩
  · obtain ⟨b, o, rfl, hc⟩ := h h0
    have hp := owns_put (u8L xs) 0 X _ hown
    have e := putL_mid [] (u8L (List.replicate n 0)) (u8L (List.replicate (64 - n) 0)) (u8L xs) (by simp [u8L, hx])
    have hz : u8L zeroL = [] ++ (u8L (List.replicate n 0) ++ u8L (List.replicate (64 - n) 0)) := by
      rw [List.nil_append, u8L, u8L, u8L, ← List.map_append, List.replicate_append_replicate, show n + (64 - n) = 64 by omega]
      rfl
    have hk : [] ++ (u8L xs ++ u8L (List.replicate (64 - n) 0)) = u8L (keyL xs) := by rw [List.nil_append, keyL, u8L, u8L, u8L, List.map_append, hx]
    rw [hz, show (0 : Nat) = ([] : List Value).length from rfl, e, hk] at hp
    refine ⟨_, fun ty => ?_, hp.1, hp.2⟩
    have hr := run_copy_cells (P := Tryz.prog) X 22 22 ty 5 g 0 64 64 ⟨b, o, none⟩ n c (u8L xs) Tryz.underlying22 hs5 (by rw [u8L_length, hx]; exact (Nat.min_eq_left hn).symm)
      (fun j v hj => by
        have hjn : j < n := by have := (List.getElem?_eq_some_iff.1 hj).1; rw [u8L_length] at this; omega
        rw [Addr.add_mid, hc j hjn, ← hj]
        simp [u8L, List.getElem?_eq_getElem (show j < xs.length by omega)])
      (fun j hj => by
        rw [u8L_length] at hj
        have := (owns_there hown) j (by omega)
        exact this.1)
      (fun j _ => hown.frozenAt _) (u8L_one xs)
    rw [u8L_length, hx] at hr
    exact hr

theorem in_one (w : World) (ty : Nat) (m : Int) : (w.alloc (.cells #[.int .u8 m] ty)).cell? ⟨w.heap.size, 0, none⟩ = some (.int .u8 m) := by
  rw [cell_of_row _ _ _ _ _ _ (heap_alloc_new w _)]
  rfl
theorem rep_getD (m : Int) : Hid (∀ i, i < 64 → (List.replicate 64 m).getD i 0 = m) := fun i hi => by
  rw [List.getD_eq_getElem?_getD, List.getElem?_replicate, if_pos hi]
  rfl
theorem u8L_in_range {w : World} {lo e g : Nat} {L : List Int} (h : w.ownsRow lo e 1 (.slice (some ⟨g, 0, none⟩) 64 64) 64 (u8L L)) : BytesIn w (some ⟨g, 0, none⟩) 64 L := owns_in h

set_option maxRecDepth 100000 in
set_option maxHeartbeats 2000000 in
theorem markedKey_any (p : Option Addr) (n c : Nat) (xs : List Int) (m : Int) (w : World) (hn : n ≤ 64) (hx : xs.length = n) (h : BytesIn w p n xs) :
    Calls Tryz.prog 138 #[.slice p n c, .int .u8 m] w fun e w' => e = .returned (.agg (u8L (markL xs m)).toArray) ∧ Below w.heap.size w w' := by
  have hz := (zero_of_info infoBlkZ).1
  have hsz0 := (zero_of_info infoBlkZ).2
  have hzl : zeroL.length = 64 := by simp [zeroL]
  have ho1 := blk_made w w.heap.size zeroL hzl (Nat.le_refl _)
  have ho2 := blk_made (w.alloc (.cells (u8L zeroL).toArray 134)) w.heap.size zeroL hzl (by simp)
  have ba : Below w.heap.size w ((w.alloc (.cells (u8L zeroL).toArray 134)).alloc (.cells (u8L zeroL).toArray 134)) := ((Below.refl _ _).alloc (Nat.le_refl _) _).alloc (by simp) _
  replace ho1 := ho1.alloc (.cells (u8L zeroL).toArray 134)
  have hsA : (w.alloc (.cells (u8L zeroL).toArray 134)).heap.size = w.heap.size + 1 := by simp
  rw [hsA] at ho2
  obtain ⟨wc, hcp, hoc, hgc⟩ := copyKey p n c xs _ (w.heap.size + 1) w.heap.size hn hx (in_alloc (in_alloc h _) _) ho2
  have ho1c := ho1.kept hgc (.inr (by simp [Value.ownBlock]))
  have bc : Below w.heap.size w wc := ba.grown hgc ba.size (fun k hk => by cases hk; omega)
  obtain ⟨Z, hZ⟩ : ∃ Z, Z = (u8L zeroL).toArray := ⟨_, rfl⟩
  rw [← hZ] at hz hcp
  clear ho1 ho2 hgc ba hZ hsA
  go_enter Tryz.func138, Tryz.ntmps138
  go_wp2_with (at_builtin; refine Lib.wpList_copy_run _ rfl _ _ 22 22 rfl _ _ rfl rfl (hcp _) ?_)
  clear hcp hz
  have hkl := keyL_length (xs := xs) (by omega)
  have hml : Hid ((markL xs m).length = 64) := markL_length (by omega) m
  have hme : Hid (xorL (keyL xs) (List.replicate 64 m) = markL xs m) := rfl
  have hmk : Hid (markL xs m = markL xs m) := rfl
  generalize hML : markL xs m = ML at hml hme hmk
  replace hML : Hid (markL xs m = ML) := hML
  clear hmk
  generalize keyL xs = KL at hoc hkl hme
  have hrl : (List.replicate 64 m).length = 64 := by simp
  have hrep := rep_getD m
  generalize List.replicate 64 m = RL at hme hrl hrep
  refine wp_region_noPanic ?_
  refine wp_region_held_drew (S := fun _ => True) (by kernel_rfl) trivial (fun hHeld => ?_)
  refine wpAnyH_take (i := 0) (v := .slice (some ⟨w.heap.size + 1, 0, none⟩) 64 64) rfl (by kernel_rfl) (by kernel_rfl) (by kernel_rfl) (fun _ _ _ h => h) (Or.inl ⟨by rfl, fun w hSw => by (try dsimp only at hSw); go_simp⟩) hHeld ?_
  simp only [Act.put, List.getElem_toArray, List.getElem_cons_zero, List.setIfInBounds_toArray, List.set_cons_zero, List.set_cons_succ]
  refine wpAnyH_take (i := 1) (v := .int .u8 m) rfl (by kernel_rfl) (by kernel_rfl) (by kernel_rfl) (fun _ _ _ h => h) (Or.inl ⟨by rfl, fun w hSw => by (try dsimp only at hSw); go_simp⟩) hHeld ?_
  simp only [Act.put, List.getElem_toArray, List.getElem_cons_zero, List.getElem_cons_succ, List.setIfInBounds_toArray, List.set_cons_zero, List.set_cons_succ]
  have bd : Below wc.heap.size wc wc.drew := (Below.refl _ _).drew
  have od := owns_below hoc bd
  have o1d := owns_below ho1c bd
  replace bc := below_on bc bd
  generalize wc.drew = wd at bc od o1d ⊢
  clear bd hoc ho1c
  refine wpAnyH_ready (rs := [2]) (by kernel_rfl) (by simp) ?_
  refine AllReadyH.cons rfl (fun K hK => ?_) AllReadyH.nil
  go_simp
  refine hK.out _ _ trivial (fun hHeld => ?_)
  clear hK K
  have be : Below wd.heap.size wd (wd.alloc (.cells #[.int .u8 m] 5)) := (Below.refl _ _).alloc (Nat.le_refl _) _
  have ce := in_one wd 5 m
  have oe := owns_below od be
  have o1e := owns_below o1d be
  have bce := below_on bc be
  generalize wd.alloc (.cells #[.int .u8 m] 5) = we at be ce oe o1e bce ⊢
  clear be od o1d bc
  refine wpAnyH_ready (rs := [3]) (by kernel_rfl) (by simp) ?_
  refine AllReadyH.cons rfl (fun K hK => ?_) AllReadyH.nil
  go_simp
  refine (repeat64 _ _ _ m RL hrep we ce).mono ?_
  rintro e wf ⟨rfl, hinf, bf⟩
  go_wp2_with (fail)
  refine hK.out _ _ trivial (fun hHeld => ?_)
  clear hK K
  have ofz := owns_below oe bf
  have o1f := owns_below o1e bf
  have bcf := below_on bce bf
  clear oe o1e bce bf ce
  refine wpAnyH_ready (rs := [4]) (by kernel_rfl) (by simp) ?_
  refine AllReadyH.cons rfl (fun K hK => ?_) AllReadyH.nil
  go_simp
  refine (implXor_own _ _ 64 64 _ _ KL RL wf (by omega) (by omega) hkl hrl (u8L_in_range ofz) hinf).mono ?_
  rintro e wg ⟨px, cx, rfl, rx, bx⟩
  rw [hme.out] at rx
  have hrx := rx.1
  have hcx := rx.cap
  obtain ⟨gx, rfl⟩ := owns_at hrx (by decide)
  go_wp2_with (fail)
  refine hK.out _ _ trivial (fun hHeld => ?_)
  clear hK K
  have o1g := owns_below o1f bx
  have bcg := below_on bcf bx
  clear o1f bcf bx ofz hinf rx
  have hat : ∀ w, (Instr.arrayAt 134 (.slice (some ⟨gx, 0, none⟩) 64 cx)).run Tryz.prog w = .ok (.pointer (some ⟨gx, 0, none⟩)) w := fun w => run_arrayAt w 134 _ 64 _ 64 cx Tryz.underlying134 (by omega)
  have hra : wg.rangeAt gx 0 (u8L ML) := fun j v hv => by
    have hj : j < 64 := by have := (List.getElem?_eq_some_iff.1 hv).1; rw [u8L_length, hml.out] at this; exact this
    rw [Nat.zero_add, hrx.cellAt j hj]
    exact hv
  have hszM : (Tryz.prog.info? 134).map (·.size) = some (u8L ML).length := by rw [infoBlk, u8L_length, hml.out]
  have hszM2 : (Tryz.prog.info? 134).map (·.size) = some (u8L ML).toArray.size := by rw [hszM]; simp
  have hth : wg.there w.heap.size 0 (u8L ML).toArray.size := by rw [show (u8L ML).toArray.size = 64 by simp [u8L_length, hml.out]]; exact owns_there o1g
  have hp := owns_put (u8L ML) 0 wg _ o1g
  have e1 := putL_mid [] (u8L zeroL) [] (u8L ML) (by rw [u8L_length, u8L_length, hml.out, hzl])
  simp only [List.nil_append, List.append_nil, List.length_nil] at e1
  rw [e1] at hp
  have bfin : Below w.heap.size w (wg.setCells w.heap.size 0 (u8L ML)) := bcg.grown hp.2 bcg.size (fun k hk => by cases hk; exact Nat.le_refl _)
  have hld := run_loadVar_mid (P := Tryz.prog) _ w.heap.size 0 134 _ _ (owns_range hp.1) Tryz.underlying134 rfl hszM
  clear hp e1 o1g bcg hrx
  refine wpAnyH_take (i := 5) (v := .pointer (some ⟨gx, 0, none⟩)) rfl (by kernel_rfl) (by kernel_rfl) (by kernel_rfl) (fun _ _ _ h => h) (Or.inl ⟨by rfl, fun w hSw => by (try dsimp only at hSw); go_simp⟩) hHeld ?_
  simp only [Act.put, List.getElem_toArray, List.getElem_cons_zero, List.getElem_cons_succ, List.setIfInBounds_toArray, List.set_cons_zero, List.set_cons_succ]
  refine wpAnyH_ready (rs := [6]) (by kernel_rfl) (by simp) ?_
  refine AllReadyH.cons rfl (fun K hK => ?_) AllReadyH.nil
  rw [if_pos (by rfl)]
  refine wp_load_mid _ _ rfl gx 0 rfl (u8L ML) _ hra Tryz.underlying134 rfl hszM ?_
  refine hK.out _ _ trivial (fun hHeld => ?_)
  clear hK K
  simp only [Act.put, List.getElem_toArray, List.getElem_cons_zero, List.getElem_cons_succ, List.setIfInBounds_toArray, List.set_cons_zero, List.set_cons_succ]
  refine wpAnyH_ready (rs := [7]) (by kernel_rfl) (by simp) ?_
  refine AllReadyH.cons rfl (fun K hK => ?_) AllReadyH.nil
  rw [if_pos (by rfl)]
  refine wp_store_mid _ _ _ rfl w.heap.size 0 (u8L ML).toArray rfl rfl hth hszM2 (all_oneCell_toArray (u8L_one ML)) ?_
  change K _ (wg.setCells w.heap.size 0 (u8L ML))
  refine hK.out _ _ trivial (fun _ => ?_)
  clear hK K
  simp only [Act.put, List.getElem_toArray, List.getElem_cons_zero, List.getElem_cons_succ]
  refine wpAnyH_done (by kernel_rfl) ?_ _
  refine NoPanic.normal ?_
  generalize wg.setCells w.heap.size 0 (u8L ML) = wz at bfin hld ⊢
  go_wp2_with (fail)
  (try simp only [Exit.inBlock, Exit.then])
  refine bodyPost_ret (v := .agg (u8L ML).toArray) ?_ rfl ⟨by rw [hML.out], bfin⟩
  simp [results, asAddr, hld]

end Go.Proofs.YthfnechcddmjkaaGreatDoor

namespace Go.Proofs.YthfnechcddmjkaaGreatDoor
set_option maxRecDepth 100000

def behindL (xs : List Int) : List Int := (padL (List.replicate 64 0 ++ xs)).drop 64
def behindN (n : Nat) : Nat := padN (64 + n) - 64
theorem pad_split {ys xs : List Int} (hy : ys.length = 64) (hx : xs.length ≤ 3936) : padL (ys ++ xs) = ys ++ behindL xs := by
  have h1 : (ys ++ xs).length = 64 + xs.length := by rw [List.length_append, hy]
  have h2 : (List.replicate 64 (0 : Int) ++ xs).length = 64 + xs.length := by rw [List.length_append, List.length_replicate]
  unfold behindL padL
  rw [h1, h2, if_pos (by omega), if_pos (by omega)]
  simp only [List.append_assoc]
  rw [List.drop_left' (by simp)]
theorem behindL_length {xs : List Int} : (behindL xs).length = behindN xs.length := by
  unfold behindL behindN
  rw [List.length_drop, padL_length, List.length_append, List.length_replicate]
theorem behindN_is {n : Nat} (h : n ≤ 3936) : padN (64 + n) = 64 + behindN n ∧ behindN n = 64 * (behindN n / 64) ∧ 64 ≤ behindN n ∧ behindN n ≤ 4096 := by
  have h1 := pad64 (n := 64 + n) (by omega)
  have h2 : padN (64 + n) = 64 + n + 1 + zerosN (64 + n) + 8 := if_pos (by omega)
  unfold behindN
  omega
theorem behindL_byte {xs : List Int} (hb : ∀ x ∈ xs, 0 ≤ x ∧ x < 256) : ∀ x ∈ behindL xs, 0 ≤ x ∧ x < 256 := by
  intro x hx
  refine padL_byte (xs := List.replicate 64 0 ++ xs) ?_ x (List.mem_of_mem_drop hx)
  intro y hy
  rcases List.mem_append.1 hy with h | h
  · have := List.eq_of_mem_replicate h
    omega
  · exact hb y h
theorem fold_head {ys : List Int} (hy : ys.length = 64) (S : List Nat) (zs : List Int) : ∀ k, foldF S (ys ++ zs) (k + 1) = foldF (blockN (wsOf ys) S) zs k
  | 0 => by
    show blockN (wsOf (((ys ++ zs).drop (64 * 0)).take 64)) S = _
    rw [Nat.mul_zero, List.drop_zero, List.take_left' hy]
    rfl
  | k + 1 => by
    show blockN (wsOf (((ys ++ zs).drop (64 * (k + 1))).take 64)) (foldF S (ys ++ zs) (k + 1)) = blockN (wsOf ((zs.drop (64 * k)).take 64)) (foldF (blockN (wsOf ys) S) zs k)
    rw [fold_head hy S zs k, show 64 * (k + 1) = 64 + 64 * k by omega, ← List.drop_drop, List.drop_left' hy]
theorem hash_behind {ys xs : List Int} (hy : ys.length = 64) (hx : xs.length ≤ 3936) : hashL (ys ++ xs) = bytesL true (natsL (foldF (blockN (wsOf ys) startN) (behindL xs) (behindN xs.length / 64))) := by
  have h1 : (ys ++ xs).length = 64 + xs.length := by rw [List.length_append, hy]
  have h2 := behindN_is hx
  unfold hashL
  rw [h1, if_pos (by omega), pad_split hy hx, h2.1, show (64 + behindN xs.length) / 64 = behindN xs.length / 64 + 1 by omega]
  unfold foldN
  rw [fold_head hy]

theorem hashL_length {xs : List Int} (h : xs.length ≤ 4000) : (hashL xs).length = 32 := by
  unfold hashL
  rw [if_pos h, bytesL_length, natsL_length, foldN_length]
theorem bytesL_byte {l : List Int} : ∀ x ∈ bytesL true l, 0 ≤ x ∧ x < 256 := by
  intro x hx
  unfold bytesL at hx
  obtain ⟨n, _, hx⟩ := List.mem_flatMap.1 hx
  simp only [fourL, littleL] at hx
  simp only [if_true, List.mem_reverse, List.mem_map] at hx
  obtain ⟨i, _, rfl⟩ := hx
  omega
theorem hashL_byte (xs : List Int) : ∀ x ∈ hashL xs, 0 ≤ x ∧ x < 256 := by
  unfold hashL
  split
  · exact bytesL_byte
  · intro x hx; simp at hx

def kL (key : List Int) : List Int := if 64 < key.length then hashL key else key
theorem kL_length {key : List Int} (h : key.length ≤ 4000) : (kL key).length ≤ 64 := by
  unfold kL
  split
  · rw [hashL_length h]; omega
  · omega
def ofL (k b : List Int) : List Int := hashL (markL k 92 ++ hashL (markL k 54 ++ b))
def macN (n m : Nat) : Nat := if n ≤ 3936 ∧ m ≤ 3936 then 32 else 0
def macL (key b : List Int) : List Int := if key.length ≤ 3936 ∧ b.length ≤ 3936 then ofL (kL key) b else []
theorem ofL_length {k b : List Int} (hk : k.length ≤ 64) (hb : b.length ≤ 3936) : (ofL k b).length = 32 := by
  unfold ofL
  rw [hashL_length]
  rw [List.length_append, markL_length hk, hashL_length (by rw [List.length_append, markL_length hk]; omega)]
  omega
theorem macL_length (key b : List Int) : (macL key b).length = macN key.length b.length := by
  unfold macL macN
  split
  · rename_i h
    exact ofL_length (kL_length (by omega)) h.2
  · rfl
theorem ofL_byte (k b : List Int) : ∀ x ∈ ofL k b, 0 ≤ x ∧ x < 256 := hashL_byte _
theorem macL_byte (key b : List Int) : ∀ x ∈ macL key b, 0 ≤ x ∧ x < 256 := by
  unfold macL
  split
  · exact ofL_byte _ _
  · intro x hx; simp at hx
theorem xor_byte (u v : Int) : 0 ≤ bits BinOp.xor IntKind.u8 u v ∧ bits BinOp.xor IntKind.u8 u v < 256 := by
  have : bits BinOp.xor IntKind.u8 u v = IntKind.u8.wrap ((BitVec.ofInt 8 u ^^^ BitVec.ofInt 8 v).toNat : Int) := rfl
  rw [this, IntKind.wrap_u8]
  omega
theorem markL_byte (k : List Int) (m : Int) : ∀ x ∈ markL k m, 0 ≤ x ∧ x < 256 := by
  intro x hx
  unfold markL xorL at hx
  obtain ⟨i, hi, rfl⟩ := List.getElem_of_mem hx
  rw [List.getElem_zipWith]
  exact xor_byte _ _

end Go.Proofs.YthfnechcddmjkaaGreatDoor

namespace Go.Proofs.YthfnechcddmjkaaGreatDoor
open Go.RowKit
set_option maxRecDepth 100000

theorem concat2 (p0 p1 : Option Addr) (n0 n1 c0 c1 : Nat) (xs0 xs1 : List Int) (w0 : World) (hx0 : xs0.length = n0) (hx1 : xs1.length = n1) (h0 : 0 < n0 + n1) (hs1 : n0 + n1 ≤ 1048576)
    (i0 : BytesIn w0 p0 n0 xs0) (i1 : BytesIn w0 p1 n1 xs1) (gr : Nat) (hgr : w0.heap.size = gr) :
    Calls Tryz.prog 47 #[.slice (some ⟨gr, 0, none⟩) 2 2] (w0.alloc (.cells #[.slice p0 n0 c0, .slice p1 n1 c1] 22)) fun e w' =>
      ∃ p' c', e = .returned (.slice p' (n0 + n1) c') ∧ Own 5 w' w0.heap.size w'.heap.size (.slice p' (n0 + n1) c') (n0 + n1) (xs0 ++ xs1) ∧ Below w0.heap.size w0 w' := by
  subst hgr
  have ba : Below w0.heap.size w0 (w0.alloc (.cells #[.slice p0 n0 c0, .slice p1 n1 c1] 22)) := (Below.refl _ _).alloc (Nat.le_refl _) _
  have hs : sumN (fun k => match k with | 0 => n0 | _ => n1) 2 = n0 + n1 := by simp [sumN]
  have hc : catL (fun k => match k with | 0 => xs0 | _ => xs1) 2 = xs0 ++ xs1 := by simp [catL]
  have h := concat_any w0.heap.size 2 (fun k => match k with | 0 => p0 | _ => p1) (fun k => match k with | 0 => n0 | _ => n1) (fun k => match k with | 0 => c0 | _ => c1) (fun k => match k with | 0 => xs0 | _ => xs1)
    (w0.alloc (.cells #[.slice p0 n0 c0, .slice p1 n1 c1] 22)) (by decide)
    (fun k hk => by
      rw [cell_of_row _ _ k _ _ _ (heap_alloc_new w0 _)]
      match k, hk with
      | 0, _ => rfl
      | 1, _ => rfl)
    (fun k hk => by
      match k, hk with
      | 0, _ => exact hx0
      | 1, _ => exact hx1)
    (fun k hk => by
      match k, hk with
      | 0, _ => exact in_below i0 ba
      | 1, _ => exact in_below i1 ba)
    (by rw [hs]; omega) (by rw [hs]; omega)
  rw [hs, hc] at h
  refine h.mono ?_
  rintro e w' ⟨p', c', rfl, r, b⟩
  exact ⟨p', c', rfl, ⟨owns_mono r.1 (by simp), r.2⟩, below_on ba b⟩

set_option maxHeartbeats 2000000 in
theorem padBehind_any (p : Option Addr) (n c : Nat) (xs : List Int) (w : World) (hn : n ≤ 3936) (hx : xs.length = n) (h : BytesIn w p n xs) :
    Calls Tryz.prog 140 #[.slice p n c] w fun e w' => ∃ g c', e = .returned (.slice (some ⟨g, 64, none⟩) (behindN n) c') ∧ w.heap.size ≤ g ∧ behindN n ≤ c' ∧ BytesIn w' (some ⟨g, 64, none⟩) (behindN n) (behindL xs) ∧ Below w.heap.size w w' := by
  obtain ⟨i0, hi, hz0, hz1, hz2⟩ := info_parts infoByte
  obtain ⟨hb1, hb2, hb3, hb4⟩ := behindN_is hn
  have hbl : (behindL xs).length = behindN n := by rw [behindL_length, hx]
  have C := fun p c w h => implPad_any p (64 + n) c (List.replicate 64 0 ++ xs) w (by omega) (by rw [List.length_append, List.length_replicate, hx]) h
  rw [hb1, pad_split (by simp) (by omega)] at C
  have CC := fun c1 X h1 h2 gr hgr => concat2 (some ⟨w.heap.size, 0, none⟩) p 64 n 64 c1 (List.replicate 64 0) xs X (by simp) hx (by omega) (by omega) h1 h2 gr hgr
  have HI : Hid (∀ (X : World) q, BytesIn X (some ⟨q, 0, none⟩) (64 + behindN n) (List.replicate 64 0 ++ behindL xs) → BytesIn X (some ⟨q, 64, none⟩) (behindN n) (behindL xs)) := by
    intro X q hq _
    obtain ⟨b, o, e1, e2⟩ := hq (by omega)
    simp only [Option.some.injEq, Addr.mk.injEq, and_true] at e1
    obtain ⟨rfl, rfl⟩ := e1
    refine ⟨_, _, rfl, fun i hi => ?_⟩
    have := e2 (64 + i) (by omega)
    rw [Nat.zero_add] at this
    rw [this, List.getD_eq_getElem?_getD, List.getD_eq_getElem?_getD, List.getElem?_append_right (by simp), List.length_replicate, Nat.add_sub_cancel_left]
  have hmk0 : ∀ W : World, (Instr.makeSlice 22 (.int .i64 64) (.int .i64 64)).run Tryz.prog W = .ok (.slice (some ⟨W.heap.size, 0, none⟩) 64 64) (W.alloc (.cells (madeCells #[.int .u8 0] 64) 5)) := by
    intro W
    have := run_makeSlice (P := Tryz.prog) W 22 5 i0 (.int .u8 0) Tryz.underlying22 hi hz0 .i64 .i64 64 64 (by omega) (by omega) (by rw [hz1]; simp) (by rw [hz2]; omega) (by omega)
    rw [hz1] at this
    exact this
  have hin0 := in_zeros w 5 64
  obtain ⟨Zc, hZc⟩ : ∃ Zc, Zc = madeCells #[Value.int .u8 0] 64 := ⟨_, rfl⟩
  rw [← hZc] at hin0
  simp only [← hZc] at hmk0
  clear hZc hb1 hb2
  generalize List.replicate 64 (0 : Int) = R64 at C CC HI hin0
  generalize behindN n = M at C HI hb3 hb4 hbl ⊢
  generalize behindL xs = BL at C HI hbl ⊢
  have ba : Below w.heap.size w (w.alloc (.cells Zc 5)) := (Below.refl _ _).alloc (Nat.le_refl _) _
  have hin1 := in_below h ba
  go_enter Tryz.func140, Tryz.ntmps140
  go_wp2_with (fail)
  refine (CC _ _ hin0 hin1 _ (by simp)).mono ?_
  rintro e w1 ⟨p1, c1, rfl, r1, b1⟩
  clear CC hmk0 hin0 hin1
  go_wp2_with (fail)
  refine (C _ _ _ r1.bytes).mono ?_
  rintro e w2 ⟨p2, c2, rfl, r2, b2⟩
  have hcap := r2.cap
  have hs1 := b1.size
  have hsa := ba.size
  have hown := r2.1
  obtain ⟨g, rfl⟩ := owns_at hown (by omega)
  have hlt := hown.lt g rfl
  have i2 : ¬ c2 = 64 := by omega
  have i3 : (64 : Int) ≤ 64 + (M : Int) := by omega
  clear C
  go_wp2
  go_ret
  exact ⟨g, c2 - 64, rfl, by omega, by omega, HI.out _ _ r2.bytes, below_on (below_on ba b1) b2⟩

end Go.Proofs.YthfnechcddmjkaaGreatDoor

namespace Go.Proofs.YthfnechcddmjkaaGreatDoor
open Go.RowKit
set_option maxRecDepth 100000

def stateN (L : List Int) : List Nat := blockN (wsOf L) startN
def codeC (k : List Int) : List Value := hashC (stateN (markL k 54)) (markL k 54) (spreadN (wsOf (markL k 54))) ++ hashC (stateN (markL k 92)) (markL k 92) (spreadN (wsOf (markL k 92)))
theorem codeC_length {k : List Int} (h : k.length ≤ 64) : (codeC k).length = 272 := by
  rw [codeC, List.length_append, hashC_length (S := stateN _) (blockN_length _ _) (markL_length h _) (spreadN_length (wsOf_length _)), hashC_length (S := stateN _) (blockN_length _ _) (markL_length h _) (spreadN_length (wsOf_length _))]
theorem infoCode : (Tryz.prog.info? 139).map (fun i => (i.zero, i.size)) = some (some (.agg (hashC (List.replicate 8 0) zeroL zero64 ++ hashC (List.replicate 8 0) zeroL zero64).toArray), 272) := by kernel_rfl
theorem codeC_one (k : List Int) : ∀ v ∈ codeC k, v.oneCell' = true := by
  intro v hv
  rcases List.mem_append.1 hv with h | h
  · exact hashC_one _ _ _ v h
  · exact hashC_one _ _ _ v h

section
variable {ty : Nat} {w : World} {lo g : Nat} {S S' : List Nat} {L L' : List Int} {W W' : List Nat}
theorem code_first (h1 : S.length = 8) (h2 : L.length = 64) (h3 : W.length = 64) (h : w.ownsRow lo ty 1 (.slice (some ⟨g, 0, none⟩) 272 272) 272 (hashC S L W ++ hashC S' L' W')) : HashIn ty 272 0 [] (hashC S' L' W') w lo g S L W :=
  ⟨h1, h2, h3, rfl, h⟩
theorem code_second (h1 : S.length = 8) (h2 : L.length = 64) (h3 : W.length = 64) (k1 : S'.length = 8) (k2 : L'.length = 64) (k3 : W'.length = 64) (h : w.ownsRow lo ty 1 (.slice (some ⟨g, 0, none⟩) 272 272) 272 (hashC S L W ++ hashC S' L' W')) : HashIn ty 272 136 (hashC S L W) [] w lo g S' L' W' :=
  ⟨k1, k2, k3, hashC_length h1 h2 h3, by rw [List.append_nil]; exact h⟩
theorem HashIn.rowFirst (h : HashIn ty 272 0 [] (hashC S' L' W') w lo g S L W) : w.ownsRow lo ty 1 (.slice (some ⟨g, 0, none⟩) 272 272) 272 (hashC S L W ++ hashC S' L' W') := h.2.2.2.2
theorem HashIn.rowSecond (h : HashIn ty 272 136 (hashC S L W) [] w lo g S' L' W') : w.ownsRow lo ty 1 (.slice (some ⟨g, 0, none⟩) 272 272) 272 (hashC S L W ++ hashC S' L' W') := by
  have := h.2.2.2.2
  rw [List.append_nil] at this
  exact this
end
theorem keys_below {w w' : World} (h : KeysIs w) (hb : Below w.heap.size w w') : KeysIs w' := fun t ht =>
  (hb.cell (p := ⟨1, t, none⟩) (World.block_lt_of_cell? w ⟨1, t, none⟩ (h t ht))).trans (h t ht)
theorem keys_lt {w : World} (h : KeysIs w) : 1 < w.heap.size := World.block_lt_of_cell? w ⟨1, 0, none⟩ (h 0 (by omega))
theorem code_made (w : World) (lo : Nat) (k : List Int) (h : k.length ≤ 64) (hlo : lo ≤ w.heap.size) :
    (w.alloc (.cells (codeC k).toArray 139)).ownsRow lo 139 1 (.slice (some ⟨w.heap.size, 0, none⟩) 272 272) 272 (codeC k) := by
  refine ⟨by rw [codeC_length h], .inr ⟨w.heap.size, 272, _, rfl, hlo, heap_alloc_new w _, Nat.le_refl _, by unfold maxLen; omega, by simp [codeC_length h], ?_⟩⟩
  rw [List.take_of_length_le (by simp [codeC_length h])]
theorem stateN_lt (L : List Int) : ∀ x ∈ stateN L, x < 4294967296 := blockN_lt _ _

set_option maxHeartbeats 2000000 in
theorem codeOf_any (k : List Int) (p : Option Addr) (n c : Nat) (xs : List Int) (w : World) (hk : k.length ≤ 64) (hn : n ≤ 3936) (hx : xs.length = n) (h : BytesIn w p n xs) (hb : ∀ x ∈ xs, 0 ≤ x ∧ x < 256) (hKey : KeysIs w) :
    Calls Tryz.prog 116 #[.agg (codeC k).toArray, .slice p n c] w fun e w' => ∃ p' c', e = .returned (.slice p' 32 c') ∧ Own 5 w' w.heap.size w'.heap.size (.slice p' 32 c') 32 (ofL k xs) ∧ Below w.heap.size w w' := by
  have hm := code_made w w.heap.size k hk (Nat.le_refl _)
  have bA : Below w.heap.size w (w.alloc (.cells (codeC k).toArray 139)) := (Below.refl _ _).alloc (Nat.le_refl _) _
  have hsA : (w.alloc (.cells (codeC k).toArray 139)).heap.size = w.heap.size + 1 := by simp
  have l1 := markL_length hk 54
  have l2 := markL_length hk 92
  have b1 := markL_byte k 54
  have b2 := markL_byte k 92
  have HO : Hid (ofL k xs = hashL (markL k 92 ++ hashL (markL k 54 ++ xs))) := rfl
  have H1 : Hid (hashL (markL k 54 ++ xs) = bytesL true (natsL (foldF (stateN (markL k 54)) (behindL xs) (behindN n / 64)))) := by rw [Hid, ← hx]; exact hash_behind l1 (by omega)
  have l32 : (hashL (markL k 54 ++ xs)).length = 32 := hashL_length (by rw [List.length_append]; omega)
  have b32 := hashL_byte (markL k 54 ++ xs)
  have H2 : Hid (hashL (markL k 92 ++ hashL (markL k 54 ++ xs)) = bytesL true (natsL (foldF (stateN (markL k 92)) (behindL (hashL (markL k 54 ++ xs))) (behindN 32 / 64)))) := by
    have := hash_behind (ys := markL k 92) (xs := hashL (markL k 54 ++ xs)) l2 (by omega)
    rw [l32] at this
    exact this
  unfold codeC at hm bA hsA ⊢
  generalize markL k 54 = M1 at *
  generalize markL k 92 = M2 at *
  generalize hashL (M1 ++ xs) = H at *
  obtain ⟨Cs, hCs⟩ : ∃ Cs, Cs = (hashC (stateN M1) M1 (spreadN (wsOf M1)) ++ hashC (stateN M2) M2 (spreadN (wsOf M2))).toArray := ⟨_, rfl⟩
  rw [← hCs] at hm bA hsA ⊢
  clear hCs
  go_enter Tryz.func116, Tryz.ntmps116
  go_wp2_with (fail)
  refine (padBehind_any p n _ xs _ hn hx (in_below h bA)).mono ?_
  rintro e wb ⟨gb, cb, rfl, hgb, hcb, hib, bB⟩
  have lw1 := wsOf_length M1
  have lw2 := wsOf_length M2
  have hB := code_first (S := stateN M1) (W := spreadN (wsOf M1)) (blockN_length _ _) l1 (spreadN_length lw1) (owns_below hm bB)
  have belB := below_on bA bB
  have keyB := keys_below hKey belB
  have hlo := keys_lt hKey
  obtain ⟨q1, q2, q3, q4⟩ := behindN_is hn
  have CT := takeAll_any _ _ _ _ _ w.heap.size w.heap.size (stateN M1) M1 (behindL xs) (some ⟨gb, 64, none⟩) (behindN n) cb (behindN n / 64) wb (stateN_lt M1) b1 (by rw [behindL_length, hx]) (behindL_byte hb) q2 (by omega) hcb hB keyB hlo hib (fun b q e => by simp only [Option.some.injEq, Addr.mk.injEq] at e; omega)
  clear q1 q2 q3 q4 hB hib hcb hm
  go_wp2_with (fail)
  refine CT.mono ?_
  rintro e wc ⟨rfl, L, hC, hLb, gC⟩
  clear CT
  have belC : Below w.heap.size w wc := belB.grown gC belB.size (fun i hi => by cases hi; exact Nat.le_refl _)
  have CS := sum_any _ _ _ _ _ w.heap.size w.heap.size _ L _ wc (foldF_lt (stateN_lt M1) _ _) hC
  rw [← H1.out] at CS
  go_wp2_with (fail)
  refine CS.mono ?_
  rintro e wd ⟨pd, cd, rfl, rd, bD⟩
  clear CS
  have belD := below_on belC bD
  have hD := hC.below bD
  clear hC
  go_wp2_with (fail)
  refine (padBehind_any pd 32 _ H _ (by omega) l32 rd.bytes).mono ?_
  rintro e we ⟨ge, ce, rfl, hge, hce, hie, bE⟩
  have belE := below_on belD bE
  have rowE := (hD.below bE).rowFirst
  have hE := code_second (S' := stateN M2) (W' := spreadN (wsOf M2)) (foldF_length (S := stateN M1) (blockN_length _ _) _ _) hD.2.1 hD.2.2.1 (blockN_length _ _) l2 (spreadN_length lw2) rowE
  have keyE := keys_below hKey belE
  obtain ⟨q1, q2, q3, q4⟩ := behindN_is (n := 32) (by omega)
  have hsz := belD.size
  have hgD := hD.lt
  have CT := takeAll_any _ _ _ _ _ w.heap.size w.heap.size (stateN M2) M2 (behindL H) (some ⟨ge, 64, none⟩) (behindN 32) ce (behindN 32 / 64) we (stateN_lt M2) b2 (by rw [behindL_length, l32]) (behindL_byte b32) q2 (by omega) hce hE keyE hlo hie (fun b q e => by simp only [Option.some.injEq, Addr.mk.injEq] at e; omega)
  clear q1 q2 q3 q4 hE hie hce hD rd rowE
  go_wp2_with (fail)
  refine CT.mono ?_
  rintro e wf ⟨rfl, L2, hF, hLb2, gF⟩
  clear CT
  have belF : Below w.heap.size w wf := belE.grown gF belE.size (fun i hi => by cases hi; exact Nat.le_refl _)
  have CS := sum_any _ _ _ _ _ w.heap.size w.heap.size _ L2 _ wf (foldF_lt (stateN_lt M2) _ _) hF
  rw [← H2.out, ← HO.out] at CS
  clear hF
  go_wp2_with (fail)
  refine CS.mono ?_
  rintro e wg ⟨pg, cg, rfl, rg, bG⟩
  go_wp2
  go_ret
  have hs := belF.size
  exact ⟨_, _, rfl, ⟨owns_mono rg.1 (by omega), rg.2⟩, below_on belF bG⟩

end Go.Proofs.YthfnechcddmjkaaGreatDoor

namespace Go.Proofs.YthfnechcddmjkaaGreatDoor
open Go.RowKit

def zCode : List Value := hashC (List.replicate 8 0) zeroL zero64 ++ hashC (List.replicate 8 0) zeroL zero64
def aCode : List Value := hashC startN zeroL zero64 ++ hashC startN zeroL zero64
theorem zCode_length : zCode.length = 272 := by rw [zCode, List.length_append, hashC_length (by simp) (by simp [zeroL]) (by simp [zero64])]
theorem aCode_length : aCode.length = 272 := by rw [aCode, List.length_append, hashC_length (by rfl) (by simp [zeroL]) (by simp [zero64])]
theorem zCode_made (w : World) (lo : Nat) (hlo : lo ≤ w.heap.size) :
    (w.alloc (.cells zCode.toArray 139)).ownsRow lo 139 1 (.slice (some ⟨w.heap.size, 0, none⟩) 272 272) 272 zCode := by
  refine ⟨by rw [zCode_length], .inr ⟨w.heap.size, 272, _, rfl, hlo, heap_alloc_new w _, Nat.le_refl _, by unfold maxLen; omega, by simp [zCode_length], ?_⟩⟩
  rw [List.take_of_length_le (by simp [zCode_length])]
theorem code_put {w : World} {lo g : Nat} {A B : List Value} (h : w.ownsRow lo 139 1 (.slice (some ⟨g, 0, none⟩) 272 272) 272 A) (hB : B.length = 272) :
    (w.setCells g 0 B).ownsRow lo 139 1 (.slice (some ⟨g, 0, none⟩) 272 272) 272 B ∧ w.grownBy (w.setCells g 0 B) (some g) := by
  have h5 := owns_put B 0 w _ h
  have e := putL_mid [] A [] B (by rw [hB]; have := h.1; omega)
  simp only [List.append_nil, List.nil_append, List.length_nil] at e
  rw [e] at h5
  exact h5
theorem aCode_one : ∀ v ∈ aCode, v.oneCell' = true := by
  intro v hv
  rcases List.mem_append.1 hv with h | h
  · exact hashC_one _ _ _ v h
  · exact hashC_one _ _ _ v h
theorem build_code (w : World) : (Instr.build 139 #[(0, .agg (hashC startN zeroL zero64).toArray), (1, .agg (hashC startN zeroL zero64).toArray)]).run Tryz.prog w = .ok (.agg aCode.toArray) w :=
  run_build w 139 _ _ (by kernel_rfl)
theorem wpList_build_runC {P : Program} {ops : Array Oper} {rest : List Oper} {o : Oper} {a : Act} {w : World} {Q : Exit → Act → World → Prop} (hgd : o.guard = none) (t : TypeId) (parts : Array (Nat × Operand)) (ho : o.op = .build t parts)
    (vs : Array (Nat × Value)) (hvs : (parts.map fun (i, x) => (i, a.eval x)) = vs) {v : Value} (hr : (Instr.build t vs).run P w = .ok v w) (h : wpList P ops Q rest (a.put o.dst v) w) : wpList P ops Q (o :: rest) a w :=
  wpList_plain hgd fun _ hK => by
    unfold Oper.wp execOp
    subst hvs
    simp only [ho, Sem.run_bind, Sem.run_pure, Result.andThen_ok, hr]
    exact hK _ _ h
theorem newHash_start (p : Option Addr) (c : Nat) (w : World) (h : IntsIn w p 8 startL) :
    Calls Tryz.prog 135 #[.slice p 8 c] w fun e w' => e = .returned (.agg (hashC startN zeroL zero64).toArray) ∧ Below w.heap.size w w' := by
  have h := newHash_any p c startL w rfl h
  rw [show wordsN startL = startN from wordsN_nats (by decide)] at h
  exact h

set_option maxRecDepth 100000 in
set_option maxHeartbeats 400000 in
theorem newCode_small (p : Option Addr) (n c : Nat) (xs : List Int) (w : World) (hn : n ≤ 64) (hx : xs.length = n) (h : BytesIn w p n xs) (_hb : ∀ x ∈ xs, 0 ≤ x ∧ x < 256) (hKey : KeysIs w) :
    Calls Tryz.prog 115 #[.slice p n c] w fun e w' => e = .returned (.agg (codeC (kL xs)).toArray) ∧ Below w.heap.size w w' := by
  have hkk : kL xs = xs := if_neg (by omega)
  rw [hkk]
  clear hkk
  have c1 : ¬ (64 : Int) < (n : Int) := by omega
  have hz : Hid ((Tryz.prog.info? 139).map (fun i => (i.zero, i.size)) = some (some (.agg zCode.toArray), 272)) := infoCode
  have hzv := (zero_of_info hz.out).1
  have hsz0 := (zero_of_info hz.out).2
  have bC := build_code
  have m1 := zCode_made
  have CN := newHash_start
  have hA1 := aCode_one
  have hAl := aCode_length
  have hA2 : Hid (aCode = hashC startN zeroL zero64 ++ hashC startN zeroL zero64) := rfl
  have hlo := keys_lt hKey
  have bz : Below w.heap.size w (w.alloc (.cells zCode.toArray 139)) := (Below.refl _ _).alloc (Nat.le_refl _) _
  have oz := m1 w w.heap.size (Nat.le_refl _)
  obtain ⟨H0, hH0⟩ : ∃ H0, H0 = (hashC startN zeroL zero64).toArray := ⟨_, rfl⟩
  rw [← hH0] at CN
  simp only [← hH0] at bC
  obtain ⟨Z, hZ⟩ : ∃ Z, Z = zCode.toArray := ⟨_, rfl⟩
  rw [← hZ] at hzv oz bz
  simp only [← hZ] at m1
  generalize aCode = AC at bC hA1 hAl hA2
  have hzl := zCode_length
  generalize zCode = ZC at hz oz m1 hzl
  clear hz hH0 hZ
  go_enter Tryz.func115, Tryz.ntmps115
  have ik := in_below h bz
  have ok := oz
  have bk := bz
  have hnk := hn
  have hxk := hx
  go_wp2_with (fail)
  generalize w.alloc (.cells Z 139) = wk at ik ok bk ⊢
  clear oz bz h
  refine (implStart_any _).mono ?_
  rintro e w1 ⟨p1, c1, rfl, r1, b1⟩
  go_wp2_with (fail)
  refine (CN _ _ _ r1.ints).mono ?_
  rintro e w2 ⟨rfl, b2⟩
  go_wp2_with (fail)
  refine (implStart_any _).mono ?_
  rintro e w3 ⟨p3, c3, rfl, r3, b3⟩
  go_wp2_with (fail)
  refine (CN _ _ _ r3.ints).mono ?_
  rintro e w4 ⟨rfl, b4⟩
  have B4 := below_on (below_on (below_on b1 b2) b3) b4
  clear r1 r3 b1 b2 b3 b4 CN
  have i4 := in_below ik B4
  have o4 := owns_below ok B4
  have bel4 := below_on bk B4
  clear ik ok bk B4
  have oa := m1 w4 w.heap.size bel4.size
  have ba : Below w4.heap.size w4 (w4.alloc (.cells Z 139)) := (Below.refl _ _).alloc (Nat.le_refl _) _
  have hth : (w4.alloc (.cells Z 139)).there w4.heap.size 0 AC.toArray.size := by rw [show AC.toArray.size = 272 by simpa using hAl]; exact owns_there oa
  have hszA : (Tryz.prog.info? 139).map (·.size) = some AC.toArray.size := by rw [show AC.toArray.size = 272 by simpa using hAl]; exact hsz0
  have hp := code_put oa hAl
  have bel5 : Below w.heap.size w ((w4.alloc (.cells Z 139)).setCells w4.heap.size 0 AC) := (below_on bel4 ba).grown hp.2 (below_on bel4 ba).size (fun k hk => by cases hk; exact bel4.size)
  have b45 : Below w4.heap.size w4 ((w4.alloc (.cells Z 139)).setCells w4.heap.size 0 AC) := ba.grown hp.2 ba.size (fun k hk => by cases hk; exact Nat.le_refl _)
  have i5 := in_below i4 b45
  have o5 := owns_below o4 b45
  have hc5 := hp.1
  have hg4 : w.heap.size < w4.heap.size := (o4.lt w.heap.size rfl).2
  have hfar : Hid (∀ bb oo, 0 < n → p = some ⟨bb, oo, none⟩ → bb < w4.heap.size) := fun bb oo hpos e => by
    obtain ⟨b', o', e1, e2⟩ := i4 hpos
    rw [e1] at e
    simp only [Option.some.injEq, Addr.mk.injEq, and_true] at e
    have := World.block_lt_of_cell? w4 ⟨b', o' + 0, none⟩ (e2 0 hpos)
    rw [← e.1]
    exact this
  clear hp oa ba b45 bel4 i4 o4
  go_wp2_with (first | (refine wpList_build_runC rfl 139 #[(0, .tmp 10), (1, .tmp 12)] rfl #[(0, .agg H0), (1, .agg H0)] (by simp [Act.eval]) (bC _) ?_) | (refine wpList_store_mid rfl 139 _ _ rfl w4.heap.size 0 AC.toArray rfl rfl hth hszA (all_oneCell_toArray hA1) ?_))
  clear hth hszA bC hzv m1
  generalize (w4.alloc (.cells Z 139)).setCells w4.heap.size 0 AC = w5 at hc5 bel5 i5 o5 ⊢
  generalize w4.heap.size = g at hc5 hg4 hfar ⊢
  refine (markedKey_any p n _ xs 54 w5 hn hx i5).mono ?_
  rintro e w6 ⟨rfl, b6⟩
  rw [hA2.out] at hc5
  have h6 := code_first (by rfl) (by simp [zeroL]) (by simp [zero64]) (owns_below hc5 b6)
  rw [← zeroL_spread] at h6
  have bel6 := below_on bel5 b6
  have CT := take_any _ _ _ _ _ w.heap.size g startN zeroL (markL xs 54) w6 startN_lt zeroL_byte (markL_length (by omega) 54) (markL_byte xs 54) h6 (keys_below hKey bel6) hlo
  have i6 := in_below i5 b6
  have o6 := owns_below o5 b6
  clear h6 b6 hc5 i5 o5 bel5 hA1 hAl hA2
  go_wp2_with (fail)
  refine CT.mono ?_
  rintro e w7 ⟨rfl, h7, g7⟩
  clear CT
  have bel7 : Below w.heap.size w w7 := bel6.grown g7 bel6.size (fun k hk => by cases hk; omega)
  have i7 : BytesIn w7 p n xs := fun hpos => by
    obtain ⟨bb, oo, e1, e2⟩ := i6 hpos
    have hbg : bb < g := hfar.out bb oo hpos e1
    exact ⟨bb, oo, e1, fun i hi => (cell_grown (p := ⟨bb, oo + i, none⟩) g7 (World.block_lt_of_cell? w6 ⟨bb, oo + i, none⟩ (e2 i hi)) (show bb ≠ g by omega)).trans (e2 i hi)⟩
  have o7 := o6.kept g7 (.inr (by simp [Value.ownBlock]; omega))
  clear i6 o6 g7 bel6
  go_wp2_with (fail)
  refine (markedKey_any p n _ xs 92 w7 hn hx i7).mono ?_
  rintro e w8 ⟨rfl, b8⟩
  have h8 := code_second (blockN_length _ _) (markL_length (by omega) 54) (spreadN_length (wsOf_length _)) (by rfl) (by simp [zeroL]) (spreadN_length (wsOf_length _)) (owns_below h7.rowFirst b8)
  have bel8 := below_on bel7 b8
  have CT := take_any _ _ _ _ _ w.heap.size g startN zeroL (markL xs 92) w8 startN_lt zeroL_byte (markL_length (by omega) 92) (markL_byte xs 92) h8 (keys_below hKey bel8) hlo
  have o8 := owns_below o7 b8
  clear h8 b8 h7 i7 o7 bel7 hfar
  go_wp2_with (fail)
  refine CT.mono ?_
  rintro e w9 ⟨rfl, h9, g9⟩
  clear CT
  have bel9 : Below w.heap.size w w9 := bel8.grown g9 bel8.size (fun k hk => by cases hk; omega)
  have o9 := o8.kept g9 (.inr (by simp [Value.ownBlock]; omega))
  have row9 := h9.rowSecond
  have hCl := codeC_length (k := xs) (by omega)
  have hC1 := codeC_one xs
  have hCe : hashC (blockN (wsOf (markL xs 54)) startN) (markL xs 54) (spreadN (wsOf (markL xs 54))) ++ hashC (blockN (wsOf (markL xs 92)) startN) (markL xs 92) (spreadN (wsOf (markL xs 92))) = codeC xs := rfl
  rw [hCe] at row9
  obtain ⟨Cs, hCs⟩ : ∃ Cs, Cs = codeC xs := ⟨_, rfl⟩
  rw [← hCs] at row9 hCl hC1
  replace hCs : Hid (Cs = codeC xs) := hCs
  clear h9 g9 bel8 o8 hCe
  have hra := owns_range row9
  have hszC : (Tryz.prog.info? 139).map (·.size) = some Cs.length := by rw [hCl]; exact hsz0
  have hszC2 : (Tryz.prog.info? 139).map (·.size) = some Cs.toArray.size := by simpa using hszC
  have hth : w9.there w.heap.size 0 Cs.toArray.size := by rw [show Cs.toArray.size = 272 by simpa using hCl]; exact owns_there o9
  have hp := code_put o9 hCl
  have bfin : Below w.heap.size w (w9.setCells w.heap.size 0 Cs) := bel9.grown hp.2 bel9.size (fun k hk => by cases hk; exact Nat.le_refl _)
  have hld := run_loadVar_mid (P := Tryz.prog) _ w.heap.size 0 139 _ _ (owns_range hp.1) Tryz.underlying139 rfl hszC
  clear hp o9 row9
  go_wp2_with (first | (refine wpList_load_mid rfl 139 _ rfl g 0 rfl Cs _ hra Tryz.underlying139 rfl hszC ?_) | (refine wpList_store_mid rfl 139 _ _ rfl w.heap.size 0 Cs.toArray rfl rfl hth hszC2 (all_oneCell_toArray hC1) ?_))
  (try simp only [Exit.inBlock, Exit.then])
  refine bodyPost_ret (v := .agg Cs.toArray) ?_ rfl ⟨by rw [hCs.out], bfin⟩
  simp [results, asAddr, Act.put, hld]

set_option maxRecDepth 100000 in
set_option maxHeartbeats 400000 in
theorem newCode_big (p : Option Addr) (n c : Nat) (xs : List Int) (w : World) (hn : 64 < n) (hn2 : n ≤ 4000) (hx : xs.length = n) (h : BytesIn w p n xs) (hb : ∀ x ∈ xs, 0 ≤ x ∧ x < 256) (hKey : KeysIs w) :
    Calls Tryz.prog 115 #[.slice p n c] w fun e w' => e = .returned (.agg (codeC (kL xs)).toArray) ∧ Below w.heap.size w w' := by
  have hkk : kL xs = hashL xs := if_pos (by omega)
  rw [hkk]
  clear hkk
  have c1 : (64 : Int) < (n : Int) := by omega
  have hxk : (hashL xs).length = 32 := hashL_length (by omega)
  have hnk : 32 ≤ 64 := by decide
  have hz : Hid ((Tryz.prog.info? 139).map (fun i => (i.zero, i.size)) = some (some (.agg zCode.toArray), 272)) := infoCode
  have hzv := (zero_of_info hz.out).1
  have hsz0 := (zero_of_info hz.out).2
  have bC := build_code
  have m1 := zCode_made
  have CN := newHash_start
  have hA1 := aCode_one
  have hAl := aCode_length
  have hA2 : Hid (aCode = hashC startN zeroL zero64 ++ hashC startN zeroL zero64) := rfl
  have hlo := keys_lt hKey
  have bz : Below w.heap.size w (w.alloc (.cells zCode.toArray 139)) := (Below.refl _ _).alloc (Nat.le_refl _) _
  have oz := m1 w w.heap.size (Nat.le_refl _)
  obtain ⟨H0, hH0⟩ : ∃ H0, H0 = (hashC startN zeroL zero64).toArray := ⟨_, rfl⟩
  rw [← hH0] at CN
  simp only [← hH0] at bC
  obtain ⟨Z, hZ⟩ : ∃ Z, Z = zCode.toArray := ⟨_, rfl⟩
  rw [← hZ] at hzv oz bz
  simp only [← hZ] at m1
  generalize aCode = AC at bC hA1 hAl hA2
  have hzl := zCode_length
  generalize zCode = ZC at hz oz m1 hzl
  clear hz hH0 hZ
  go_enter Tryz.func115, Tryz.ntmps115
  go_wp2_with (fail)
  refine (implHash_yes p n _ xs _ hn2 hx (in_below h bz) hb (keys_below hKey bz)).mono ?_
  rintro e wk ⟨pk, ck, rfl, rk, bk0⟩
  have hHe : bytesL true (natsL (foldN (padL xs) (padN n / 64))) = hashL xs := by unfold hashL; rw [hx, if_pos hn2]
  rw [hHe] at rk
  have ik := rk.bytes
  have ok := owns_below oz bk0
  have bk := below_on bz bk0
  clear oz bz h hHe rk bk0
  obtain ⟨k, hkd⟩ : ∃ k, k = hashL xs := ⟨_, rfl⟩
  rw [← hkd] at hxk ik
  replace hkd : Hid (k = hashL xs) := hkd
  go_wp2_with (fail)
  refine (implStart_any _).mono ?_
  rintro e w1 ⟨p1, c1, rfl, r1, b1⟩
  go_wp2_with (fail)
  refine (CN _ _ _ r1.ints).mono ?_
  rintro e w2 ⟨rfl, b2⟩
  go_wp2_with (fail)
  refine (implStart_any _).mono ?_
  rintro e w3 ⟨p3, c3, rfl, r3, b3⟩
  go_wp2_with (fail)
  refine (CN _ _ _ r3.ints).mono ?_
  rintro e w4 ⟨rfl, b4⟩
  have B4 := below_on (below_on (below_on b1 b2) b3) b4
  clear r1 r3 b1 b2 b3 b4 CN
  have i4 := in_below ik B4
  have o4 := owns_below ok B4
  have bel4 := below_on bk B4
  clear ik ok bk B4
  have oa := m1 w4 w.heap.size bel4.size
  have ba : Below w4.heap.size w4 (w4.alloc (.cells Z 139)) := (Below.refl _ _).alloc (Nat.le_refl _) _
  have hth : (w4.alloc (.cells Z 139)).there w4.heap.size 0 AC.toArray.size := by rw [show AC.toArray.size = 272 by simpa using hAl]; exact owns_there oa
  have hszA : (Tryz.prog.info? 139).map (·.size) = some AC.toArray.size := by rw [show AC.toArray.size = 272 by simpa using hAl]; exact hsz0
  have hp := code_put oa hAl
  have bel5 : Below w.heap.size w ((w4.alloc (.cells Z 139)).setCells w4.heap.size 0 AC) := (below_on bel4 ba).grown hp.2 (below_on bel4 ba).size (fun k hk => by cases hk; exact bel4.size)
  have b45 : Below w4.heap.size w4 ((w4.alloc (.cells Z 139)).setCells w4.heap.size 0 AC) := ba.grown hp.2 ba.size (fun k hk => by cases hk; exact Nat.le_refl _)
  have i5 := in_below i4 b45
  have o5 := owns_below o4 b45
  have hc5 := hp.1
  have hg4 : w.heap.size < w4.heap.size := (o4.lt w.heap.size rfl).2
  have hfar : Hid (∀ bb oo, 0 < 32 → pk = some ⟨bb, oo, none⟩ → bb < w4.heap.size) := fun bb oo hpos e => by
    obtain ⟨b', o', e1, e2⟩ := i4 hpos
    rw [e1] at e
    simp only [Option.some.injEq, Addr.mk.injEq, and_true] at e
    have := World.block_lt_of_cell? w4 ⟨b', o' + 0, none⟩ (e2 0 hpos)
    rw [← e.1]
    exact this
  clear hp oa ba b45 bel4 i4 o4
  go_wp2_with (first | (refine wpList_build_runC rfl 139 #[(0, .tmp 10), (1, .tmp 12)] rfl #[(0, .agg H0), (1, .agg H0)] (by simp [Act.eval]) (bC _) ?_) | (refine wpList_store_mid rfl 139 _ _ rfl w4.heap.size 0 AC.toArray rfl rfl hth hszA (all_oneCell_toArray hA1) ?_))
  clear hth hszA bC hzv m1
  generalize (w4.alloc (.cells Z 139)).setCells w4.heap.size 0 AC = w5 at hc5 bel5 i5 o5 ⊢
  generalize w4.heap.size = g at hc5 hg4 hfar ⊢
  refine (markedKey_any pk 32 _ k 54 w5 hnk hxk i5).mono ?_
  rintro e w6 ⟨rfl, b6⟩
  rw [hA2.out] at hc5
  have h6 := code_first (by rfl) (by simp [zeroL]) (by simp [zero64]) (owns_below hc5 b6)
  rw [← zeroL_spread] at h6
  have bel6 := below_on bel5 b6
  have CT := take_any _ _ _ _ _ w.heap.size g startN zeroL (markL k 54) w6 startN_lt zeroL_byte (markL_length (by omega) 54) (markL_byte k 54) h6 (keys_below hKey bel6) hlo
  have i6 := in_below i5 b6
  have o6 := owns_below o5 b6
  clear h6 b6 hc5 i5 o5 bel5 hA1 hAl hA2
  go_wp2_with (fail)
  refine CT.mono ?_
  rintro e w7 ⟨rfl, h7, g7⟩
  clear CT
  have bel7 : Below w.heap.size w w7 := bel6.grown g7 bel6.size (fun k hk => by cases hk; omega)
  have i7 : BytesIn w7 pk 32 k := fun hpos => by
    obtain ⟨bb, oo, e1, e2⟩ := i6 hpos
    have hbg : bb < g := hfar.out bb oo hpos e1
    exact ⟨bb, oo, e1, fun i hi => (cell_grown (p := ⟨bb, oo + i, none⟩) g7 (World.block_lt_of_cell? w6 ⟨bb, oo + i, none⟩ (e2 i hi)) (show bb ≠ g by omega)).trans (e2 i hi)⟩
  have o7 := o6.kept g7 (.inr (by simp [Value.ownBlock]; omega))
  clear i6 o6 g7 bel6
  go_wp2_with (fail)
  refine (markedKey_any pk 32 _ k 92 w7 hnk hxk i7).mono ?_
  rintro e w8 ⟨rfl, b8⟩
  have h8 := code_second (blockN_length _ _) (markL_length (by omega) 54) (spreadN_length (wsOf_length _)) (by rfl) (by simp [zeroL]) (spreadN_length (wsOf_length _)) (owns_below h7.rowFirst b8)
  have bel8 := below_on bel7 b8
  have CT := take_any _ _ _ _ _ w.heap.size g startN zeroL (markL k 92) w8 startN_lt zeroL_byte (markL_length (by omega) 92) (markL_byte k 92) h8 (keys_below hKey bel8) hlo
  have o8 := owns_below o7 b8
  clear h8 b8 h7 i7 o7 bel7 hfar
  go_wp2_with (fail)
  refine CT.mono ?_
  rintro e w9 ⟨rfl, h9, g9⟩
  clear CT
  have bel9 : Below w.heap.size w w9 := bel8.grown g9 bel8.size (fun k hk => by cases hk; omega)
  have o9 := o8.kept g9 (.inr (by simp [Value.ownBlock]; omega))
  have row9 := h9.rowSecond
  have hCl := codeC_length (k := k) (by omega)
  have hC1 := codeC_one k
  have hCe : hashC (blockN (wsOf (markL k 54)) startN) (markL k 54) (spreadN (wsOf (markL k 54))) ++ hashC (blockN (wsOf (markL k 92)) startN) (markL k 92) (spreadN (wsOf (markL k 92))) = codeC k := rfl
  rw [hCe] at row9
  obtain ⟨Cs, hCs⟩ : ∃ Cs, Cs = codeC k := ⟨_, rfl⟩
  rw [← hCs] at row9 hCl hC1
  replace hCs : Hid (Cs = codeC k) := hCs
  clear h9 g9 bel8 o8 hCe
  have hra := owns_range row9
  have hszC : (Tryz.prog.info? 139).map (·.size) = some Cs.length := by rw [hCl]; exact hsz0
  have hszC2 : (Tryz.prog.info? 139).map (·.size) = some Cs.toArray.size := by simpa using hszC
  have hth : w9.there w.heap.size 0 Cs.toArray.size := by rw [show Cs.toArray.size = 272 by simpa using hCl]; exact owns_there o9
  have hp := code_put o9 hCl
  have bfin : Below w.heap.size w (w9.setCells w.heap.size 0 Cs) := bel9.grown hp.2 bel9.size (fun k hk => by cases hk; exact Nat.le_refl _)
  have hld := run_loadVar_mid (P := Tryz.prog) _ w.heap.size 0 139 _ _ (owns_range hp.1) Tryz.underlying139 rfl hszC
  clear hp o9 row9
  go_wp2_with (first | (refine wpList_load_mid rfl 139 _ rfl g 0 rfl Cs _ hra Tryz.underlying139 rfl hszC ?_) | (refine wpList_store_mid rfl 139 _ _ rfl w.heap.size 0 Cs.toArray rfl rfl hth hszC2 (all_oneCell_toArray hC1) ?_))
  (try simp only [Exit.inBlock, Exit.then])
  refine bodyPost_ret (v := .agg Cs.toArray) ?_ rfl ⟨by rw [hCs.out, hkd.out], bfin⟩
  simp [results, asAddr, Act.put, hld]

theorem newCode_any (p : Option Addr) (n c : Nat) (xs : List Int) (w : World) (hn : n ≤ 4000) (hx : xs.length = n) (h : BytesIn w p n xs) (hb : ∀ x ∈ xs, 0 ≤ x ∧ x < 256) (hKey : KeysIs w) :
    Calls Tryz.prog 115 #[.slice p n c] w fun e w' => e = .returned (.agg (codeC (kL xs)).toArray) ∧ Below w.heap.size w w' := by
  by_cases h64 : n ≤ 64
  · exact newCode_small p n c xs w h64 hx h hb hKey
  · exact newCode_big p n c xs w (by omega) hn hx h hb hKey

end Go.Proofs.YthfnechcddmjkaaGreatDoor

namespace Go.Proofs.YthfnechcddmjkaaGreatDoor
open Go.RowKit
set_option maxRecDepth 100000

set_option maxHeartbeats 1000000 in
theorem implMac_yes (p q : Option Addr) (n m c d : Nat) (ks xs : List Int) (w : World) (hn : n ≤ 3936) (hm : m ≤ 3936) (hx : ks.length = n) (hy : xs.length = m) (h : BytesIn w p n ks) (h' : BytesIn w q m xs) (hb : ∀ x ∈ ks, 0 ≤ x ∧ x < 256) (hb' : ∀ x ∈ xs, 0 ≤ x ∧ x < 256) (hK : KeysIs w) :
    Calls Tryz.prog 117 #[.slice p n c, .slice q m d] w fun e w' => ∃ p' c', e = .returned (.slice p' 32 c') ∧ Own 5 w' w.heap.size w'.heap.size (.slice p' 32 c') 32 (ofL (kL ks) xs) ∧ Below w.heap.size w w' := by
  have d1 : ¬ (3936 : Int) < (n : Int) := by omega
  have d2 : ¬ (3936 : Int) < (m : Int) := by omega
  have CN := newCode_any p n c ks w (by omega) hx h hb hK
  have hkl := kL_length (key := ks) (by omega)
  have CO := fun X hX hKX => codeOf_any (kL ks) q m d xs X hkl hm hy hX hb' hKX
  generalize kL ks = kk at CN CO ⊢
  obtain ⟨Cs, hCs⟩ : ∃ Cs, Cs = (codeC kk).toArray := ⟨_, rfl⟩
  rw [← hCs] at CN CO
  clear hCs
  go_enter Tryz.func117, Tryz.ntmps117
  go_wp2_with (fail)
  refine CN.mono ?_
  rintro e w1 ⟨rfl, b1⟩
  clear CN
  go_wp2_with (fail)
  refine (CO _ (in_below h' b1) (keys_below hK b1)).mono ?_
  rintro e w2 ⟨p2, c2, rfl, r2, b2⟩
  go_wp2
  go_ret
  have hs := b1.size
  exact ⟨_, _, rfl, ⟨owns_mono r2.1 (by omega), r2.2⟩, below_on b1 b2⟩

theorem implMac_no (p q : Option Addr) (n m c d : Nat) (w : World) (hn : ¬ (n ≤ 3936 ∧ m ≤ 3936)) :
    Calls Tryz.prog 117 #[.slice p n c, .slice q m d] w fun e w' => ∃ p' c', e = .returned (.slice p' 0 c') ∧ Own 5 w' w.heap.size w'.heap.size (.slice p' 0 c') 0 [] ∧ Below w.heap.size w w' := by
  by_cases h1 : m ≤ 3936
  · have d1 : ¬ (3936 : Int) < (m : Int) := by omega
    have d2 : (3936 : Int) < (n : Int) := by omega
    go_enter Tryz.func117, Tryz.ntmps117
    go_wp2
    go_ret
    exact ⟨_, _, rfl, .of (World.ownsRow_nil _ _ _ _), Below.refl _ _⟩
  · have d1 : (3936 : Int) < (m : Int) := by omega
    go_enter Tryz.func117, Tryz.ntmps117
    go_wp2
    go_ret
    exact ⟨_, _, rfl, .of (World.ownsRow_nil _ _ _ _), Below.refl _ _⟩
theorem implMac_any (p q : Option Addr) (n m c d : Nat) (ks xs : List Int) (w : World) (hx : ks.length = n) (hy : xs.length = m) (h : BytesIn w p n ks) (h' : BytesIn w q m xs) (hb : ∀ x ∈ ks, 0 ≤ x ∧ x < 256) (hb' : ∀ x ∈ xs, 0 ≤ x ∧ x < 256) (hK : KeysIs w) :
    Calls Tryz.prog 117 #[.slice p n c, .slice q m d] w fun e w' => ∃ p' c', e = .returned (.slice p' (macN n m) c') ∧ Own 5 w' w.heap.size w'.heap.size (.slice p' (macN n m) c') (macN n m) (macL ks xs) ∧ Below w.heap.size w w' := by
  unfold macN macL
  rw [hx, hy]
  by_cases hn : n ≤ 3936 ∧ m ≤ 3936
  · rw [if_pos hn, if_pos hn]
    exact implMac_yes p q n m c d ks xs w hn.1 hn.2 hx hy h h' hb hb' hK
  · rw [if_neg hn, if_neg hn]
    exact implMac_no p q n m c d w hn

end Go.Proofs.YthfnechcddmjkaaGreatDoor

namespace Go.Proofs.YthfnechcddmjkaaGreatDoor
open Go.RowKit
set_option maxRecDepth 100000

def mkT (k : List Int) (m : Int) (i : Nat) : List Int := xorL ((keyL k).take i) ((List.replicate 64 m).take i)
theorem mkT_step {k : List Int} (hk : k.length ≤ 64) (m : Int) {i : Nat} (hi : i < 64) (u : Int) (hu : u = (keyL k).getD i 0) : mkT k m i ++ [bits BinOp.xor IntKind.u8 u m] = mkT k m (i + 1) :=
  xorL_step (keyL_length hk) List.length_replicate hi hi hu ((rep_getD m).out i hi).symm
theorem mkT_end {k : List Int} (hk : k.length ≤ 64) (m : Int) : mkT k m 64 = markL k m := xorL_all (keyL_length hk) List.length_replicate rfl
def padT (k : List Int) (j : Nat) : List Int := k ++ List.replicate j 0
theorem padT_step (k : List Int) (j : Nat) : padT k j ++ [0] = padT k (j + 1) := by
  unfold padT
  rw [List.append_assoc, ← List.replicate_succ']
theorem padT_end {k : List Int} {j : Nat} (h : k.length + j = 64) : padT k j = keyL k := by
  unfold padT keyL
  rw [show 64 - k.length = j by omega]

set_option maxHeartbeats 1000000 in
theorem specMac_small (p q : Option Addr) (n m c d : Nat) (ks xs : List Int) (w : World) (hn : n ≤ 64) (hm : m ≤ 3936) (hx : ks.length = n) (hy : xs.length = m) (h : BytesIn w p n ks) (h' : BytesIn w q m xs) (_hb : ∀ x ∈ ks, 0 ≤ x ∧ x < 256) (hb' : ∀ x ∈ xs, 0 ≤ x ∧ x < 256) :
    Calls Tryz.prog 113 #[.slice p n c, .slice q m d] w fun e w' => ∃ p' c', e = .returned (.slice p' 32 c') ∧ Own 5 w' w.heap.size w'.heap.size (.slice p' 32 c') 32 (ofL (kL ks) xs) ∧ Below w.heap.size w w' := by
  obtain ⟨i0, hi, hz0, hz1, hz2⟩ := info_parts infoByte
  have hkk : kL ks = ks := if_neg (by omega)
  rw [hkk]
  clear hkk
  have d3 : ¬ (64 : Int) < (n : Int) := by omega
  have d1 : ¬ (3936 : Int) < (n : Int) := by omega
  have d2 : ¬ (3936 : Int) < (m : Int) := by omega
  go_enter Tryz.func113, Tryz.ntmps113
  have hown0 : (w.alloc (.cells #[] 5)).ownsRow w.heap.size 5 1 (.slice (some ⟨w.heap.size, 0, none⟩) 0 0) 0 (([] : List Int).map (Value.int .u8)) := World.ownsRow_made w #[] 0 (Nat.le_refl _) (by unfold maxLen; omega) rfl
  have hb0 : Below w.heap.size w (w.alloc (.cells #[] 5)) := (Below.refl _ _).alloc (Nat.le_refl _) _
  have h1 := in_below h hb0
  have hlen : ks.length = n := hx
  go_wp2_with (at_builtin; refine list_spreadA hi hz0 hz1 hz2 (.tmp 18) (.tmp 19) 22 Tryz.underlying22 hown0 h1 hlen (by omega) (by omega) (by simp) (by rfl) (by rfl) (by rfl) (by rfl) ?_; intro p1 cap1 w1 ho1 hb1; simp only [Nat.zero_add, List.nil_append] at ho1 ⊢; have bk : Below w.heap.size w w1 := hb0.trans hb1; clear hown0 h1 hb1)
  have ok := ho1
  have hnk := hn
  clear hb0 ho1 h
  go_loopw [5] (fun v wr => ∃ j mm : Nat, Hid (n + j = mm) ∧ mm ≤ 64 ∧ wr.ownsRow w.heap.size 5 1 v mm ((padT ks j).map (Value.int .u8)) ∧ Below w.heap.size w wr)
    (fun v _ => 64 - sliceLen v)
  case atStart => exact ⟨0, n, rfl, hnk, by simpa [padT] using ok, bk⟩
  case round =>
    clear ok bk
    obtain ⟨j, mm, hmm, hle, hown, hbel⟩ := hrel
    have hsz := hbel.size
    obtain ⟨pq, cq, hv⟩ := owns_form hown
    subst hv
    by_cases hlt : mm < 64
    · have HX : Hid (padT ks j ++ [0] = padT ks (j + 1)) := padT_step ks j
      go_wp2_with (at_builtin; refine list_push hi hz0 hz1 hz2 (.tmp 29) (.tmp 30) 22 Tryz.underlying22 _ hown (by omega) hsz (by rfl) (by rfl) (by rfl) (by rfl) ?_; intro g3 cap3 w3 ho3 hb3; rw [HX.out] at ho3)
      go_roundw
      case rel => exact ⟨j + 1, mm + 1, by have := hmm.out; rw [Hid]; omega, by omega, ho3, hbel.trans hb3⟩
      case measure => simp only [sliceLen]; omega
    · have e64 : mm = 64 := by omega
      subst e64
      have hkl := keyL_length (xs := ks) (by omega)
      have hpe : padT ks j = keyL ks := padT_end (by have := hmm.out; omega)
      rw [hpe] at hown
      clear hpe hmm
      obtain ⟨gk, hgk⟩ := owns_at hown (by decide)
      subst hgk
      have hgk := hown.lt gk rfl
      have m54 : Hid (∀ i, i < 64 → ∀ u, u = (keyL ks).getD i 0 → mkT ks 54 i ++ [bits BinOp.xor IntKind.u8 u 54] = mkT ks 54 (i + 1)) := fun i hi u hu => mkT_step (by omega) 54 hi u hu
      have m92 : Hid (∀ i, i < 64 → ∀ u, u = (keyL ks).getD i 0 → mkT ks 92 i ++ [bits BinOp.xor IntKind.u8 u 92] = mkT ks 92 (i + 1)) := fun i hi u hu => mkT_step (by omega) 92 hi u hu
      have n54 : Hid (mkT ks 54 64 = markL ks 54) := mkT_end (by omega) 54
      have n92 : Hid (mkT ks 92 64 = markL ks 92) := mkT_end (by omega) 92
      have l54 : (markL ks 54).length = 64 := markL_length (by omega) 54
      have l92 : (markL ks 92).length = 64 := markL_length (by omega) 92
      have y54 := markL_byte ks 54
      have y92 := markL_byte ks 92
      have HO : Hid (hashL (markL ks 92 ++ hashL (markL ks 54 ++ xs)) = ofL ks xs) := rfl
      have z54 : mkT ks 54 0 = [] := rfl
      have z92 : mkT ks 92 0 = [] := rfl
      generalize markL ks 54 = M1 at n54 l54 y54 HO
      generalize markL ks 92 = M2 at n92 l92 y92 HO
      generalize mkT ks 54 = T1 at m54 n54 z54
      generalize mkT ks 92 = T2 at m92 n92 z92
      generalize keyL ks = KL at hown hkl m54 m92
      have hcell : Hid (∀ X, Below wr.heap.size wr X → ∀ i, i < 64 → X.cell? ⟨gk, i, none⟩ = some (.int .u8 (KL.getD i 0))) := fun X hX i hi => by
        rw [hX.cell (p := ⟨gk, i, none⟩) hgk.2, hown.cellAt i hi]
        simp [List.getElem?_map, List.getElem?_eq_getElem (show i < KL.length by omega)]
      have hin2 := in_below h' hbel
      have oa : ((wr.alloc (.cells #[] 5)).alloc (.cells #[] 5)).ownsRow wr.heap.size 5 1 (.slice (some ⟨wr.heap.size, 0, none⟩) 0 0) 0 ((T1 0).map (Value.int .u8)) := by
        rw [z54]
        exact (World.ownsRow_made wr #[] 0 (Nat.le_refl _) (by unfold maxLen; omega) rfl).alloc _
      have ob : ((wr.alloc (.cells #[] 5)).alloc (.cells #[] 5)).ownsRow wr.heap.size 5 1 (.slice (some ⟨wr.heap.size + 1, 0, none⟩) 0 0) 0 ((T2 0).map (Value.int .u8)) := by
        rw [z92]
        have := World.ownsRow_made (base := wr.heap.size) (size := 1) (wr.alloc (.cells #[] 5)) (e := 5) #[] 0 (by simp) (by unfold maxLen; omega) rfl
        simpa using this
      have bab : Below wr.heap.size wr ((wr.alloc (.cells #[] 5)).alloc (.cells #[] 5)) := ((Below.refl _ _).alloc (Nat.le_refl _) _).alloc (by simp) _
      clear z54 z92 hown
      go_wp2_with (fail)
      obtain ⟨wo, hwo⟩ : ∃ wo, wo = wr := ⟨_, rfl⟩
      subst hwo
      go_loopw [6, 7, 8] (fun v u i wx => ∃ (t : Nat), t ≤ 64 ∧ i = .int .i64 t ∧ wx.ownsRow wo.heap.size 5 1 v t ((T1 t).map (Value.int .u8)) ∧ wx.ownsRow wo.heap.size 5 1 u t ((T2 t).map (Value.int .u8)) ∧ Hid (u.ownBlock ≠ v.ownBlock) ∧ Below wo.heap.size wo wx)
        (fun _ _ i _ => 64 - (intOf i).toNat)
      case atStart => exact ⟨0, by omega, rfl, oa, ob, by rw [Hid]; simp [Value.ownBlock], bab⟩
      case round =>
        clear oa ob bab
        obtain ⟨t, ht, rfl, hA, hB, hne, hbl⟩ := hrel
        have hszx := hbl.size
        by_cases hlt2 : t < 64
        · have hc0 := hcell.out wr hbl t hlt2
          obtain ⟨uu, huu⟩ : ∃ uu, uu = KL.getD t 0 := ⟨_, rfl⟩
          rw [← huu] at hc0
          have H1 : Hid (T1 t ++ [bits BinOp.xor IntKind.u8 uu 54] = T1 (t + 1)) := m54.out t hlt2 uu huu
          have H2 : Hid (T2 t ++ [bits BinOp.xor IntKind.u8 uu 92] = T2 (t + 1)) := m92.out t hlt2 uu huu
          have hcX : Hid (∀ X, Below wo.heap.size wr X → X.cell? ⟨gk, t, none⟩ = some (.int .u8 uu)) := fun X hX => (hX.cell (p := ⟨gk, t, none⟩) hgk.2).trans hc0
          clear huu
          go_wp2_with (first | (at_builtin; refine list_push2 hi hz0 hz1 hz2 (.tmp 38) (.tmp 44) 22 Tryz.underlying22 _ hA hB hne.out (by omega) hszx (by rfl) (by rfl) (by rfl) (by rfl) ?_; intro g3 cap3 w3 ho3 hu3 hn3 hb3; rw [H1.out] at ho3; have hc3 := hcX.out w3 hb3; have hs3 := Nat.le_trans hszx hb3.size; replace hn3 : Hid ((Value.slice (some ⟨g3, 0, none⟩) (t + 1) cap3).ownBlock ≠ _) := fun e => hn3 e.symm) | (at_builtin; refine list_push2 hi hz0 hz1 hz2 (.tmp 46) (.tmp 52) 22 Tryz.underlying22 _ hu3 ho3 hn3.out (by omega) hs3 (by rfl) (by rfl) (by rfl) (by rfl) ?_; intro g4 cap4 w4 ho4 hu4 hn4 hb4; rw [H2.out] at ho4))
          go_roundw
          case rel => exact ⟨t + 1, by omega, by go_num, hu4, ho4, fun e => hn4 e.symm, hbl.trans (hb3.trans hb4)⟩
          case measure => simp [intOf]; omega
        · have e64 : t = 64 := by omega
          subst e64
          rw [n54.out] at hA
          rw [n92.out] at hB
          obtain ⟨pa, ca, hva⟩ := owns_form hA
          subst hva
          obtain ⟨pb, cb, hvb⟩ := owns_form hB
          subst hvb
          have hin3 := in_below hin2 hbl
          have l1x : (M1 ++ xs).length = 64 + m := by rw [List.length_append, l54, hy]
          have y1x : ∀ x ∈ M1 ++ xs, 0 ≤ x ∧ x < 256 := fun x hx => by rcases List.mem_append.1 hx with e | e; exact y54 x e; exact hb' x e
          have CH := fun p5 c5 X h5 => specHash_any p5 (64 + m) c5 (M1 ++ xs) X l1x h5 y1x
          rw [show hashN (64 + m) = 32 from if_pos (by omega)] at CH
          have l32 : (hashL (M1 ++ xs)).length = 32 := hashL_length (by omega)
          have y32 := hashL_byte (M1 ++ xs)
          generalize hashL (M1 ++ xs) = HH at CH l32 y32 HO
          have l2x : (M2 ++ HH).length = 96 := by rw [List.length_append, l92, l32]
          have y2x : ∀ x ∈ M2 ++ HH, 0 ≤ x ∧ x < 256 := fun x hx => by rcases List.mem_append.1 hx with e | e; exact y92 x e; exact y32 x e
          have CH2 := fun p5 c5 X h5 => specHash_any p5 96 c5 (M2 ++ HH) X l2x h5 y2x
          rw [show hashN 96 = 32 from rfl, HO.out] at CH2
          clear m54 m92 n54 n92 hcell hin2
          go_wp2_with (at_builtin; refine list_spread2 hi hz0 hz1 hz2 (.tmp 55) (.tmp 56) 22 Tryz.underlying22 hA hB hne.out hin3 hy (by omega) (by omega) hszx (by rfl) (by rfl) (by rfl) (by rfl) ?_; intro p5 cap5 w5 ho5 hu5 hb5)
          refine (CH _ _ _ (owns_in ho5)).mono ?_
          rintro e w6 ⟨p6, c6, rfl, r6, b6⟩
          have hu6 := owns_below hu5 b6
          have in6 := r6.bytes
          have bel6 : Below w.heap.size w w6 := below_on (below_on hbel (hbl.trans hb5)) b6
          have hs6 : wo.heap.size ≤ w6.heap.size := Nat.le_trans (hbl.trans hb5).size b6.size
          have hsw := hbel.size
          clear CH ho5 hu5 r6 hA hB hb5 b6 hbl hin3
          go_wp2_with (at_builtin; refine list_spreadA hi hz0 hz1 hz2 (.tmp 54) (.tmp 58) 22 Tryz.underlying22 hu6 in6 l32 (by omega) (by omega) hs6 (by rfl) (by rfl) (by rfl) (by rfl) ?_; intro p7 cap7 w7 ho7 hb7)
          refine (CH2 _ _ _ (owns_in ho7)).mono ?_
          rintro e w8 ⟨p8, c8, rfl, r8, b8⟩
          have bel7 : Below w.heap.size w w7 := bel6.trans (hb7.mono hsw)
          have hs7 := bel7.size
          clear CH2 ho7 hu6
          go_wp2
          go_ret
          exact ⟨_, _, rfl, ⟨owns_mono r8.1 (by omega), r8.2⟩, below_on bel7 b8⟩

set_option maxHeartbeats 1000000 in
theorem specMac_big (p q : Option Addr) (n m c d : Nat) (ks xs : List Int) (w : World) (hn : 64 < n) (hn2 : n ≤ 3936) (hm : m ≤ 3936) (hx : ks.length = n) (hy : xs.length = m) (h : BytesIn w p n ks) (h' : BytesIn w q m xs) (hb : ∀ x ∈ ks, 0 ≤ x ∧ x < 256) (hb' : ∀ x ∈ xs, 0 ≤ x ∧ x < 256) :
    Calls Tryz.prog 113 #[.slice p n c, .slice q m d] w fun e w' => ∃ p' c', e = .returned (.slice p' 32 c') ∧ Own 5 w' w.heap.size w'.heap.size (.slice p' 32 c') 32 (ofL (kL ks) xs) ∧ Below w.heap.size w w' := by
  obtain ⟨i0, hi, hz0, hz1, hz2⟩ := info_parts infoByte
  have hkk : kL ks = hashL ks := if_pos (by omega)
  rw [hkk]
  clear hkk
  have d3 : (64 : Int) < (n : Int) := by omega
  have CH := fun p5 c5 X h5 => specHash_any p5 n c5 ks X hx h5 hb
  rw [show hashN n = 32 from if_pos (by omega)] at CH
  have hxk : (hashL ks).length = 32 := hashL_length (by omega)
  have hnk : 32 ≤ 64 := by decide
  generalize hashL ks = kk at CH hxk ⊢
  have d1 : ¬ (3936 : Int) < (n : Int) := by omega
  have d2 : ¬ (3936 : Int) < (m : Int) := by omega
  go_enter Tryz.func113, Tryz.ntmps113
  have hown0 : (w.alloc (.cells #[] 5)).ownsRow w.heap.size 5 1 (.slice (some ⟨w.heap.size, 0, none⟩) 0 0) 0 (([] : List Int).map (Value.int .u8)) := World.ownsRow_made w #[] 0 (Nat.le_refl _) (by unfold maxLen; omega) rfl
  have hb0 : Below w.heap.size w (w.alloc (.cells #[] 5)) := (Below.refl _ _).alloc (Nat.le_refl _) _
  have h1 := in_below h hb0
  have hlen : ks.length = n := hx
  go_wp2_with (at_builtin; refine list_spreadA hi hz0 hz1 hz2 (.tmp 18) (.tmp 19) 22 Tryz.underlying22 hown0 h1 hlen (by omega) (by omega) (by simp) (by rfl) (by rfl) (by rfl) (by rfl) ?_; intro p1 cap1 w1 ho1 hb1; simp only [Nat.zero_add, List.nil_append] at ho1 ⊢; have bk : Below w.heap.size w w1 := hb0.trans hb1; clear hown0 h1 hb1)
  refine (CH _ _ _ (owns_in ho1)).mono ?_
  rintro e wk ⟨pk, ck, rfl, rk, b2⟩
  have ok := owns_mono rk.1 bk.size
  replace bk := below_on bk b2
  clear hb0 ho1 h CH rk b2 hlen
  go_wp2_with (fail)
  go_loopw [5] (fun v wr => ∃ j mm : Nat, Hid (32 + j = mm) ∧ mm ≤ 64 ∧ wr.ownsRow w.heap.size 5 1 v mm ((padT kk j).map (Value.int .u8)) ∧ Below w.heap.size w wr)
    (fun v _ => 64 - sliceLen v)
  case atStart => exact ⟨0, 32, rfl, hnk, by simpa [padT] using ok, bk⟩
  case round =>
    clear ok bk
    obtain ⟨j, mm, hmm, hle, hown, hbel⟩ := hrel
    have hsz := hbel.size
    obtain ⟨pq, cq, hv⟩ := owns_form hown
    subst hv
    by_cases hlt : mm < 64
    · have HX : Hid (padT kk j ++ [0] = padT kk (j + 1)) := padT_step kk j
      go_wp2_with (at_builtin; refine list_push hi hz0 hz1 hz2 (.tmp 29) (.tmp 30) 22 Tryz.underlying22 _ hown (by omega) hsz (by rfl) (by rfl) (by rfl) (by rfl) ?_; intro g3 cap3 w3 ho3 hb3; rw [HX.out] at ho3)
      go_roundw
      case rel => exact ⟨j + 1, mm + 1, by have := hmm.out; rw [Hid]; omega, by omega, ho3, hbel.trans hb3⟩
      case measure => simp only [sliceLen]; omega
    · have e64 : mm = 64 := by omega
      subst e64
      have hkl := keyL_length (xs := kk) (by omega)
      have hpe : padT kk j = keyL kk := padT_end (by have := hmm.out; omega)
      rw [hpe] at hown
      clear hpe hmm
      obtain ⟨gk, hgk⟩ := owns_at hown (by decide)
      subst hgk
      have hgk := hown.lt gk rfl
      have m54 : Hid (∀ i, i < 64 → ∀ u, u = (keyL kk).getD i 0 → mkT kk 54 i ++ [bits BinOp.xor IntKind.u8 u 54] = mkT kk 54 (i + 1)) := fun i hi u hu => mkT_step (by omega) 54 hi u hu
      have m92 : Hid (∀ i, i < 64 → ∀ u, u = (keyL kk).getD i 0 → mkT kk 92 i ++ [bits BinOp.xor IntKind.u8 u 92] = mkT kk 92 (i + 1)) := fun i hi u hu => mkT_step (by omega) 92 hi u hu
      have n54 : Hid (mkT kk 54 64 = markL kk 54) := mkT_end (by omega) 54
      have n92 : Hid (mkT kk 92 64 = markL kk 92) := mkT_end (by omega) 92
      have l54 : (markL kk 54).length = 64 := markL_length (by omega) 54
      have l92 : (markL kk 92).length = 64 := markL_length (by omega) 92
      have y54 := markL_byte kk 54
      have y92 := markL_byte kk 92
      have HO : Hid (hashL (markL kk 92 ++ hashL (markL kk 54 ++ xs)) = ofL kk xs) := rfl
      have z54 : mkT kk 54 0 = [] := rfl
      have z92 : mkT kk 92 0 = [] := rfl
      generalize markL kk 54 = M1 at n54 l54 y54 HO
      generalize markL kk 92 = M2 at n92 l92 y92 HO
      generalize mkT kk 54 = T1 at m54 n54 z54
      generalize mkT kk 92 = T2 at m92 n92 z92
      generalize keyL kk = KL at hown hkl m54 m92
      have hcell : Hid (∀ X, Below wr.heap.size wr X → ∀ i, i < 64 → X.cell? ⟨gk, i, none⟩ = some (.int .u8 (KL.getD i 0))) := fun X hX i hi => by
        rw [hX.cell (p := ⟨gk, i, none⟩) hgk.2, hown.cellAt i hi]
        simp [List.getElem?_map, List.getElem?_eq_getElem (show i < KL.length by omega)]
      have hin2 := in_below h' hbel
      have oa : ((wr.alloc (.cells #[] 5)).alloc (.cells #[] 5)).ownsRow wr.heap.size 5 1 (.slice (some ⟨wr.heap.size, 0, none⟩) 0 0) 0 ((T1 0).map (Value.int .u8)) := by
        rw [z54]
        exact (World.ownsRow_made wr #[] 0 (Nat.le_refl _) (by unfold maxLen; omega) rfl).alloc _
      have ob : ((wr.alloc (.cells #[] 5)).alloc (.cells #[] 5)).ownsRow wr.heap.size 5 1 (.slice (some ⟨wr.heap.size + 1, 0, none⟩) 0 0) 0 ((T2 0).map (Value.int .u8)) := by
        rw [z92]
        have := World.ownsRow_made (base := wr.heap.size) (size := 1) (wr.alloc (.cells #[] 5)) (e := 5) #[] 0 (by simp) (by unfold maxLen; omega) rfl
        simpa using this
      have bab : Below wr.heap.size wr ((wr.alloc (.cells #[] 5)).alloc (.cells #[] 5)) := ((Below.refl _ _).alloc (Nat.le_refl _) _).alloc (by simp) _
      clear z54 z92 hown
      go_wp2_with (fail)
      obtain ⟨wo, hwo⟩ : ∃ wo, wo = wr := ⟨_, rfl⟩
      subst hwo
      go_loopw [6, 7, 8] (fun v u i wx => ∃ (t : Nat), t ≤ 64 ∧ i = .int .i64 t ∧ wx.ownsRow wo.heap.size 5 1 v t ((T1 t).map (Value.int .u8)) ∧ wx.ownsRow wo.heap.size 5 1 u t ((T2 t).map (Value.int .u8)) ∧ Hid (u.ownBlock ≠ v.ownBlock) ∧ Below wo.heap.size wo wx)
        (fun _ _ i _ => 64 - (intOf i).toNat)
      case atStart => exact ⟨0, by omega, rfl, oa, ob, by rw [Hid]; simp [Value.ownBlock], bab⟩
      case round =>
        clear oa ob bab
        obtain ⟨t, ht, rfl, hA, hB, hne, hbl⟩ := hrel
        have hszx := hbl.size
        by_cases hlt2 : t < 64
        · have hc0 := hcell.out wr hbl t hlt2
          obtain ⟨uu, huu⟩ : ∃ uu, uu = KL.getD t 0 := ⟨_, rfl⟩
          rw [← huu] at hc0
          have H1 : Hid (T1 t ++ [bits BinOp.xor IntKind.u8 uu 54] = T1 (t + 1)) := m54.out t hlt2 uu huu
          have H2 : Hid (T2 t ++ [bits BinOp.xor IntKind.u8 uu 92] = T2 (t + 1)) := m92.out t hlt2 uu huu
          have hcX : Hid (∀ X, Below wo.heap.size wr X → X.cell? ⟨gk, t, none⟩ = some (.int .u8 uu)) := fun X hX => (hX.cell (p := ⟨gk, t, none⟩) hgk.2).trans hc0
          clear huu
          go_wp2_with (first | (at_builtin; refine list_push2 hi hz0 hz1 hz2 (.tmp 38) (.tmp 44) 22 Tryz.underlying22 _ hA hB hne.out (by omega) hszx (by rfl) (by rfl) (by rfl) (by rfl) ?_; intro g3 cap3 w3 ho3 hu3 hn3 hb3; rw [H1.out] at ho3; have hc3 := hcX.out w3 hb3; have hs3 := Nat.le_trans hszx hb3.size; replace hn3 : Hid ((Value.slice (some ⟨g3, 0, none⟩) (t + 1) cap3).ownBlock ≠ _) := fun e => hn3 e.symm) | (at_builtin; refine list_push2 hi hz0 hz1 hz2 (.tmp 46) (.tmp 52) 22 Tryz.underlying22 _ hu3 ho3 hn3.out (by omega) hs3 (by rfl) (by rfl) (by rfl) (by rfl) ?_; intro g4 cap4 w4 ho4 hu4 hn4 hb4; rw [H2.out] at ho4))
          go_roundw
          case rel => exact ⟨t + 1, by omega, by go_num, hu4, ho4, fun e => hn4 e.symm, hbl.trans (hb3.trans hb4)⟩
          case measure => simp [intOf]; omega
        · have e64 : t = 64 := by omega
          subst e64
          rw [n54.out] at hA
          rw [n92.out] at hB
          obtain ⟨pa, ca, hva⟩ := owns_form hA
          subst hva
          obtain ⟨pb, cb, hvb⟩ := owns_form hB
          subst hvb
          have hin3 := in_below hin2 hbl
          have l1x : (M1 ++ xs).length = 64 + m := by rw [List.length_append, l54, hy]
          have y1x : ∀ x ∈ M1 ++ xs, 0 ≤ x ∧ x < 256 := fun x hx => by rcases List.mem_append.1 hx with e | e; exact y54 x e; exact hb' x e
          have CH := fun p5 c5 X h5 => specHash_any p5 (64 + m) c5 (M1 ++ xs) X l1x h5 y1x
          rw [show hashN (64 + m) = 32 from if_pos (by omega)] at CH
          have l32 : (hashL (M1 ++ xs)).length = 32 := hashL_length (by omega)
          have y32 := hashL_byte (M1 ++ xs)
          generalize hashL (M1 ++ xs) = HH at CH l32 y32 HO
          have l2x : (M2 ++ HH).length = 96 := by rw [List.length_append, l92, l32]
          have y2x : ∀ x ∈ M2 ++ HH, 0 ≤ x ∧ x < 256 := fun x hx => by rcases List.mem_append.1 hx with e | e; exact y92 x e; exact y32 x e
          have CH2 := fun p5 c5 X h5 => specHash_any p5 96 c5 (M2 ++ HH) X l2x h5 y2x
          rw [show hashN 96 = 32 from rfl, HO.out] at CH2
          clear m54 m92 n54 n92 hcell hin2
          go_wp2_with (at_builtin; refine list_spread2 hi hz0 hz1 hz2 (.tmp 55) (.tmp 56) 22 Tryz.underlying22 hA hB hne.out hin3 hy (by omega) (by omega) hszx (by rfl) (by rfl) (by rfl) (by rfl) ?_; intro p5 cap5 w5 ho5 hu5 hb5)
          refine (CH _ _ _ (owns_in ho5)).mono ?_
          rintro e w6 ⟨p6, c6, rfl, r6, b6⟩
          have hu6 := owns_below hu5 b6
          have in6 := r6.bytes
          have bel6 : Below w.heap.size w w6 := below_on (below_on hbel (hbl.trans hb5)) b6
          have hs6 : wo.heap.size ≤ w6.heap.size := Nat.le_trans (hbl.trans hb5).size b6.size
          have hsw := hbel.size
          clear CH ho5 hu5 r6 hA hB hb5 b6 hbl hin3
          go_wp2_with (at_builtin; refine list_spreadA hi hz0 hz1 hz2 (.tmp 54) (.tmp 58) 22 Tryz.underlying22 hu6 in6 l32 (by omega) (by omega) hs6 (by rfl) (by rfl) (by rfl) (by rfl) ?_; intro p7 cap7 w7 ho7 hb7)
          refine (CH2 _ _ _ (owns_in ho7)).mono ?_
          rintro e w8 ⟨p8, c8, rfl, r8, b8⟩
          have bel7 : Below w.heap.size w w7 := bel6.trans (hb7.mono hsw)
          have hs7 := bel7.size
          clear CH2 ho7 hu6
          go_wp2
          go_ret
          exact ⟨_, _, rfl, ⟨owns_mono r8.1 (by omega), r8.2⟩, below_on bel7 b8⟩

theorem specMac_yes (p q : Option Addr) (n m c d : Nat) (ks xs : List Int) (w : World) (hn : n ≤ 3936) (hm : m ≤ 3936) (hx : ks.length = n) (hy : xs.length = m) (h : BytesIn w p n ks) (h' : BytesIn w q m xs) (hb : ∀ x ∈ ks, 0 ≤ x ∧ x < 256) (hb' : ∀ x ∈ xs, 0 ≤ x ∧ x < 256) :
    Calls Tryz.prog 113 #[.slice p n c, .slice q m d] w fun e w' => ∃ p' c', e = .returned (.slice p' 32 c') ∧ Own 5 w' w.heap.size w'.heap.size (.slice p' 32 c') 32 (ofL (kL ks) xs) ∧ Below w.heap.size w w' := by
  by_cases h64 : n ≤ 64
  · exact specMac_small p q n m c d ks xs w h64 hm hx hy h h' hb hb'
  · exact specMac_big p q n m c d ks xs w (by omega) hn hm hx hy h h' hb hb'
theorem specMac_no (p q : Option Addr) (n m c d : Nat) (w : World) (hn : ¬ (n ≤ 3936 ∧ m ≤ 3936)) :
    Calls Tryz.prog 113 #[.slice p n c, .slice q m d] w fun e w' => ∃ p' c', e = .returned (.slice p' 0 c') ∧ Own 5 w' w.heap.size w'.heap.size (.slice p' 0 c') 0 [] ∧ Below w.heap.size w w' := by
  by_cases h1 : n ≤ 3936
  · have d1 : ¬ (3936 : Int) < (n : Int) := by omega
    have d2 : (3936 : Int) < (m : Int) := by omega
    go_enter Tryz.func113, Tryz.ntmps113
    go_wp2
    go_ret
    exact ⟨_, _, rfl, .of (World.ownsRow_made w #[] 0 (Nat.le_refl _) (by unfold maxLen; omega) rfl), (Below.refl _ _).alloc (Nat.le_refl _) _⟩
  · have d1 : (3936 : Int) < (n : Int) := by omega
    go_enter Tryz.func113, Tryz.ntmps113
    go_wp2
    go_ret
    exact ⟨_, _, rfl, .of (World.ownsRow_made w #[] 0 (Nat.le_refl _) (by unfold maxLen; omega) rfl), (Below.refl _ _).alloc (Nat.le_refl _) _⟩
theorem specMac_any (p q : Option Addr) (n m c d : Nat) (ks xs : List Int) (w : World) (hx : ks.length = n) (hy : xs.length = m) (h : BytesIn w p n ks) (h' : BytesIn w q m xs) (hb : ∀ x ∈ ks, 0 ≤ x ∧ x < 256) (hb' : ∀ x ∈ xs, 0 ≤ x ∧ x < 256) :
    Calls Tryz.prog 113 #[.slice p n c, .slice q m d] w fun e w' => ∃ p' c', e = .returned (.slice p' (macN n m) c') ∧ Own 5 w' w.heap.size w'.heap.size (.slice p' (macN n m) c') (macN n m) (macL ks xs) ∧ Below w.heap.size w w' := by
  unfold macN macL
  rw [hx, hy]
  by_cases hn : n ≤ 3936 ∧ m ≤ 3936
  · rw [if_pos hn, if_pos hn]
    exact specMac_yes p q n m c d ks xs w hn.1 hn.2 hx hy h h' hb hb'
  · rw [if_neg hn, if_neg hn]
    exact specMac_no p q n m c d w hn

end Go.Proofs.YthfnechcddmjkaaGreatDoor

namespace Go.Proofs.YthfnechcddmjkaaGreatDoor
open Go.RowKit
set_option maxRecDepth 100000

def saltN (n : Nat) : Nat := if n = 0 then 32 else n
def saltL (xs : List Int) : List Int := if xs.length = 0 then List.replicate 32 0 else xs
def extN (n m : Nat) : Nat := macN (saltN n) m
def extL (xs ys : List Int) : List Int := macL (saltL xs) ys
theorem saltL_length (xs : List Int) : (saltL xs).length = saltN xs.length := by
  unfold saltL saltN
  split
  · exact List.length_replicate
  · rfl
theorem extL_length (xs ys : List Int) : (extL xs ys).length = extN xs.length ys.length := by rw [extL, macL_length, saltL_length]; rfl
theorem extL_byte (xs ys : List Int) : ∀ x ∈ extL xs ys, 0 ≤ x ∧ x < 256 := macL_byte _ _
theorem rep_byte : ∀ x ∈ List.replicate 32 (0 : Int), 0 ≤ x ∧ x < 256 := fun x hx => by
  have := List.eq_of_mem_replicate hx
  omega
theorem make32 (W : World) : (Instr.makeSlice 22 (.int .i64 32) (.int .i64 32)).run Tryz.prog W = .ok (.slice (some ⟨W.heap.size, 0, none⟩) 32 32) (W.alloc (.cells (madeCells #[.int .u8 0] 32) 5)) := by
  obtain ⟨i0, hi, hz0, hz1, hz2⟩ := info_parts infoByte
  have := run_makeSlice (P := Tryz.prog) W 22 5 i0 (.int .u8 0) Tryz.underlying22 hi hz0 .i64 .i64 32 32 (by omega) (by omega) (by rw [hz1]; simp) (by rw [hz2]; omega) (by omega)
  rw [hz1] at this
  exact this

set_option maxHeartbeats 1000000 in
theorem implExtract_any (p q : Option Addr) (n m c d : Nat) (xs ys : List Int) (w : World) (hx : xs.length = n) (hy : ys.length = m) (h : BytesIn w p n xs) (h' : BytesIn w q m ys) (hb : ∀ x ∈ xs, 0 ≤ x ∧ x < 256) (hb' : ∀ x ∈ ys, 0 ≤ x ∧ x < 256) (hK : KeysIs w) :
    Calls Tryz.prog 90 #[.slice p n c, .slice q m d] w fun e w' => ∃ p' c', e = .returned (.slice p' (extN n m) c') ∧ Own 5 w' w.heap.size w'.heap.size (.slice p' (extN n m) c') (extN n m) (extL xs ys) ∧ Below w.heap.size w w' := by
  unfold extN extL saltN saltL
  rw [hx]
  by_cases h0 : n = 0
  · subst h0
    rw [if_pos rfl, if_pos rfl]
    have hmk := make32
    have hin0 := in_zeros w 5 32
    have C := fun X h1 h2 hKX => implMac_any (some ⟨w.heap.size, 0, none⟩) q 32 m 32 d (List.replicate 32 0) ys X List.length_replicate hy h1 h2 rep_byte hb' hKX
    generalize madeCells #[Value.int .u8 0] 32 = Zc at hmk hin0
    generalize List.replicate 32 (0 : Int) = R at hin0 C ⊢
    have ba : Below w.heap.size w (w.alloc (.cells Zc 5)) := (Below.refl _ _).alloc (Nat.le_refl _) _
    have hin1 := in_below h' ba
    have hK1 := keys_below hK ba
    clear hx
    go_enter Tryz.func90, Tryz.ntmps90
    go_wp2_with (fail)
    refine (C _ hin0 hin1 hK1).mono ?_
    rintro e w1 ⟨p1, c1, rfl, r1, b1⟩
    have hs := ba.size
    go_wp2
    go_ret
    exact ⟨_, _, rfl, ⟨owns_mono r1.1 hs, r1.2⟩, below_on ba b1⟩
  · rw [if_neg h0, if_neg h0]
    have d1 : ((n : Int) == 0) = false := beq_eq_false_iff_ne.2 (by omega)
    have C := implMac_any p q n m c d xs ys w hx hy h h' hb hb' hK
    go_enter Tryz.func90, Tryz.ntmps90
    go_wp2_with (fail)
    refine C.mono ?_
    rintro e w1 ⟨p1, c1, rfl, r1, b1⟩
    go_wp2
    go_ret
    exact ⟨_, _, rfl, r1, b1⟩

set_option maxHeartbeats 1000000 in
theorem specExtract_any (p q : Option Addr) (n m c d : Nat) (xs ys : List Int) (w : World) (hx : xs.length = n) (hy : ys.length = m) (h : BytesIn w p n xs) (h' : BytesIn w q m ys) (hb : ∀ x ∈ xs, 0 ≤ x ∧ x < 256) (hb' : ∀ x ∈ ys, 0 ≤ x ∧ x < 256) :
    Calls Tryz.prog 80 #[.slice p n c, .slice q m d] w fun e w' => ∃ p' c', e = .returned (.slice p' (extN n m) c') ∧ Own 5 w' w.heap.size w'.heap.size (.slice p' (extN n m) c') (extN n m) (extL xs ys) ∧ Below w.heap.size w w' := by
  unfold extN extL saltN saltL
  rw [hx]
  by_cases h0 : n = 0
  · subst h0
    rw [if_pos rfl, if_pos rfl]
    have hmk := make32
    have hin0 := in_zeros w 5 32
    have C := fun X h1 h2 => specMac_any (some ⟨w.heap.size, 0, none⟩) q 32 m 32 d (List.replicate 32 0) ys X List.length_replicate hy h1 h2 rep_byte hb'
    generalize madeCells #[Value.int .u8 0] 32 = Zc at hmk hin0
    generalize List.replicate 32 (0 : Int) = R at hin0 C ⊢
    have ba : Below w.heap.size w (w.alloc (.cells Zc 5)) := (Below.refl _ _).alloc (Nat.le_refl _) _
    have hin1 := in_below h' ba
    clear hx
    go_enter Tryz.func80, Tryz.ntmps80
    go_wp2_with (fail)
    refine (C _ hin0 hin1).mono ?_
    rintro e w1 ⟨p1, c1, rfl, r1, b1⟩
    have hs := ba.size
    go_wp2
    go_ret
    exact ⟨_, _, rfl, ⟨owns_mono r1.1 hs, r1.2⟩, below_on ba b1⟩
  · rw [if_neg h0, if_neg h0]
    have d1 : ((n : Int) == 0) = false := beq_eq_false_iff_ne.2 (by omega)
    have C := specMac_any p q n m c d xs ys w hx hy h h' hb hb'
    go_enter Tryz.func80, Tryz.ntmps80
    go_wp2_with (fail)
    refine C.mono ?_
    rintro e w1 ⟨p1, c1, rfl, r1, b1⟩
    go_wp2
    go_ret
    exact ⟨_, _, rfl, r1, b1⟩

end Go.Proofs.YthfnechcddmjkaaGreatDoor

namespace Go.Proofs.YthfnechcddmjkaaGreatDoor
set_option maxRecDepth 100000

def tL (k info : List Int) : Nat → List Int
  | 0 => []
  | i + 1 => ofL k (tL k info i ++ info ++ [((i + 1 : Nat) : Int)])
def allL (k info : List Int) : Nat → List Int
  | 0 => []
  | i + 1 => allL k info i ++ tL k info (i + 1)
section
variable {k info : List Int}
theorem tL_text (hk : k.length ≤ 64) (hi : info.length ≤ 400) : ∀ i, (tL k info i).length ≤ 32 ∧ (tL k info i ++ info ++ [((i + 1 : Nat) : Int)]).length ≤ 3936
  | 0 => by simp [tL]; omega
  | i + 1 => by
    have h := (tL_text hk hi i).2
    have e : (tL k info (i + 1)).length = 32 := ofL_length hk h
    refine ⟨by omega, ?_⟩
    simp only [List.length_append, e, List.length_singleton]
    omega
theorem tL_length (hk : k.length ≤ 64) (hi : info.length ≤ 400) (i : Nat) : (tL k info (i + 1)).length = 32 := ofL_length hk (tL_text hk hi i).2
theorem tL_byte : ∀ i, ∀ x ∈ tL k info i, 0 ≤ x ∧ x < 256
  | 0 => fun x hx => by simp [tL] at hx
  | i + 1 => ofL_byte _ _
theorem text_byte (hb : ∀ x ∈ info, 0 ≤ x ∧ x < 256) {i : Nat} (hi : i + 1 < 256) : ∀ x ∈ tL k info i ++ info ++ [((i + 1 : Nat) : Int)], 0 ≤ x ∧ x < 256 := by
  intro x hx
  simp only [List.mem_append, List.mem_singleton] at hx
  rcases hx with (h | h) | h
  · exact tL_byte i x h
  · exact hb x h
  · omega
theorem allL_length (hk : k.length ≤ 64) (hi : info.length ≤ 400) : ∀ i, (allL k info i).length = 32 * i
  | 0 => rfl
  | i + 1 => by rw [allL, List.length_append, allL_length hk hi i, tL_length hk hi]; omega
theorem all_step (hk : k.length ≤ 64) (hi : info.length ≤ 400) {M i x : Nat} (h : 32 * i < M) (hx : x = min 32 (M - 32 * i)) : (allL k info i).take M ++ (tL k info (i + 1)).take x = (allL k info (i + 1)).take M := by
  have l1 := allL_length hk hi i
  have l2 := tL_length hk hi i
  rw [allL, List.take_append, List.take_of_length_le (show (allL k info i).length ≤ M by omega), l1]
  congr 1
  by_cases h32 : M - 32 * i ≤ 32
  · rw [show x = M - 32 * i by omega]
  · rw [List.take_of_length_le (show (tL k info (i + 1)).length ≤ x by omega), List.take_of_length_le (show (tL k info (i + 1)).length ≤ M - 32 * i by omega)]
theorem all_more (hk : k.length ≤ 64) (hi : info.length ≤ 400) {M i : Nat} (h : M ≤ 32 * i) : ∀ d, (allL k info (i + d)).take M = (allL k info i).take M
  | 0 => rfl
  | d + 1 => by
    have l1 := allL_length hk hi (i + d)
    rw [← Nat.add_assoc, allL, List.take_append_of_le_length (by omega), all_more hk hi h d]
theorem all_same (hk : k.length ≤ 64) (hi : info.length ≤ 400) {M i j : Nat} (h1 : M ≤ 32 * i) (h2 : M ≤ 32 * j) : (allL k info i).take M = (allL k info j).take M := by
  rcases Nat.le_total i j with h | h
  · obtain ⟨d, rfl⟩ := Nat.exists_eq_add_of_le h
    exact (all_more hk hi h1 d).symm
  · obtain ⟨d, rfl⟩ := Nat.exists_eq_add_of_le h
    exact all_more hk hi h2 d
end

def expOk (n m : Nat) (many : Int) : Prop := 1 ≤ many ∧ many ≤ 8160 ∧ m ≤ 400 ∧ n ≤ 400
instance (n m : Nat) (many : Int) : Decidable (expOk n m many) := inferInstanceAs (Decidable (_ ∧ _ ∧ _ ∧ _))
def expN (n m : Nat) (many : Int) : Nat := if expOk n m many then many.toNat else 0
def expL (key info : List Int) (many : Int) : List Int := if expOk key.length info.length many then (allL (kL key) info ((many.toNat + 31) / 32)).take many.toNat else []
theorem expN_le (n m : Nat) (many : Int) : expN n m many ≤ 8160 := by
  unfold expN
  split
  · rename_i h
    obtain ⟨h1, h2, _⟩ := h
    omega
  · omega
theorem exp_yes {n m M : Nat} (h1 : 1 ≤ M) (h2 : M ≤ 8160) (hm : m ≤ 400) (hn : n ≤ 400) : expOk n m (M : Int) := ⟨by omega, by omega, hm, hn⟩
theorem exp_is {key info : List Int} {M i : Nat} (h1 : 1 ≤ M) (h2 : M ≤ 8160) (hm : info.length ≤ 400) (hn : key.length ≤ 400) (hi : M ≤ 32 * i) : expL key info (M : Int) = (allL (kL key) info i).take M := by
  unfold expL
  rw [if_pos (exp_yes h1 h2 hm hn), Int.toNat_natCast]
  exact all_same (kL_length (by omega)) hm (by omega) hi
theorem expN_is {n m M : Nat} (h1 : 1 ≤ M) (h2 : M ≤ 8160) (hm : m ≤ 400) (hn : n ≤ 400) : expN n m (M : Int) = M := by
  unfold expN
  rw [if_pos (exp_yes h1 h2 hm hn), Int.toNat_natCast]

end Go.Proofs.YthfnechcddmjkaaGreatDoor

namespace Go.Proofs.YthfnechcddmjkaaGreatDoor
open Go.RowKit

theorem concatE3 (p0 p1 p2 : Option Addr) (n0 n1 n2 c0 c1 c2 : Nat) (xs0 xs1 xs2 : List Int) (w0 : World) (hx0 : xs0.length = n0) (hx1 : xs1.length = n1) (hx2 : xs2.length = n2) (h0 : 0 < n0 + n1 + n2) (hs1 : n0 + n1 + n2 ≤ 1048576)
    (i0 : BytesIn w0 p0 n0 xs0) (i1 : BytesIn w0 p1 n1 xs1) (i2 : BytesIn w0 p2 n2 xs2) (gr : Nat) (hgr : w0.heap.size = gr) :
    Calls Tryz.prog 47 #[.slice (some ⟨gr, 0, none⟩) 3 3] (w0.alloc (.cells #[.slice p0 n0 c0, .slice p1 n1 c1, .slice p2 n2 c2] 22)) fun e w' =>
      ∃ p' c', e = .returned (.slice p' (n0 + n1 + n2) c') ∧ Own 5 w' w0.heap.size w'.heap.size (.slice p' (n0 + n1 + n2) c') (n0 + n1 + n2) (xs0 ++ xs1 ++ xs2) ∧ Below w0.heap.size w0 w' := by
  subst hgr
  have ba : Below w0.heap.size w0 (w0.alloc (.cells #[.slice p0 n0 c0, .slice p1 n1 c1, .slice p2 n2 c2] 22)) := (Below.refl _ _).alloc (Nat.le_refl _) _
  have hs : sumN (fun k => match k with | 0 => n0 | 1 => n1 | _ => n2) 3 = n0 + n1 + n2 := by simp [sumN]
  have hc : catL (fun k => match k with | 0 => xs0 | 1 => xs1 | _ => xs2) 3 = xs0 ++ xs1 ++ xs2 := by simp [catL]
  have h := concat_any w0.heap.size 3 (fun k => match k with | 0 => p0 | 1 => p1 | _ => p2) (fun k => match k with | 0 => n0 | 1 => n1 | _ => n2) (fun k => match k with | 0 => c0 | 1 => c1 | _ => c2) (fun k => match k with | 0 => xs0 | 1 => xs1 | _ => xs2)
    (w0.alloc (.cells #[.slice p0 n0 c0, .slice p1 n1 c1, .slice p2 n2 c2] 22)) (by decide)
    (fun k hk => by
      rw [cell_of_row _ _ k _ _ _ (heap_alloc_new w0 _)]
      match k, hk with
      | 0, _ => rfl
      | 1, _ => rfl
      | 2, _ => rfl)
    (fun k hk => by
      match k, hk with
      | 0, _ => exact hx0
      | 1, _ => exact hx1
      | 2, _ => exact hx2)
    (fun k hk => by
      match k, hk with
      | 0, _ => exact in_below i0 ba
      | 1, _ => exact in_below i1 ba
      | 2, _ => exact in_below i2 ba)
    (by rw [hs]; omega) (by rw [hs]; omega)
  rw [hs, hc] at h
  refine h.mono ?_
  rintro e w' ⟨p', c', rfl, r, b⟩
  exact ⟨p', c', rfl, ⟨owns_mono r.1 (by simp), r.2⟩, below_on ba b⟩
theorem in_byte (w : World) (ty : Nat) (x : Int) : BytesIn (w.alloc (.cells #[.int .u8 x] ty)) (some ⟨w.heap.size, 0, none⟩) 1 [x] := by
  intro _
  refine ⟨w.heap.size, 0, rfl, fun i hi => ?_⟩
  obtain rfl : i = 0 := by omega
  exact in_one w ty x
theorem make_room (M : Nat) (hM : M ≤ 8160) (W : World) : (Instr.makeSlice 22 (.int .i64 0) (.int .i64 (M : Int))).run Tryz.prog W = .ok (.slice (some ⟨W.heap.size, 0, none⟩) 0 M) (W.alloc (.cells (madeCells #[.int .u8 0] M) 5)) := by
  obtain ⟨i0, hi, hz0, hz1, hz2⟩ := info_parts infoByte
  have := run_makeSlice (P := Tryz.prog) W 22 5 i0 (.int .u8 0) Tryz.underlying22 hi hz0 .i64 .i64 0 M (by omega) (by omega) (by rw [hz1]; simp; omega) (by rw [hz2]; omega) (by omega)
  rw [hz1] at this
  simpa [Value.cells] using this

set_option maxRecDepth 100000 in
set_option maxHeartbeats 1000000 in
theorem implExpand_yes (p q : Option Addr) (n m c d M : Nat) (ks xs : List Int) (w : World) (hM1 : 1 ≤ M) (hM2 : M ≤ 8160) (hn : n ≤ 400) (hm : m ≤ 400) (hx : ks.length = n) (hy : xs.length = m) (h : BytesIn w p n ks) (h' : BytesIn w q m xs) (hb : ∀ x ∈ ks, 0 ≤ x ∧ x < 256) (hb' : ∀ x ∈ xs, 0 ≤ x ∧ x < 256) (hK : KeysIs w) :
    Calls Tryz.prog 89 #[.slice p n c, .slice q m d, .int .i64 (M : Int)] w fun e w' => ∃ p' c', e = .returned (.slice p' M c') ∧ Own 5 w' w.heap.size w'.heap.size (.slice p' M c') M (expL ks xs (M : Int)) ∧ Below w.heap.size w w' := by
  obtain ⟨i0, hi, hz0, hz1, hz2⟩ := info_parts infoByte
  have d1 : ¬ (400 : Int) < (n : Int) := by omega
  have d2 : ¬ (400 : Int) < (m : Int) := by omega
  have d3 : ¬ (M : Int) < 1 := by omega
  have d4 : ¬ (8160 : Int) < (M : Int) := by omega
  have CN := newCode_any p n c ks w (by omega) hx h hb hK
  have hkl := kL_length (key := ks) (by omega)
  have HE : Hid (∀ i, M ≤ 32 * i → expL ks xs (M : Int) = (allL (kL ks) xs i).take M) := fun i hi => exp_is hM1 hM2 (by omega) (by omega) hi
  generalize kL ks = kk at CN hkl HE
  have CO := fun (q : Option Addr) (n c : Nat) (xs : List Int) (X : World) => codeOf_any kk q n c xs X hkl
  have hCl := codeC_length hkl
  have hC1 := codeC_one kk
  generalize codeC kk = Cs at CN CO hCl hC1
  have hsz0 := (zero_of_info infoCode).2
  have hzv := (zero_of_info infoCode).1
  have hszC : (Tryz.prog.info? 139).map (·.size) = some Cs.length := by rw [hCl]; exact hsz0
  have hszC2 : (Tryz.prog.info? 139).map (·.size) = some Cs.toArray.size := by simpa using hszC
  have m1 := zCode_made
  have hmk := make_room M hM2
  have hzz : Hid (zCode = hashC (List.replicate 8 0) zeroL zero64 ++ hashC (List.replicate 8 0) zeroL zero64) := rfl
  rw [← hzz.out] at hzv
  generalize zCode = ZC at hzv m1 hzz
  clear hzz
  go_enter Tryz.func89, Tryz.ntmps89
  go_wp2_with (fail)
  refine CN.mono ?_
  rintro e w1 ⟨rfl, b1⟩
  clear CN h
  have oa := m1 w1 w.heap.size b1.size
  have ba : Below w.heap.size w (w1.alloc (.cells ZC.toArray 139)) := b1.alloc b1.size _
  have hth : (w1.alloc (.cells ZC.toArray 139)).there w1.heap.size 0 Cs.toArray.size := by rw [show Cs.toArray.size = 272 by simpa using hCl]; exact owns_there oa
  have hp := code_put oa hCl
  have b2 : Below w.heap.size w ((w1.alloc (.cells ZC.toArray 139)).setCells w1.heap.size 0 Cs) := ba.grown hp.2 ba.size (fun k hk => by cases hk; exact b1.size)
  have hr2 := owns_range hp.1
  have hlt2 := (hp.1.lt w1.heap.size rfl).2
  clear oa ba hp m1
  obtain ⟨ZA, hZA⟩ : ∃ ZA, ZA = ZC.toArray := ⟨_, rfl⟩
  rw [← hZA] at hzv hth b2 hr2 hlt2
  clear hZA
  go_wp2_with (refine wpList_store_mid rfl 139 _ _ rfl w1.heap.size 0 Cs.toArray rfl rfl hth hszC2 (all_oneCell_toArray hC1) ?_)
  have hown4 : (((w1.alloc (.cells ZA 139)).setCells w1.heap.size 0 Cs).alloc (.cells (madeCells #[.int .u8 0] M) 5)).ownsRow ((w1.alloc (.cells ZA 139)).setCells w1.heap.size 0 Cs).heap.size 5 1 (.slice (some ⟨((w1.alloc (.cells ZA 139)).setCells w1.heap.size 0 Cs).heap.size, 0, none⟩) 0 M) 0 (([] : List Int).map (Value.int .u8)) :=
    World.ownsRow_made _ _ M (Nat.le_refl _) (by unfold maxLen; omega) (by rw [← Array.length_toList, toList_madeCells_one]; simp)
  generalize (w1.alloc (.cells ZA 139)).setCells w1.heap.size 0 Cs = w2 at hown4 hlt2 hr2 b2 ⊢
  generalize w1.heap.size = gc at hlt2 hr2 ⊢
  have ba : Below w2.heap.size w2 (w2.alloc (.cells (madeCells #[.int .u8 0] M) 5)) := (Below.refl _ _).alloc (Nat.le_refl _) _
  generalize w2.alloc (.cells (madeCells #[.int .u8 0] M) 5) = w4 at hown4 ba ⊢
  clear hth hzv hmk hsz0 hszC2 hC1 hb hx b1
  have hin2 := in_below h' b2
  have hK2 := keys_below hK b2
  have HA : Hid (∀ i x, 32 * i < M → x = min 32 (M - 32 * i) → (allL kk xs i).take M ++ (tL kk xs (i + 1)).take x = (allL kk xs (i + 1)).take M) := fun i x h1 h2 => all_step hkl (by omega) h1 h2
  have HT : Hid (∀ i, (tL kk xs (i + 1)).length = 32) := fun i => tL_length hkl (by omega) i
  have HTt : Hid (∀ i, (tL kk xs i).length ≤ 32) := fun i => (tL_text hkl (by omega) i).1
  have HTb : Hid (∀ i, i + 1 < 256 → ∀ x ∈ tL kk xs i ++ xs ++ [((i + 1 : Nat) : Int)], 0 ≤ x ∧ x < 256) := fun i hi => text_byte hb' hi
  have HTe : Hid (∀ i, ofL kk (tL kk xs i ++ xs ++ [((i + 1 : Nat) : Int)]) = tL kk xs (i + 1)) := fun _ => rfl
  have z0 : (allL kk xs 0).take M = [] := by simp [allL]
  have zt : tL kk xs 0 = [] := rfl
  go_loopw [8, 9, 10] (fun v u i wr => ∃ (k j mm nl cl : Nat) (pl : Option Addr), Hid (j = k + 1) ∧ Hid (mm = min (32 * k) M) ∧ mm ≤ M ∧ i = .int .i64 j ∧ 1 ≤ j ∧ wr.ownsRow w2.heap.size 5 1 v mm (((allL kk xs k).take M).map (Value.int .u8)) ∧ u = .slice pl nl cl ∧ Hid ((tL kk xs k).length = nl) ∧ BytesIn wr pl nl (tL kk xs k) ∧ Below w2.heap.size w2 wr)
    (fun v _ _ _ => M - sliceLen v)
  case atStart => exact ⟨0, 1, 0, 0, 0, none, rfl, by rw [Hid]; omega, by omega, rfl, by omega, by rw [z0]; exact hown4, rfl, rfl, fun h0 => absurd h0 (by omega), ba⟩
  case round =>
    clear hown4 ba z0 zt
    obtain ⟨k, j, mm, nl, cl, pl, hj, hmm, hle, rfl, hj1, hown, rfl, hnl, hinl, hbl⟩ := hrel
    have hszr := hbl.size
    obtain ⟨pv, cv, hv⟩ := owns_form hown
    subst hv
    by_cases hlt : mm < M
    · have hkM : 32 * k < M := by have := hmm.out; omega
      have hj255 : j ≤ 255 := by have := hj.out; omega
      have hnl32 : nl ≤ 32 := by have := hnl.out; have := HTt.out k; omega
      have hw8 : IntKind.u8.wrap (j : Int) = (j : Int) := by rw [IntKind.wrap_u8]; omega
      have hgcv : ∀ g, (Value.slice pv mm cv).ownBlock = some g → w2.heap.size ≤ g ∧ g < wr.heap.size := fun g hg => hown.lt g hg
      have hrr : wr.rangeAt gc 0 Cs := range_below hr2 hbl hlt2
      go_wp2_with (fail)
      refine wp_region_noPanic ?_
      refine wp_region_held_drew (S := fun X => X.rangeAt gc 0 Cs ∧ True) (by kernel_rfl) ⟨by rw [World.rangeAt_drew]; exact hrr, trivial⟩ (fun hHeld => ?_)
      refine wpAnyH_take (i := 0) rfl (by kernel_rfl) (by kernel_rfl) (by kernel_rfl) (fun _ _ _ h => h) (yieldsIf_load_mid (by rfl) _ _ rfl _ _ rfl Cs _ (fun _ hw => hw.1) Tryz.underlying139 rfl hszC) hHeld ?_
      simp only [Act.put, List.getElem_toArray, List.getElem_cons_zero, List.setIfInBounds_toArray, List.set_cons_zero, List.set_cons_succ]
      refine wpAnyH_take (i := 1) (v := .slice pl nl cl) rfl (by kernel_rfl) (by kernel_rfl) (by kernel_rfl) (fun _ _ _ h => h) (Or.inl ⟨by rfl, fun w hSw => by (try dsimp only at hSw); go_simp⟩) hHeld ?_
      simp only [Act.put, List.getElem_toArray, List.getElem_cons_zero, List.getElem_cons_succ, List.setIfInBounds_toArray, List.set_cons_zero, List.set_cons_succ]
      refine wpAnyH_take (i := 2) (v := .slice q m d) rfl (by kernel_rfl) (by kernel_rfl) (by kernel_rfl) (fun _ _ _ h => h) (Or.inl ⟨by rfl, fun w hSw => by (try dsimp only at hSw); go_simp⟩) hHeld ?_
      simp only [Act.put, List.getElem_toArray, List.getElem_cons_zero, List.getElem_cons_succ, List.setIfInBounds_toArray, List.set_cons_zero, List.set_cons_succ]
      refine wpAnyH_take (i := 3) (v := .int .i64 (j : Int)) rfl (by kernel_rfl) (by kernel_rfl) (by kernel_rfl) (fun _ _ _ h => h) (Or.inl ⟨by rfl, fun w hSw => by (try dsimp only at hSw); go_simp⟩) hHeld ?_
      simp only [Act.put, List.getElem_toArray, List.getElem_cons_zero, List.getElem_cons_succ, List.setIfInBounds_toArray, List.set_cons_zero, List.set_cons_succ]
      refine wpAnyH_take (i := 4) (v := .int .u8 (j : Int)) rfl (by kernel_rfl) (by kernel_rfl) (by kernel_rfl) (fun _ _ _ h => h) (Or.inl ⟨by rfl, fun w hSw => by (try dsimp only at hSw); go_simp⟩) hHeld ?_
      simp only [Act.put, List.getElem_toArray, List.getElem_cons_zero, List.getElem_cons_succ, List.setIfInBounds_toArray, List.set_cons_zero, List.set_cons_succ]
      have bd : Below wr.heap.size wr wr.drew := (Below.refl _ _).drew
      have hsd : wr.drew.heap.size = wr.heap.size := rfl
      generalize wr.drew = wd at bd hsd hHeld ⊢
      refine wpAnyH_ready (rs := [5]) (by kernel_rfl) (by simp) ?_
      refine AllReadyH.cons rfl (fun K hK => ?_) AllReadyH.nil
      go_simp
      have be : Below wd.heap.size wd (wd.alloc (.cells #[.int .u8 (j : Int)] 5)) := (Below.refl _ _).alloc (Nat.le_refl _) _
      have ie := in_byte wd 5 (j : Int)
      have hre : (wd.alloc (.cells #[.int .u8 (j : Int)] 5)).rangeAt gc 0 Cs := range_below hHeld.1 be (by omega)
      have bE := below_on bd be
      have hsE : (wd.alloc (.cells #[.int .u8 (j : Int)] 5)).heap.size = wd.heap.size + 1 := by simp
      rw [hsd] at ie hsE
      generalize wd.alloc (.cells #[.int .u8 (j : Int)] 5) = we at ie hre bE hsE ⊢
      refine hK.out _ _ ⟨hre, trivial⟩ (fun hHeld => ?_)
      clear hK K be bd
      refine wpAnyH_ready (rs := [6]) (by kernel_rfl) (by simp) ?_
      refine AllReadyH.cons rfl (fun K hK => ?_) AllReadyH.nil
      go_simp
      have bf : Below we.heap.size we (we.alloc (.cells #[.slice pl nl cl, .slice q m d, .slice (some ⟨wr.heap.size, 0, none⟩) 1 1] 22)) := (Below.refl _ _).alloc (Nat.le_refl _) _
      refine hK.out _ _ ⟨range_below hre bf (by omega), trivial⟩ (fun hHeld => ?_)
      clear hK K bf
      have hTX : ofL kk (tL kk xs k ++ xs ++ [(j : Int)]) = tL kk xs (k + 1) := by rw [hj.out]; exact HTe.out k
      have hTB : ∀ x ∈ tL kk xs k ++ xs ++ [(j : Int)], 0 ≤ x ∧ x < 256 := by rw [hj.out]; exact HTb.out k (by have := hj.out; omega)
      have hTl : (tL kk xs k ++ xs ++ [(j : Int)]).length = nl + m + 1 := by simp only [List.length_append, hnl.out, hy, List.length_singleton]
      refine wpAnyH_ready (rs := [7]) (by kernel_rfl) (by simp) ?_
      refine AllReadyH.cons rfl (fun K hK => ?_) AllReadyH.nil
      go_simp
      refine (concatE3 pl q (some ⟨wr.heap.size, 0, none⟩) nl m 1 _ _ _ (tL kk xs k) xs [(j : Int)] we hnl.out hy rfl (by omega) (by omega) (in_below hinl bE) (in_below (in_below hin2 hbl) bE) ie _ hsE).mono ?_
      rintro e wg ⟨pg, cg, rfl, rg, bg⟩
      go_wp2_with (fail)
      have hrg : wg.rangeAt gc 0 Cs := range_below hre bg (by omega)
      refine hK.out _ _ ⟨hrg, trivial⟩ (fun hHeld => ?_)
      clear hK K
      have bG := below_on bE bg
      refine wpAnyH_ready (rs := [8]) (by kernel_rfl) (by simp) ?_
      refine AllReadyH.cons rfl (fun K hK => ?_) AllReadyH.nil
      go_simp
      refine (CO pg (nl + m + 1) _ (tL kk xs k ++ xs ++ [(j : Int)]) wg (by omega) hTl rg.bytes hTB (keys_below (keys_below hK2 hbl) bG)).mono ?_
      rintro e wh ⟨ph, chh, rfl, rh, bh⟩
      rw [hTX] at rh
      go_wp2_with (fail)
      have bH := below_on bG bh
      have hrw : w2.heap.size ≤ wg.heap.size := Nat.le_trans hszr bG.size
      refine hK.out _ _ ⟨range_below hrg bh (by omega), trivial⟩ (fun hHeld => ?_)
      clear hK K
      refine wpAnyH_take (i := 9) (v := .slice ph 32 chh) rfl (by kernel_rfl) (by kernel_rfl) (by kernel_rfl) (fun _ _ _ h => h) (Or.inl ⟨by rfl, fun w hSw => by (try dsimp only at hSw); go_simp⟩) hHeld ?_
      simp only [Act.put, List.getElem_toArray, List.getElem_cons_zero, List.getElem_cons_succ, List.setIfInBounds_toArray, List.set_cons_zero, List.set_cons_succ]
      refine wpAnyH_done (by kernel_rfl) ?_ _
      refine NoPanic.normal ?_
      have hcap := rh.cap
      have hrh := rh.1
      obtain ⟨gl, rfl⟩ := owns_at hrh (by decide)
      have hgl := hrh.lt gl rfl
      obtain ⟨x, hx⟩ : ∃ x, x = min 32 (M - mm) := ⟨_, rfl⟩
      have hmin : min (32 : Int) ((M : Int) - (mm : Int)) = (x : Int) := by omega
      have hx1 : 0 < x := by omega
      have hx2 : x ≤ 32 := by omega
      have i1 : (x : Int) ≤ (chh : Int) := by omega
      have HX : Hid ((allL kk xs k).take M ++ (tL kk xs (k + 1)).take x = (allL kk xs (k + 1)).take M) := HA.out k x hkM (by have := hmm.out; omega)
      have inx : BytesIn wh (some ⟨gl, 0, none⟩) x ((tL kk xs (k + 1)).take x) := fun _ => by
        obtain ⟨b', o', e1, e2⟩ := rh.bytes (by decide)
        refine ⟨b', o', e1, fun i hi => ?_⟩
        rw [e2 i (by omega), List.getD_eq_getElem?_getD, List.getD_eq_getElem?_getD, List.getElem?_take_of_lt hi]
      have lx : ((tL kk xs (k + 1)).take x).length = x := by rw [List.length_take, HT.out k]; omega
      have hownH := owns_below hown bH
      have hsH : w2.heap.size ≤ wh.heap.size := Nat.le_trans hszr bH.size
      have hneL : Hid ((Value.slice (some ⟨gl, 0, none⟩) 32 chh).ownBlock ≠ (Value.slice pv mm cv).ownBlock) := fun e => by
        have h1 := (hgcv gl e.symm).2
        have h2 := bG.size
        omega
      have hx3 : Hid (x = min 32 (M - mm)) := hx
      have hj3 : Hid (j + 1 = k + 1 + 1) := by have := hj.out; rw [Hid]; omega
      have hm3 : Hid (mm + x = min (32 * (k + 1)) M) := by have := hmm.out; rw [Hid]; omega
      clear hx hTX hTB hTl hrg rg bg bE ie hsE hre hHeld hgcv hrr hw8 hinl hnl hown bG
      go_wp2_with (at_builtin; refine list_spread hi hz0 hz1 hz2 (.tmp 46) (.tmp 53) 22 Tryz.underlying22 hownH inx lx hx1 (by omega) (by omega) hsH (by rfl) (by rfl) (by rfl) (by rfl) ?_; intro g5 cap5 w5 ho5 hg5 hb5; rw [HX.out] at ho5)
      have hl5 := owns_in (hrh.kept hg5 (.inr hneL.out))
      go_roundw
      case rel => exact ⟨k + 1, j + 1, mm + x, 32, chh, some ⟨gl, 0, none⟩, hj3, hm3, by have := hx3.out; omega, by go_num, by omega, ho5, rfl, HT.out k, hl5, hbl.trans ((bH.mono hszr).trans hb5)⟩
      case measure => simp only [sliceLen]; omega
    · have hmM : mm = M := by omega
      have hnl2 : ¬ (mm : Int) < (M : Int) := by omega
      rw [← HE.out k (by have := hmm.out; omega)] at hown
      have bW := below_on b2 hbl
      have hsW := b2.size
      clear hnl hinl hmm HA HT HTt HTb HTe CO
      go_wp2
      go_ret
      rw [hmM] at hown
      exact ⟨_, _, rfl, .of (owns_mono hown hsW), bW⟩

theorem implExpand_no (p q : Option Addr) (n m c d : Nat) (many : Int) (w : World) (h : ¬ expOk n m many) :
    Calls Tryz.prog 89 #[.slice p n c, .slice q m d, .int .i64 many] w fun e w' => ∃ p' c', e = .returned (.slice p' 0 c') ∧ Own 5 w' w.heap.size w'.heap.size (.slice p' 0 c') 0 [] ∧ Below w.heap.size w w' := by
  unfold expOk at h
  by_cases d1 : many < 1
  · go_enter Tryz.func89, Tryz.ntmps89
    go_wp2
    go_ret
    exact ⟨_, _, rfl, .of (World.ownsRow_nil _ _ _ _), Below.refl _ _⟩
  · by_cases d2 : 8160 < many
    · go_enter Tryz.func89, Tryz.ntmps89
      go_wp2
      go_ret
      exact ⟨_, _, rfl, .of (World.ownsRow_nil _ _ _ _), Below.refl _ _⟩
    · by_cases d3 : m ≤ 400
      · have d4 : ¬ (400 : Int) < (m : Int) := by omega
        have d5 : (400 : Int) < (n : Int) := by omega
        go_enter Tryz.func89, Tryz.ntmps89
        go_wp2
        go_ret
        exact ⟨_, _, rfl, .of (World.ownsRow_nil _ _ _ _), Below.refl _ _⟩
      · have d4 : (400 : Int) < (m : Int) := by omega
        go_enter Tryz.func89, Tryz.ntmps89
        go_wp2
        go_ret
        exact ⟨_, _, rfl, .of (World.ownsRow_nil _ _ _ _), Below.refl _ _⟩
theorem implExpand_any (p q : Option Addr) (n m c d : Nat) (many : Int) (ks xs : List Int) (w : World) (hx : ks.length = n) (hy : xs.length = m) (h : BytesIn w p n ks) (h' : BytesIn w q m xs) (hb : ∀ x ∈ ks, 0 ≤ x ∧ x < 256) (hb' : ∀ x ∈ xs, 0 ≤ x ∧ x < 256) (hK : KeysIs w) :
    Calls Tryz.prog 89 #[.slice p n c, .slice q m d, .int .i64 many] w fun e w' => ∃ p' c', e = .returned (.slice p' (expN n m many) c') ∧ Own 5 w' w.heap.size w'.heap.size (.slice p' (expN n m many) c') (expN n m many) (expL ks xs many) ∧ Below w.heap.size w w' := by
  by_cases hok : expOk n m many
  · obtain ⟨h1, h2, h3, h4⟩ := hok
    obtain ⟨M, rfl⟩ : ∃ M : Nat, many = M := ⟨many.toNat, by omega⟩
    rw [expN_is (by omega) (by omega) h3 h4]
    exact implExpand_yes p q n m c d M ks xs w (by omega) (by omega) h4 h3 hx hy h h' hb hb' hK
  · rw [show expN n m many = 0 from if_neg hok, show expL ks xs many = [] by unfold expL; rw [hx, hy, if_neg hok]]
    exact implExpand_no p q n m c d many w hok

end Go.Proofs.YthfnechcddmjkaaGreatDoor

namespace Go.Proofs.YthfnechcddmjkaaGreatDoor
open Go.RowKit
set_option maxRecDepth 100000

theorem l1In_same (a b c : Int) (w : World) : Calls Tryz.prog 51 #[.int .i64 a, .int .i64 b, .int .i64 c] w fun e w' => e = .returned (.bool (decide (b ≤ a) && decide (a ≤ c))) ∧ w' = w := by
  by_cases h1 : b ≤ a
  · by_cases h2 : a ≤ c
    · rw [decide_eq_true h1, decide_eq_true h2]
      go_enter Tryz.func51, Tryz.ntmps51
      go_wp2
      go_ret
      exact ⟨rfl, rfl⟩
    · rw [decide_eq_true h1, decide_eq_false h2]
      go_enter Tryz.func51, Tryz.ntmps51
      go_wp2
      go_ret
      exact ⟨rfl, rfl⟩
  · rw [decide_eq_false h1]
    go_enter Tryz.func51, Tryz.ntmps51
    go_wp2
    go_ret
    exact ⟨rfl, rfl⟩

set_option maxHeartbeats 1000000 in
theorem specExpand_yes (p q : Option Addr) (n m c d M : Nat) (ks xs : List Int) (w : World) (hM1 : 1 ≤ M) (hM2 : M ≤ 8160) (hn : n ≤ 400) (hm : m ≤ 400) (hx : ks.length = n) (hy : xs.length = m) (h : BytesIn w p n ks) (h' : BytesIn w q m xs) (hb : ∀ x ∈ ks, 0 ≤ x ∧ x < 256) (hb' : ∀ x ∈ xs, 0 ≤ x ∧ x < 256) :
    Calls Tryz.prog 79 #[.slice p n c, .slice q m d, .int .i64 (M : Int)] w fun e w' => ∃ p' c', e = .returned (.slice p' M c') ∧ Own 5 w' w.heap.size w'.heap.size (.slice p' M c') M (expL ks xs (M : Int)) ∧ Below w.heap.size w w' := by
  obtain ⟨i0, hi, hz0, hz1, hz2⟩ := info_parts infoByte
  have d1 : ¬ (400 : Int) < (n : Int) := by omega
  have d2 : ¬ (400 : Int) < (m : Int) := by omega
  have CI : ∀ X, Calls Tryz.prog 51 #[.int .i64 (M : Int), .int .i64 1, .int .i64 8160] X fun e w' => e = .returned (.bool true) ∧ w' = X := fun X => by
    have := l1In_same (M : Int) 1 8160 X
    rw [decide_eq_true (by omega), decide_eq_true (by omega)] at this
    exact this
  have hkl := kL_length (key := ks) (by omega)
  have HE : Hid (∀ i, M ≤ 32 * i → expL ks xs (M : Int) = (allL (kL ks) xs i).take M) := fun i hi => exp_is hM1 hM2 (by omega) (by omega) hi
  have CM := fun (q : Option Addr) (m d : Nat) (xs : List Int) (X : World) hm hy hin hin' hb' => specMac_yes p q n m c d ks xs X (by omega) hm hx hy hin hin' hb hb'
  generalize kL ks = kk at CM hkl HE
  have HT : Hid (∀ i, (tL kk xs (i + 1)).length = 32) := fun i => tL_length hkl (by omega) i
  have HTt : Hid (∀ i, (tL kk xs i).length ≤ 32) := fun i => (tL_text hkl (by omega) i).1
  have HAl : Hid (∀ i, (allL kk xs i).length = 32 * i) := fun i => allL_length hkl (by omega) i
  have HTb : Hid (∀ i, i + 1 < 256 → ∀ x ∈ tL kk xs i ++ xs ++ [((i + 1 : Nat) : Int)], 0 ≤ x ∧ x < 256) := fun i hi => text_byte hb' hi
  have HTe : Hid (∀ i, ofL kk (tL kk xs i ++ xs ++ [((i + 1 : Nat) : Int)]) = tL kk xs (i + 1)) := fun _ => rfl
  have HAe : Hid (∀ i, allL kk xs i ++ tL kk xs (i + 1) = allL kk xs (i + 1)) := fun _ => rfl
  have hown0 : (w.alloc (.cells #[] 5)).ownsRow w.heap.size 5 1 (.slice (some ⟨w.heap.size, 0, none⟩) 0 0) 0 ((allL kk xs 0).map (Value.int .u8)) := World.ownsRow_made w #[] 0 (Nat.le_refl _) (by unfold maxLen; omega) rfl
  have hb0 : Below w.heap.size w (w.alloc (.cells #[] 5)) := (Below.refl _ _).alloc (Nat.le_refl _) _
  have hsA : (w.alloc (.cells #[] 5)).heap.size = w.heap.size + 1 := by simp
  clear hx
  go_enter Tryz.func79, Tryz.ntmps79
  go_wp2_with (fail)
  refine (CI _).mono ?_
  rintro e w1 ⟨rfl, rfl⟩
  clear CI
  have hown1 := hown0.alloc (.cells #[] 5)
  have hb1 : Below w.heap.size w ((w.alloc (.cells #[] 5)).alloc (.cells #[] 5)) := hb0.alloc (by simp) _
  clear hown0 hb0 hsA
  go_wp2_with (fail)
  generalize (w.alloc (.cells #[] 5)).alloc (.cells #[] 5) = w2 at hown1 hb1 ⊢
  go_loopw [7, 8, 9, 10] (fun v u i _ wr => ∃ (k j mm nl cl : Nat) (pl : Option Addr), Hid (j = k + 1) ∧ Hid (mm = 32 * k) ∧ 32 * k < M + 32 ∧ i = .int .i64 j ∧ 1 ≤ j ∧ wr.ownsRow w.heap.size 5 1 v mm ((allL kk xs k).map (Value.int .u8)) ∧ u = .slice pl nl cl ∧ Hid ((tL kk xs k).length = nl) ∧ BytesIn wr pl nl (tL kk xs k) ∧ Below w.heap.size w wr)
    (fun v _ _ _ _ => M + 64 - sliceLen v)
  case atStart => exact ⟨0, 1, 0, 0, 0, _, rfl, rfl, by omega, rfl, by omega, hown1, rfl, rfl, fun h0 => absurd h0 (by omega), hb1⟩
  case round =>
    clear hown1 hb1
    obtain ⟨k, j, mm, nl, cl, pl, hj, hmm, hkM, rfl, hj1, hown, rfl, hnl, hinl, hbl⟩ := hrel
    have hszr := hbl.size
    obtain ⟨pv, cv, hv⟩ := owns_form hown
    subst hv
    have hcv := owns_cap hown
    by_cases hlt : mm < M
    · have hkM2 : 32 * k < M := by have := hmm.out; omega
      have hj255 : j ≤ 255 := by have := hj.out; omega
      have hnl32 : nl ≤ 32 := by have := hnl.out; have := HTt.out k; omega
      have hw8 : IntKind.u8.wrap (j : Int) = (j : Int) := by rw [IntKind.wrap_u8]; omega
      have hgcv : Hid (∀ g, (Value.slice pv mm cv).ownBlock = some g → g < wr.heap.size) := fun g hg => (hown.lt g hg).2
      have ht0 : (wr.alloc (.cells #[] 5)).ownsRow wr.heap.size 5 1 (.slice (some ⟨wr.heap.size, 0, none⟩) 0 0) 0 (([] : List Int).map (Value.int .u8)) := World.ownsRow_made wr #[] 0 (Nat.le_refl _) (by unfold maxLen; omega) rfl
      have bt0 : Below wr.heap.size wr (wr.alloc (.cells #[] 5)) := (Below.refl _ _).alloc (Nat.le_refl _) _
      have hin1 := in_below hinl bt0
      have hTX : ofL kk (tL kk xs k ++ xs ++ [(j : Int)]) = tL kk xs (k + 1) := by rw [hj.out]; exact HTe.out k
      have hTB : ∀ x ∈ tL kk xs k ++ xs ++ [(j : Int)], 0 ≤ x ∧ x < 256 := by rw [hj.out]; exact HTb.out k (by have := hj.out; omega)
      have hTl : (tL kk xs k ++ xs ++ [(j : Int)]).length = nl + m + 1 := by simp only [List.length_append, hnl.out, hy, List.length_singleton]
      have hin2 := in_below h' hbl
      have hin3 := in_below h hbl
      go_wp2_with (first
        | (at_builtin; refine list_spreadA hi hz0 hz1 hz2 (.tmp 33) (.tmp 34) 22 Tryz.underlying22 ht0 hin1 hnl.out (by omega) (by omega) (by simp) (by rfl) (by rfl) (by rfl) (by rfl) ?_; intro p3 cap3 w3 ho3 hb3; simp only [Nat.zero_add, List.nil_append] at ho3 ⊢; have b3 : Below wr.heap.size wr w3 := bt0.trans hb3; have hi3 := in_below hin2 b3; have hs3 := b3.size)
        | (at_builtin; refine list_spreadA hi hz0 hz1 hz2 (.tmp 35) (.tmp 36) 22 Tryz.underlying22 ho3 hi3 hy (by omega) (by omega) hs3 (by rfl) (by rfl) (by rfl) (by rfl) ?_; intro p4 cap4 w4 ho4 hb4; have b4 : Below wr.heap.size wr w4 := b3.trans hb4; have hs4 := b4.size)
        | (at_builtin; refine list_push hi hz0 hz1 hz2 (.tmp 39) (.tmp 42) 22 Tryz.underlying22 _ ho4 (by omega) hs4 (by rfl) (by rfl) (by rfl) (by rfl) ?_; intro g5 cap5 w5 ho5 hb5; have b5 : Below wr.heap.size wr w5 := b4.trans hb5))
      refine (CM _ (nl + m + 1) _ (tL kk xs k ++ xs ++ [(j : Int)]) w5 (by omega) hTl (in_below hin3 b5) (owns_in ho5) hTB).mono ?_
      rintro e w6 ⟨p6, c6, rfl, r6, b6⟩
      rw [hTX] at r6
      have B6 := below_on b5 b6
      have hown6 := owns_below hown B6
      have hr6 := r6.1
      obtain ⟨gl, rfl⟩ := owns_at hr6 (by decide)
      have hgl := hr6.lt gl rfl
      have hs5 := b5.size
      have hneL : Hid ((Value.slice (some ⟨gl, 0, none⟩) 32 c6).ownBlock ≠ (Value.slice pv mm cv).ownBlock) := fun e => by
        have h1 := hgcv.out gl e.symm
        omega
      have hin6 := r6.bytes
      have l6 := HT.out k
      have HX : Hid (allL kk xs k ++ tL kk xs (k + 1) = allL kk xs (k + 1)) := HAe.out k
      have bel6 : Below w.heap.size w w6 := below_on hbl B6
      have hs6 := bel6.size
      have hj3 : Hid (j + 1 = k + 1 + 1) := by have := hj.out; rw [Hid]; omega
      have hm3 : Hid (mm + 32 = 32 * (k + 1)) := by have := hmm.out; rw [Hid]; omega
      clear hTX hTB hTl hin1 hin2 hin3 ht0 bt0 ho5 hb5 b5 b6 B6 r6 hown hinl hnl hgcv hw8 ho3 ho4 hb3 hb4 hi3 b3 b4
      go_wp2_with (at_builtin; refine list_spread hi hz0 hz1 hz2 (.tmp 45) (.tmp 46) 22 Tryz.underlying22 hown6 hin6 l6 (by omega) (by omega) (by omega) hs6 (by rfl) (by rfl) (by rfl) (by rfl) ?_; intro g7 cap7 w7 ho7 hg7 hb7; rw [HX.out] at ho7)
      have hl7 := owns_in (hr6.kept hg7 (.inr hneL.out))
      go_roundw
      case rel => exact ⟨k + 1, j + 1, mm + 32, 32, c6, some ⟨gl, 0, none⟩, hj3, hm3, by omega, by go_num, by omega, ho7, rfl, HT.out k, hl7, bel6.trans hb7⟩
      case measure => simp only [sliceLen]; omega
    · have hnl2 : ¬ (mm : Int) < (M : Int) := by omega
      have HEk : Hid (expL ks xs (M : Int) = (allL kk xs k).take M) := HE.out k (by have := hmm.out; omega)
      have i1 : (M : Int) ≤ (cv : Int) := by omega
      have inx : BytesIn wr pv M ((allL kk xs k).take M) := fun _ => by
        obtain ⟨b', o', e1, e2⟩ := owns_in hown (by omega)
        refine ⟨b', o', e1, fun i hi => ?_⟩
        rw [e2 i (by omega), List.getD_eq_getElem?_getD, List.getD_eq_getElem?_getD, List.getElem?_take_of_lt hi]
      have lx : ((allL kk xs k).take M).length = M := by rw [List.length_take, HAl.out k]; have := hmm.out; omega
      have ht0 : (wr.alloc (.cells #[] 5)).ownsRow wr.heap.size 5 1 (.slice (some ⟨wr.heap.size, 0, none⟩) 0 0) 0 (([] : List Int).map (Value.int .u8)) := World.ownsRow_made wr #[] 0 (Nat.le_refl _) (by unfold maxLen; omega) rfl
      have bt0 : Below wr.heap.size wr (wr.alloc (.cells #[] 5)) := (Below.refl _ _).alloc (Nat.le_refl _) _
      have inx' := in_below inx bt0
      clear inx hnl hinl hmm HT HTt HTb HTe HAe HAl CM
      go_wp2_with (at_builtin; refine list_spreadA hi hz0 hz1 hz2 (.tmp 48) (.tmp 51) 22 Tryz.underlying22 ht0 inx' lx (by omega) (by omega) (by simp) (by rfl) (by rfl) (by rfl) (by rfl) ?_; intro p3 cap3 w3 ho3 hb3; simp only [Nat.zero_add, List.nil_append] at ho3 ⊢)
      go_ret
      rw [← HEk.out] at ho3
      exact ⟨_, _, rfl, .of (owns_mono ho3 hszr), below_on hbl (bt0.trans hb3)⟩

theorem specExpand_no (p q : Option Addr) (n m c d : Nat) (many : Int) (w : World) (h : ¬ expOk n m many) :
    Calls Tryz.prog 79 #[.slice p n c, .slice q m d, .int .i64 many] w fun e w' => ∃ p' c', e = .returned (.slice p' 0 c') ∧ Own 5 w' w.heap.size w'.heap.size (.slice p' 0 c') 0 [] ∧ Below w.heap.size w w' := by
  unfold expOk at h
  have CI := fun X => l1In_same many 1 8160 X
  by_cases d1 : 1 ≤ many ∧ many ≤ 8160
  · rw [decide_eq_true d1.1, decide_eq_true d1.2] at CI
    by_cases d3 : m ≤ 400
    · have d4 : ¬ (400 : Int) < (m : Int) := by omega
      have d5 : (400 : Int) < (n : Int) := by omega
      go_enter Tryz.func79, Tryz.ntmps79
      go_wp2_with (fail)
      refine (CI _).mono ?_
      rintro e w1 ⟨rfl, rfl⟩
      go_wp2
      go_ret
      exact ⟨_, _, rfl, .of (World.ownsRow_made w #[] 0 (Nat.le_refl _) (by unfold maxLen; omega) rfl), (Below.refl _ _).alloc (Nat.le_refl _) _⟩
    · have d4 : (400 : Int) < (m : Int) := by omega
      go_enter Tryz.func79, Tryz.ntmps79
      go_wp2_with (fail)
      refine (CI _).mono ?_
      rintro e w1 ⟨rfl, rfl⟩
      go_wp2
      go_ret
      exact ⟨_, _, rfl, .of (World.ownsRow_made w #[] 0 (Nat.le_refl _) (by unfold maxLen; omega) rfl), (Below.refl _ _).alloc (Nat.le_refl _) _⟩
  · have d2 : (decide (1 ≤ many) && decide (many ≤ 8160)) = false := by
      rcases Decidable.not_and_iff_not_or_not.1 d1 with e | e <;> simp [e]
    rw [d2] at CI
    go_enter Tryz.func79, Tryz.ntmps79
    go_wp2_with (fail)
    refine (CI _).mono ?_
    rintro e w1 ⟨rfl, rfl⟩
    go_wp2
    go_ret
    exact ⟨_, _, rfl, .of (World.ownsRow_made w #[] 0 (Nat.le_refl _) (by unfold maxLen; omega) rfl), (Below.refl _ _).alloc (Nat.le_refl _) _⟩
theorem specExpand_any (p q : Option Addr) (n m c d : Nat) (many : Int) (ks xs : List Int) (w : World) (hx : ks.length = n) (hy : xs.length = m) (h : BytesIn w p n ks) (h' : BytesIn w q m xs) (hb : ∀ x ∈ ks, 0 ≤ x ∧ x < 256) (hb' : ∀ x ∈ xs, 0 ≤ x ∧ x < 256) :
    Calls Tryz.prog 79 #[.slice p n c, .slice q m d, .int .i64 many] w fun e w' => ∃ p' c', e = .returned (.slice p' (expN n m many) c') ∧ Own 5 w' w.heap.size w'.heap.size (.slice p' (expN n m many) c') (expN n m many) (expL ks xs many) ∧ Below w.heap.size w w' := by
  by_cases hok : expOk n m many
  · obtain ⟨h1, h2, h3, h4⟩ := hok
    obtain ⟨M, rfl⟩ : ∃ M : Nat, many = M := ⟨many.toNat, by omega⟩
    rw [expN_is (by omega) (by omega) h3 h4]
    exact specExpand_yes p q n m c d M ks xs w (by omega) (by omega) h4 h3 hx hy h h' hb hb'
  · rw [show expN n m many = 0 from if_neg hok, show expL ks xs many = [] by unfold expL; rw [hx, hy, if_neg hok]]
    exact specExpand_no p q n m c d many w hok

end Go.Proofs.YthfnechcddmjkaaGreatDoor

namespace Go.Proofs.YthfnechcddmjkaaGreatDoor
open Go.RowKit
set_option maxRecDepth 100000

def derN (n m l : Nat) (many : Int) : Nat := expN (extN n m) l many
def derL (xs ys zs : List Int) (many : Int) : List Int := expL (extL xs ys) zs many
theorem derN_le (n m l : Nat) (many : Int) : derN n m l many ≤ 8160 := expN_le _ _ _

set_option maxHeartbeats 1000000 in
theorem implDerive_any (p q r : Option Addr) (n m l c d f : Nat) (many : Int) (xs ys zs : List Int) (w : World) (hx : xs.length = n) (hy : ys.length = m) (hz : zs.length = l) (h : BytesIn w p n xs) (h' : BytesIn w q m ys) (h'' : BytesIn w r l zs) (hb : ∀ x ∈ xs, 0 ≤ x ∧ x < 256) (hb' : ∀ x ∈ ys, 0 ≤ x ∧ x < 256) (hb'' : ∀ x ∈ zs, 0 ≤ x ∧ x < 256) (hK : KeysIs w) :
    Calls Tryz.prog 49 #[.slice p n c, .slice q m d, .slice r l f, .int .i64 many] w fun e w' => ∃ p' c', e = .returned (.slice p' (derN n m l many) c') ∧ Own 5 w' w.heap.size w'.heap.size (.slice p' (derN n m l many) c') (derN n m l many) (derL xs ys zs many) ∧ Below w.heap.size w w' := by
  unfold derN derL
  have C1 := implExtract_any p q n m c d xs ys w hx hy h h' hb hb' hK
  have hl : (extL xs ys).length = extN n m := by rw [extL_length, hx, hy]
  have hlb := extL_byte xs ys
  generalize extN n m = N at C1 hl ⊢
  generalize extL xs ys = E at C1 hl hlb ⊢
  go_enter Tryz.func49, Tryz.ntmps49
  go_wp2_with (fail)
  refine C1.mono ?_
  rintro e w1 ⟨p1, c1, rfl, r1, b1⟩
  clear C1
  go_wp2_with (fail)
  refine (implExpand_any p1 r N l _ _ many E zs _ hl hz r1.bytes (in_below h'' b1) hlb hb'' (keys_below hK b1)).mono ?_
  rintro e w2 ⟨p2, c2, rfl, r2, b2⟩
  go_wp2
  go_ret
  exact ⟨_, _, rfl, ⟨owns_mono r2.1 b1.size, r2.2⟩, below_on b1 b2⟩

set_option maxHeartbeats 1000000 in
theorem specDerive_any (p q r : Option Addr) (n m l c d f : Nat) (many : Int) (xs ys zs : List Int) (w : World) (hx : xs.length = n) (hy : ys.length = m) (hz : zs.length = l) (h : BytesIn w p n xs) (h' : BytesIn w q m ys) (h'' : BytesIn w r l zs) (hb : ∀ x ∈ xs, 0 ≤ x ∧ x < 256) (hb' : ∀ x ∈ ys, 0 ≤ x ∧ x < 256) (hb'' : ∀ x ∈ zs, 0 ≤ x ∧ x < 256) :
    Calls Tryz.prog 41 #[.slice p n c, .slice q m d, .slice r l f, .int .i64 many] w fun e w' => ∃ p' c', e = .returned (.slice p' (derN n m l many) c') ∧ Own 5 w' w.heap.size w'.heap.size (.slice p' (derN n m l many) c') (derN n m l many) (derL xs ys zs many) ∧ Below w.heap.size w w' := by
  unfold derN derL
  have C1 := specExtract_any p q n m c d xs ys w hx hy h h' hb hb'
  have hl : (extL xs ys).length = extN n m := by rw [extL_length, hx, hy]
  have hlb := extL_byte xs ys
  generalize extN n m = N at C1 hl ⊢
  generalize extL xs ys = E at C1 hl hlb ⊢
  go_enter Tryz.func41, Tryz.ntmps41
  go_wp2_with (fail)
  refine C1.mono ?_
  rintro e w1 ⟨p1, c1, rfl, r1, b1⟩
  clear C1
  go_wp2_with (fail)
  refine (specExpand_any p1 r N l _ _ many E zs _ hl hz r1.bytes (in_below h'' b1) hlb hb'').mono ?_
  rintro e w2 ⟨p2, c2, rfl, r2, b2⟩
  go_wp2
  go_ret
  exact ⟨_, _, rfl, ⟨owns_mono r2.1 b1.size, r2.2⟩, below_on b1 b2⟩

end Go.Proofs.YthfnechcddmjkaaGreatDoor
