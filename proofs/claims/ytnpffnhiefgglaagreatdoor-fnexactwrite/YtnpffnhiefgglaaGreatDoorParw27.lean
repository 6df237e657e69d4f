/-
  A part of the proof.
-/
import Derived.Test.YtnpffnhiefgglaaGreatDoorParw26
import Derived.Test.YtnpffnhiefgglaaGreatDoorParw12
import Derived.Test.YtnpffnhiefgglaaGreatDoorParw15
namespace Go.Proofs.YtnpffnhiefgglaaGreatDoor
open Go.RowKit
set_option maxRecDepth 100000
def keyL (xs : List Int) : List Int := xs ++ List.replicate (64 - xs.length) 0
def markL (xs : List Int) (m : Int) : List Int := xorL (keyL xs) (List.replicate 64 m)
theorem keyL_length {xs : List Int} (h : xs.length ≤ 64) : (keyL xs).length = 64 := by simp [keyL]; omega
theorem markL_length {xs : List Int} (h : xs.length ≤ 64) (m : Int) : (markL xs m).length = 64 := by rw [markL, xorL_length, keyL_length h, List.length_replicate]; rfl
theorem infoBlkZ : (Tryz.prog.info? 165).map (fun i => (i.zero, i.size)) = some (some (.agg (u8L zeroL).toArray), 64) := by kernel_rfl
theorem u8L_length (l : List Int) : (u8L l).length = l.length := by simp [u8L]
theorem blk_made (w : World) (lo : Nat) (L : List Int) (h : L.length = 64) (hlo : lo ≤ w.heap.size) :
    (w.alloc (.cells (u8L L).toArray 165)).ownsRow lo 165 1 (.slice (some ⟨w.heap.size, 0, none⟩) 64 64) 64 (u8L L) := by
  refine ⟨by rw [u8L_length, h], .inr ⟨w.heap.size, 64, _, rfl, hlo, heap_alloc_new w _, Nat.le_refl _, by unfold maxLen; omega, by simp [u8L_length, h], ?_⟩⟩
  rw [List.take_of_length_le (by simp [u8L_length, h])]
theorem copyKey (p : Option Addr) (n c : Nat) (xs : List Int) (X : World) (g lo : Nat) (hn : n ≤ 64) (hx : xs.length = n) (h : BytesIn X p n xs) (hown : X.ownsRow lo 165 1 (.slice (some ⟨g, 0, none⟩) 64 64) 64 (u8L zeroL)) :
    ∃ X', (∀ ty, (Builtin.copy_ #[22, 22] ty #[.slice (some ⟨g, 0, none⟩) 64 64, .slice p n c]).run Tryz.prog X = .ok (.int .i64 (n : Int)) X') ∧ X'.ownsRow lo 165 1 (.slice (some ⟨g, 0, none⟩) 64 64) 64 (u8L (keyL xs)) ∧ X.grownBy X' (some g) := by
  obtain ⟨i0, hi, hz0, hz1, hz2⟩ := info_parts infoByte
  have hs5 : (Tryz.prog.info? 5).map (·.size) = some 1 := by rw [hi]; simp [hz1]
  rcases Nat.eq_zero_or_pos n with h0 | h0
  · subst h0
    obtain rfl : xs = [] := List.eq_nil_of_length_eq_zero hx
    exact ⟨X, fun ty => run_copy_none (P := Tryz.prog) X 22 22 ty 5 _ p _ _ 0 c Tryz.underlying22 hs5 (by simp), hown, World.grownBy.refl _ _⟩
  · obtain ⟨b, o, rfl, hc⟩ := h h0
    have hp := owns_put (u8L xs) 0 X _ hown
    have e := putL_mid [] (u8L (List.replicate n 0)) (u8L (List.replicate (64 - n) 0)) (u8L xs) (by simp [u8L, hx])
    have hz : u8L zeroL = [] ++ (u8L (List.replicate n 0) ++ u8L (List.replicate (64 - n) 0)) := by
      rw [List.nil_append, u8L, u8L, u8L, ← List.map_append, List.replicate_append_replicate, show n + (64 - n) = 64 by omega]
      rfl
    have hk : [] ++ (u8L xs ++ u8L (List.replicate (64 - n) 0)) = u8L (keyL xs) := by rw [List.nil_append, keyL, u8L, u8L, u8L, List.map_append, hx]
    rw [hz, show (0 : Nat) = ([] : List Value).length from rfl, e, hk] at hp
    refine ⟨_, fun ty => ?_, hp.1, hp.2⟩
    have hr := run_copy_cells (P := Tryz.prog) X 22 22 ty 5 g 0 64 64 ⟨b, o, none⟩ n c (u8L xs) Tryz.underlying22 hs5 (by rw [u8L_length, hx]; exact (Nat.min_eq_left hn).symm)
      (fun j v hj => by
        have hjn : j < n := by have := (List.getElem?_eq_some_iff.1 hj).1; rw [u8L_length] at this; omega
        rw [Addr.add_mid, hc j hjn, ← hj]
        simp [u8L, List.getElem?_eq_getElem (show j < xs.length by omega)])
      (fun j hj => by
        rw [u8L_length] at hj
        have := (owns_there hown) j (by omega)
        exact this.1)
      (fun j _ => hown.frozenAt _) (u8L_one xs)
    rw [u8L_length, hx] at hr
    exact hr
theorem in_one (w : World) (ty : Nat) (m : Int) : (w.alloc (.cells #[.int .u8 m] ty)).cell? ⟨w.heap.size, 0, none⟩ = some (.int .u8 m) := by
  rw [cell_of_row _ _ _ _ _ _ (heap_alloc_new w _)]
  rfl
theorem rep_getD (m : Int) : Hid (∀ i, i < 64 → (List.replicate 64 m).getD i 0 = m) := fun i hi => by
  rw [List.getD_eq_getElem?_getD, List.getElem?_replicate, if_pos hi]
  rfl
theorem u8L_in_range {w : World} {lo e g : Nat} {L : List Int} (h : w.ownsRow lo e 1 (.slice (some ⟨g, 0, none⟩) 64 64) 64 (u8L L)) : BytesIn w (some ⟨g, 0, none⟩) 64 L := owns_in h
set_option maxHeartbeats 2000000 in
theorem markedKey_any (p : Option Addr) (n c : Nat) (xs : List Int) (m : Int) (w : World) (hn : n ≤ 64) (hx : xs.length = n) (h : BytesIn w p n xs) :
    Calls Tryz.prog 187 #[.slice p n c, .int .u8 m] w fun e w' => e = .returned (.agg (u8L (markL xs m)).toArray) ∧ Below w.heap.size w w' := by
  have hz := (zero_of_info infoBlkZ).1
  have hsz0 := (zero_of_info infoBlkZ).2
  have hzl : zeroL.length = 64 := by simp [zeroL]
  have ho1 := blk_made w w.heap.size zeroL hzl (Nat.le_refl _)
  have ho2 := blk_made (w.alloc (.cells (u8L zeroL).toArray 165)) w.heap.size zeroL hzl (by simp)
  have ba : Below w.heap.size w ((w.alloc (.cells (u8L zeroL).toArray 165)).alloc (.cells (u8L zeroL).toArray 165)) := ((Below.refl _ _).alloc (Nat.le_refl _) _).alloc (by simp) _
  replace ho1 := ho1.alloc (.cells (u8L zeroL).toArray 165)
  have hsA : (w.alloc (.cells (u8L zeroL).toArray 165)).heap.size = w.heap.size + 1 := by simp
  rw [hsA] at ho2
  obtain ⟨wc, hcp, hoc, hgc⟩ := copyKey p n c xs _ (w.heap.size + 1) w.heap.size hn hx (in_alloc (in_alloc h _) _) ho2
  have ho1c := ho1.kept hgc (.inr (by simp [Value.ownBlock]))
  have bc : Below w.heap.size w wc := ba.grown hgc ba.size (fun k hk => by cases hk; omega)
  obtain ⟨Z, hZ⟩ : ∃ Z, Z = (u8L zeroL).toArray := ⟨_, rfl⟩
  rw [← hZ] at hz hcp
  clear ho1 ho2 hgc ba hZ hsA
  go_enter Tryz.func187, Tryz.ntmps187
  go_wp2_with (at_builtin; refine Lib.wpList_copy_run _ rfl _ _ 22 22 rfl _ _ rfl rfl (hcp _) ?_)
  clear hcp hz
  have hkl := keyL_length (xs := xs) (by omega)
  have hml : Hid ((markL xs m).length = 64) := markL_length (by omega) m
  have hme : Hid (xorL (keyL xs) (List.replicate 64 m) = markL xs m) := rfl
  have hmk : Hid (markL xs m = markL xs m) := rfl
  generalize hML : markL xs m = ML at hml hme hmk
  replace hML : Hid (markL xs m = ML) := hML
  clear hmk
  generalize keyL xs = KL at hoc hkl hme
  have hrl : (List.replicate 64 m).length = 64 := by simp
  have hrep := rep_getD m
  generalize List.replicate 64 m = RL at hme hrl hrep
  refine wp_region_noPanic ?_
  refine wp_region_held_drew (S := fun _ => True) (by kernel_rfl) trivial (fun hHeld => ?_)
  refine wpAnyH_take (i := 0) (v := .slice (some ⟨w.heap.size + 1, 0, none⟩) 64 64) rfl (by kernel_rfl) (by kernel_rfl) (by kernel_rfl) (fun _ _ _ h => h) (Or.inl ⟨by rfl, fun w hSw => by (try dsimp only at hSw); go_simp⟩) hHeld ?_
  simp only [Act.put, List.getElem_toArray, List.getElem_cons_zero, List.setIfInBounds_toArray, List.set_cons_zero, List.set_cons_succ]
  refine wpAnyH_take (i := 1) (v := .int .u8 m) rfl (by kernel_rfl) (by kernel_rfl) (by kernel_rfl) (fun _ _ _ h => h) (Or.inl ⟨by rfl, fun w hSw => by (try dsimp only at hSw); go_simp⟩) hHeld ?_
  simp only [Act.put, List.getElem_toArray, List.getElem_cons_zero, List.getElem_cons_succ, List.setIfInBounds_toArray, List.set_cons_zero, List.set_cons_succ]
  have bd : Below wc.heap.size wc wc.drew := (Below.refl _ _).drew
  have od := owns_below hoc bd
  have o1d := owns_below ho1c bd
  replace bc := below_on bc bd
  generalize wc.drew = wd at bc od o1d ⊢
  clear bd hoc ho1c
  refine wpAnyH_ready (rs := [2]) (by kernel_rfl) (by simp) ?_
  refine AllReadyH.cons rfl (fun K hK => ?_) AllReadyH.nil
  go_simp
  refine hK.out _ _ trivial (fun hHeld => ?_)
  clear hK K
  have be : Below wd.heap.size wd (wd.alloc (.cells #[.int .u8 m] 5)) := (Below.refl _ _).alloc (Nat.le_refl _) _
  have ce := in_one wd 5 m
  have oe := owns_below od be
  have o1e := owns_below o1d be
  have bce := below_on bc be
  generalize wd.alloc (.cells #[.int .u8 m] 5) = we at be ce oe o1e bce ⊢
  clear be od o1d bc
  refine wpAnyH_ready (rs := [3]) (by kernel_rfl) (by simp) ?_
  refine AllReadyH.cons rfl (fun K hK => ?_) AllReadyH.nil
  go_simp
  refine (repeat64 _ _ _ m RL hrep we ce).mono ?_
  rintro e wf ⟨rfl, hinf, bf⟩
  go_wp2_with (fail)
  refine hK.out _ _ trivial (fun hHeld => ?_)
  clear hK K
  have ofz := owns_below oe bf
  have o1f := owns_below o1e bf
  have bcf := below_on bce bf
  clear oe o1e bce bf ce
  refine wpAnyH_ready (rs := [4]) (by kernel_rfl) (by simp) ?_
  refine AllReadyH.cons rfl (fun K hK => ?_) AllReadyH.nil
  go_simp
  refine (implXor_own _ _ 64 64 _ _ KL RL wf (by omega) (by omega) hkl hrl (u8L_in_range ofz) hinf).mono ?_
  rintro e wg ⟨px, cx, rfl, rx, bx⟩
  rw [hme.out] at rx
  have hrx := rx.1
  have hcx := rx.cap
  obtain ⟨gx, rfl⟩ := owns_at hrx (by decide)
  go_wp2_with (fail)
  refine hK.out _ _ trivial (fun hHeld => ?_)
  clear hK K
  have o1g := owns_below o1f bx
  have bcg := below_on bcf bx
  clear o1f bcf bx ofz hinf rx
  have hat : ∀ w, (Instr.arrayAt 165 (.slice (some ⟨gx, 0, none⟩) 64 cx)).run Tryz.prog w = .ok (.pointer (some ⟨gx, 0, none⟩)) w := fun w => run_arrayAt w 165 _ 64 _ 64 cx Tryz.underlying165 (by omega)
  have hra : wg.rangeAt gx 0 (u8L ML) := fun j v hv => by
    have hj : j < 64 := by have := (List.getElem?_eq_some_iff.1 hv).1; rw [u8L_length, hml.out] at this; exact this
    rw [Nat.zero_add, hrx.cellAt j hj]
    exact hv
  have hszM : (Tryz.prog.info? 165).map (·.size) = some (u8L ML).length := by rw [infoBlk, u8L_length, hml.out]
  have hszM2 : (Tryz.prog.info? 165).map (·.size) = some (u8L ML).toArray.size := by rw [hszM]; simp
  have hth : wg.there w.heap.size 0 (u8L ML).toArray.size := by rw [show (u8L ML).toArray.size = 64 by simp [u8L_length, hml.out]]; exact owns_there o1g
  have hp := owns_put (u8L ML) 0 wg _ o1g
  have e1 := putL_mid [] (u8L zeroL) [] (u8L ML) (by rw [u8L_length, u8L_length, hml.out, hzl])
  simp only [List.nil_append, List.append_nil, List.length_nil] at e1
  rw [e1] at hp
  have bfin : Below w.heap.size w (wg.setCells w.heap.size 0 (u8L ML)) := bcg.grown hp.2 bcg.size (fun k hk => by cases hk; exact Nat.le_refl _)
  have hld := run_loadVar_mid (P := Tryz.prog) _ w.heap.size 0 165 _ _ (owns_range hp.1) Tryz.underlying165 rfl hszM
  clear hp e1 o1g bcg hrx
  refine wpAnyH_take (i := 5) (v := .pointer (some ⟨gx, 0, none⟩)) rfl (by kernel_rfl) (by kernel_rfl) (by kernel_rfl) (fun _ _ _ h => h) (Or.inl ⟨by rfl, fun w hSw => by (try dsimp only at hSw); go_simp⟩) hHeld ?_
  simp only [Act.put, List.getElem_toArray, List.getElem_cons_zero, List.getElem_cons_succ, List.setIfInBounds_toArray, List.set_cons_zero, List.set_cons_succ]
  refine wpAnyH_ready (rs := [6]) (by kernel_rfl) (by simp) ?_
  refine AllReadyH.cons rfl (fun K hK => ?_) AllReadyH.nil
  rw [if_pos (by rfl)]
  refine wp_load_mid _ _ rfl gx 0 rfl (u8L ML) _ hra Tryz.underlying165 rfl hszM ?_
  refine hK.out _ _ trivial (fun hHeld => ?_)
  clear hK K
  simp only [Act.put, List.getElem_toArray, List.getElem_cons_zero, List.getElem_cons_succ, List.setIfInBounds_toArray, List.set_cons_zero, List.set_cons_succ]
  refine wpAnyH_ready (rs := [7]) (by kernel_rfl) (by simp) ?_
  refine AllReadyH.cons rfl (fun K hK => ?_) AllReadyH.nil
  rw [if_pos (by rfl)]
  refine wp_store_mid _ _ _ rfl w.heap.size 0 (u8L ML).toArray rfl rfl hth hszM2 (all_oneCell_toArray (u8L_one ML)) ?_
  change K _ (wg.setCells w.heap.size 0 (u8L ML))
  refine hK.out _ _ trivial (fun _ => ?_)
  clear hK K
  simp only [Act.put, List.getElem_toArray, List.getElem_cons_zero, List.getElem_cons_succ]
  refine wpAnyH_done (by kernel_rfl) ?_ _
  refine NoPanic.normal ?_
  generalize wg.setCells w.heap.size 0 (u8L ML) = wz at bfin hld ⊢
  go_wp2_with (fail)
  (try simp only [Exit.inBlock, Exit.then])
  refine bodyPost_ret (v := .agg (u8L ML).toArray) ?_ rfl ⟨by rw [hML.out], bfin⟩
  simp [results, asAddr, hld]
end Go.Proofs.YtnpffnhiefgglaaGreatDoor
namespace Go.Proofs.YtnpffnhiefgglaaGreatDoor
set_option maxRecDepth 100000
def behindL (xs : List Int) : List Int := (padL (List.replicate 64 0 ++ xs)).drop 64
def behindN (n : Nat) : Nat := padN (64 + n) - 64
theorem pad_split {ys xs : List Int} (hy : ys.length = 64) (hx : xs.length ≤ 3936) : padL (ys ++ xs) = ys ++ behindL xs := by
  have h1 : (ys ++ xs).length = 64 + xs.length := by rw [List.length_append, hy]
  have h2 : (List.replicate 64 (0 : Int) ++ xs).length = 64 + xs.length := by rw [List.length_append, List.length_replicate]
  unfold behindL padL
  rw [h1, h2, if_pos (by omega), if_pos (by omega)]
  simp only [List.append_assoc]
  rw [List.drop_left' (by simp)]
theorem behindL_length {xs : List Int} : (behindL xs).length = behindN xs.length := by
  unfold behindL behindN
  rw [List.length_drop, padL_length, List.length_append, List.length_replicate]
theorem behindN_is {n : Nat} (h : n ≤ 3936) : padN (64 + n) = 64 + behindN n ∧ behindN n = 64 * (behindN n / 64) ∧ 64 ≤ behindN n ∧ behindN n ≤ 4096 := by
  have h1 := pad64 (n := 64 + n) (by omega)
  have h2 : padN (64 + n) = 64 + n + 1 + zerosN (64 + n) + 8 := if_pos (by omega)
  unfold behindN
  omega
theorem behindL_byte {xs : List Int} (hb : ∀ x ∈ xs, 0 ≤ x ∧ x < 256) : ∀ x ∈ behindL xs, 0 ≤ x ∧ x < 256 := by
  intro x hx
  refine padL_byte (xs := List.replicate 64 0 ++ xs) ?_ x (List.mem_of_mem_drop hx)
  intro y hy
  rcases List.mem_append.1 hy with h | h
  · have := List.eq_of_mem_replicate h
    omega
  · exact hb y h
theorem fold_head {ys : List Int} (hy : ys.length = 64) (S : List Nat) (zs : List Int) : ∀ k, foldF S (ys ++ zs) (k + 1) = foldF (blockN (wsOf ys) S) zs k
  | 0 => by
    show blockN (wsOf (((ys ++ zs).drop (64 * 0)).take 64)) S = _
    rw [Nat.mul_zero, List.drop_zero, List.take_left' hy]
    rfl
  | k + 1 => by
    show blockN (wsOf (((ys ++ zs).drop (64 * (k + 1))).take 64)) (foldF S (ys ++ zs) (k + 1)) = blockN (wsOf ((zs.drop (64 * k)).take 64)) (foldF (blockN (wsOf ys) S) zs k)
    rw [fold_head hy S zs k, show 64 * (k + 1) = 64 + 64 * k by omega, ← List.drop_drop, List.drop_left' hy]
theorem hash_behind {ys xs : List Int} (hy : ys.length = 64) (hx : xs.length ≤ 3936) : hashL (ys ++ xs) = bytesL true (natsL (foldF (blockN (wsOf ys) startN) (behindL xs) (behindN xs.length / 64))) := by
  have h1 : (ys ++ xs).length = 64 + xs.length := by rw [List.length_append, hy]
  have h2 := behindN_is hx
  unfold hashL
  rw [h1, if_pos (by omega), pad_split hy hx, h2.1, show (64 + behindN xs.length) / 64 = behindN xs.length / 64 + 1 by omega]
  unfold foldN
  rw [fold_head hy]
theorem hashL_length {xs : List Int} (h : xs.length ≤ 4000) : (hashL xs).length = 32 := by
  unfold hashL
  rw [if_pos h, bytesL_length, natsL_length, foldN_length]
theorem bytesL_byte {l : List Int} : ∀ x ∈ bytesL true l, 0 ≤ x ∧ x < 256 := by
  intro x hx
  unfold bytesL at hx
  obtain ⟨n, _, hx⟩ := List.mem_flatMap.1 hx
  simp only [fourL, littleL] at hx
  simp only [if_true, List.mem_reverse, List.mem_map] at hx
  obtain ⟨i, _, rfl⟩ := hx
  omega
theorem hashL_byte (xs : List Int) : ∀ x ∈ hashL xs, 0 ≤ x ∧ x < 256 := by
  unfold hashL
  split
  · exact bytesL_byte
  · intro x hx; simp at hx
def kL (key : List Int) : List Int := if 64 < key.length then hashL key else key
theorem kL_length {key : List Int} (h : key.length ≤ 4000) : (kL key).length ≤ 64 := by
  unfold kL
  split
  · rw [hashL_length h]; omega
  · omega
def ofL (k b : List Int) : List Int := hashL (markL k 92 ++ hashL (markL k 54 ++ b))
def macN (n m : Nat) : Nat := if n ≤ 3936 ∧ m ≤ 3936 then 32 else 0
def macL (key b : List Int) : List Int := if key.length ≤ 3936 ∧ b.length ≤ 3936 then ofL (kL key) b else []
theorem macN_le (n m : Nat) : macN n m ≤ 32 := by unfold macN; split <;> omega
theorem ofL_length {k b : List Int} (hk : k.length ≤ 64) (hb : b.length ≤ 3936) : (ofL k b).length = 32 := by
  unfold ofL
  rw [hashL_length]
  rw [List.length_append, markL_length hk, hashL_length (by rw [List.length_append, markL_length hk]; omega)]
  omega
theorem macL_length (key b : List Int) : (macL key b).length = macN key.length b.length := by
  unfold macL macN
  split
  · rename_i h
    exact ofL_length (kL_length (by omega)) h.2
  · rfl
theorem ofL_byte (k b : List Int) : ∀ x ∈ ofL k b, 0 ≤ x ∧ x < 256 := hashL_byte _
theorem macL_byte (key b : List Int) : ∀ x ∈ macL key b, 0 ≤ x ∧ x < 256 := by
  unfold macL
  split
  · exact ofL_byte _ _
  · intro x hx; simp at hx
theorem xor_byte (u v : Int) : 0 ≤ bits BinOp.xor IntKind.u8 u v ∧ bits BinOp.xor IntKind.u8 u v < 256 := by
  have : bits BinOp.xor IntKind.u8 u v = IntKind.u8.wrap ((BitVec.ofInt 8 u ^^^ BitVec.ofInt 8 v).toNat : Int) := rfl
  rw [this, IntKind.wrap_u8]
  omega
theorem markL_byte (k : List Int) (m : Int) : ∀ x ∈ markL k m, 0 ≤ x ∧ x < 256 := by
  intro x hx
  unfold markL xorL at hx
  obtain ⟨i, hi, rfl⟩ := List.getElem_of_mem hx
  rw [List.getElem_zipWith]
  exact xor_byte _ _
end Go.Proofs.YtnpffnhiefgglaaGreatDoor
namespace Go.Proofs.YtnpffnhiefgglaaGreatDoor
open Go.RowKit
set_option maxRecDepth 100000
theorem concat2 (p0 p1 : Option Addr) (n0 n1 c0 c1 : Nat) (xs0 xs1 : List Int) (w0 : World) (hx0 : xs0.length = n0) (hx1 : xs1.length = n1) (h0 : 0 < n0 + n1) (hs1 : n0 + n1 ≤ 1048576)
    (i0 : BytesIn w0 p0 n0 xs0) (i1 : BytesIn w0 p1 n1 xs1) (gr : Nat) (hgr : w0.heap.size = gr) :
    Calls Tryz.prog 68 #[.slice (some ⟨gr, 0, none⟩) 2 2] (w0.alloc (.cells #[.slice p0 n0 c0, .slice p1 n1 c1] 22)) fun e w' =>
      ∃ p' c', e = .returned (.slice p' (n0 + n1) c') ∧ Own 5 w' w0.heap.size w'.heap.size (.slice p' (n0 + n1) c') (n0 + n1) (xs0 ++ xs1) ∧ Below w0.heap.size w0 w' := by
  subst hgr
  have ba : Below w0.heap.size w0 (w0.alloc (.cells #[.slice p0 n0 c0, .slice p1 n1 c1] 22)) := (Below.refl _ _).alloc (Nat.le_refl _) _
  have hs : sumN (fun k => match k with | 0 => n0 | _ => n1) 2 = n0 + n1 := by simp [sumN]
  have hc : catL (fun k => match k with | 0 => xs0 | _ => xs1) 2 = xs0 ++ xs1 := by simp [catL]
  have h := concat_any w0.heap.size 2 (fun k => match k with | 0 => p0 | _ => p1) (fun k => match k with | 0 => n0 | _ => n1) (fun k => match k with | 0 => c0 | _ => c1) (fun k => match k with | 0 => xs0 | _ => xs1)
    (w0.alloc (.cells #[.slice p0 n0 c0, .slice p1 n1 c1] 22)) (by decide)
    (fun k hk => by
      rw [cell_of_row _ _ k _ _ _ (heap_alloc_new w0 _)]
      match k, hk with
      | 0, _ => rfl
      | 1, _ => rfl)
    (fun k hk => by
      match k, hk with
      | 0, _ => exact hx0
      | 1, _ => exact hx1)
    (fun k hk => by
      match k, hk with
      | 0, _ => exact in_below i0 ba
      | 1, _ => exact in_below i1 ba)
    (by rw [hs]; omega) (by rw [hs]; omega)
  rw [hs, hc] at h
  refine h.mono ?_
  rintro e w' ⟨p', c', rfl, r, b⟩
  exact ⟨p', c', rfl, ⟨owns_mono r.1 (by simp), r.2⟩, below_on ba b⟩
set_option maxHeartbeats 2000000 in
theorem padBehind_any (p : Option Addr) (n c : Nat) (xs : List Int) (w : World) (hn : n ≤ 3936) (hx : xs.length = n) (h : BytesIn w p n xs) :
    Calls Tryz.prog 189 #[.slice p n c] w fun e w' => ∃ g c', e = .returned (.slice (some ⟨g, 64, none⟩) (behindN n) c') ∧ w.heap.size ≤ g ∧ behindN n ≤ c' ∧ BytesIn w' (some ⟨g, 64, none⟩) (behindN n) (behindL xs) ∧ Below w.heap.size w w' := by
  obtain ⟨i0, hi, hz0, hz1, hz2⟩ := info_parts infoByte
  obtain ⟨hb1, hb2, hb3, hb4⟩ := behindN_is hn
  have hbl : (behindL xs).length = behindN n := by rw [behindL_length, hx]
  have C := fun p c w h => implPad_any p (64 + n) c (List.replicate 64 0 ++ xs) w (by omega) (by rw [List.length_append, List.length_replicate, hx]) h
  rw [hb1, pad_split (by simp) (by omega)] at C
  have CC := fun c1 X h1 h2 gr hgr => concat2 (some ⟨w.heap.size, 0, none⟩) p 64 n 64 c1 (List.replicate 64 0) xs X (by simp) hx (by omega) (by omega) h1 h2 gr hgr
  have HI : Hid (∀ (X : World) q, BytesIn X (some ⟨q, 0, none⟩) (64 + behindN n) (List.replicate 64 0 ++ behindL xs) → BytesIn X (some ⟨q, 64, none⟩) (behindN n) (behindL xs)) := by
    intro X q hq _
    obtain ⟨b, o, e1, e2⟩ := hq (by omega)
    simp only [Option.some.injEq, Addr.mk.injEq, and_true] at e1
    obtain ⟨rfl, rfl⟩ := e1
    refine ⟨_, _, rfl, fun i hi => ?_⟩
    have := e2 (64 + i) (by omega)
    rw [Nat.zero_add] at this
    rw [this, List.getD_eq_getElem?_getD, List.getD_eq_getElem?_getD, List.getElem?_append_right (by simp), List.length_replicate, Nat.add_sub_cancel_left]
  have hmk0 : ∀ W : World, (Instr.makeSlice 22 (.int .i64 64) (.int .i64 64)).run Tryz.prog W = .ok (.slice (some ⟨W.heap.size, 0, none⟩) 64 64) (W.alloc (.cells (madeCells #[.int .u8 0] 64) 5)) := by
    intro W
    have := run_makeSlice (P := Tryz.prog) W 22 5 i0 (.int .u8 0) Tryz.underlying22 hi hz0 .i64 .i64 64 64 (by omega) (by omega) (by rw [hz1]; simp) (by rw [hz2]; omega) (by omega)
    rw [hz1] at this
    exact this
  have hin0 := in_zeros w 5 64
  obtain ⟨Zc, hZc⟩ : ∃ Zc, Zc = madeCells #[Value.int .u8 0] 64 := ⟨_, rfl⟩
  rw [← hZc] at hin0
  simp only [← hZc] at hmk0
  clear hZc hb1 hb2
  generalize List.replicate 64 (0 : Int) = R64 at C CC HI hin0
  generalize behindN n = M at C HI hb3 hb4 hbl ⊢
  generalize behindL xs = BL at C HI hbl ⊢
  have ba : Below w.heap.size w (w.alloc (.cells Zc 5)) := (Below.refl _ _).alloc (Nat.le_refl _) _
  have hin1 := in_below h ba
  go_enter Tryz.func189, Tryz.ntmps189
  go_wp2_with (fail)
  refine (CC _ _ hin0 hin1 _ (by simp)).mono ?_
  rintro e w1 ⟨p1, c1, rfl, r1, b1⟩
  clear CC hmk0 hin0 hin1
  go_wp2_with (fail)
  refine (C _ _ _ r1.bytes).mono ?_
  rintro e w2 ⟨p2, c2, rfl, r2, b2⟩
  have hcap := r2.cap
  have hs1 := b1.size
  have hsa := ba.size
  have hown := r2.1
  obtain ⟨g, rfl⟩ := owns_at hown (by omega)
  have hlt := hown.lt g rfl
  have i2 : ¬ c2 = 64 := by omega
  have i3 : (64 : Int) ≤ 64 + (M : Int) := by omega
  clear C
  go_wp2
  go_ret
  exact ⟨g, c2 - 64, rfl, by omega, by omega, HI.out _ _ r2.bytes, below_on (below_on ba b1) b2⟩
def stateN (L : List Int) : List Nat := blockN (wsOf L) startN
def codeC (k : List Int) : List Value := hashC (stateN (markL k 54)) (markL k 54) (spreadN (wsOf (markL k 54))) ++ hashC (stateN (markL k 92)) (markL k 92) (spreadN (wsOf (markL k 92)))
theorem codeC_length {k : List Int} (h : k.length ≤ 64) : (codeC k).length = 272 := by
  rw [codeC, List.length_append, hashC_length (S := stateN _) (blockN_length _ _) (markL_length h _) (spreadN_length (wsOf_length _)), hashC_length (S := stateN _) (blockN_length _ _) (markL_length h _) (spreadN_length (wsOf_length _))]
theorem infoCode : (Tryz.prog.info? 170).map (fun i => (i.zero, i.size)) = some (some (.agg (hashC (List.replicate 8 0) zeroL zero64 ++ hashC (List.replicate 8 0) zeroL zero64).toArray), 272) := by kernel_rfl
theorem codeC_one (k : List Int) : ∀ v ∈ codeC k, v.oneCell' = true := by
  intro v hv
  rcases List.mem_append.1 hv with h | h
  · exact hashC_one _ _ _ v h
  · exact hashC_one _ _ _ v h
section
variable {ty : Nat} {w : World} {lo g : Nat} {S S' : List Nat} {L L' : List Int} {W W' : List Nat}
theorem code_first (h1 : S.length = 8) (h2 : L.length = 64) (h3 : W.length = 64) (h : w.ownsRow lo ty 1 (.slice (some ⟨g, 0, none⟩) 272 272) 272 (hashC S L W ++ hashC S' L' W')) : HashIn ty 272 0 [] (hashC S' L' W') w lo g S L W :=
  ⟨h1, h2, h3, rfl, h⟩
theorem code_second (h1 : S.length = 8) (h2 : L.length = 64) (h3 : W.length = 64) (k1 : S'.length = 8) (k2 : L'.length = 64) (k3 : W'.length = 64) (h : w.ownsRow lo ty 1 (.slice (some ⟨g, 0, none⟩) 272 272) 272 (hashC S L W ++ hashC S' L' W')) : HashIn ty 272 136 (hashC S L W) [] w lo g S' L' W' :=
  ⟨k1, k2, k3, hashC_length h1 h2 h3, by rw [List.append_nil]; exact h⟩
theorem HashIn.rowFirst (h : HashIn ty 272 0 [] (hashC S' L' W') w lo g S L W) : w.ownsRow lo ty 1 (.slice (some ⟨g, 0, none⟩) 272 272) 272 (hashC S L W ++ hashC S' L' W') := h.2.2.2.2
theorem HashIn.rowSecond (h : HashIn ty 272 136 (hashC S L W) [] w lo g S' L' W') : w.ownsRow lo ty 1 (.slice (some ⟨g, 0, none⟩) 272 272) 272 (hashC S L W ++ hashC S' L' W') := by
  have := h.2.2.2.2
  rw [List.append_nil] at this
  exact this
end
theorem keys_below {w w' : World} (h : KeysIs w) (hb : Below w.heap.size w w') : KeysIs w' := fun t ht =>
  (hb.cell (p := ⟨2, t, none⟩) (World.block_lt_of_cell? w ⟨2, t, none⟩ (h t ht))).trans (h t ht)
theorem keys_lt {w : World} (h : KeysIs w) : 2 < w.heap.size := World.block_lt_of_cell? w ⟨2, 0, none⟩ (h 0 (by omega))
theorem code_made (w : World) (lo : Nat) (k : List Int) (h : k.length ≤ 64) (hlo : lo ≤ w.heap.size) :
    (w.alloc (.cells (codeC k).toArray 170)).ownsRow lo 170 1 (.slice (some ⟨w.heap.size, 0, none⟩) 272 272) 272 (codeC k) := by
  refine ⟨by rw [codeC_length h], .inr ⟨w.heap.size, 272, _, rfl, hlo, heap_alloc_new w _, Nat.le_refl _, by unfold maxLen; omega, by simp [codeC_length h], ?_⟩⟩
  rw [List.take_of_length_le (by simp [codeC_length h])]
theorem stateN_lt (L : List Int) : ∀ x ∈ stateN L, x < 4294967296 := blockN_lt _ _
set_option maxHeartbeats 2000000 in
theorem codeOf_any (k : List Int) (p : Option Addr) (n c : Nat) (xs : List Int) (w : World) (hk : k.length ≤ 64) (hn : n ≤ 3936) (hx : xs.length = n) (h : BytesIn w p n xs) (hb : ∀ x ∈ xs, 0 ≤ x ∧ x < 256) (hKey : KeysIs w) :
    Calls Tryz.prog 140 #[.agg (codeC k).toArray, .slice p n c] w fun e w' => ∃ p' c', e = .returned (.slice p' 32 c') ∧ Own 5 w' w.heap.size w'.heap.size (.slice p' 32 c') 32 (ofL k xs) ∧ Below w.heap.size w w' := by
  have hm := code_made w w.heap.size k hk (Nat.le_refl _)
  have bA : Below w.heap.size w (w.alloc (.cells (codeC k).toArray 170)) := (Below.refl _ _).alloc (Nat.le_refl _) _
  have hsA : (w.alloc (.cells (codeC k).toArray 170)).heap.size = w.heap.size + 1 := by simp
  have l1 := markL_length hk 54
  have l2 := markL_length hk 92
  have b1 := markL_byte k 54
  have b2 := markL_byte k 92
  have HO : Hid (ofL k xs = hashL (markL k 92 ++ hashL (markL k 54 ++ xs))) := rfl
  have H1 : Hid (hashL (markL k 54 ++ xs) = bytesL true (natsL (foldF (stateN (markL k 54)) (behindL xs) (behindN n / 64)))) := by rw [Hid, ← hx]; exact hash_behind l1 (by omega)
  have l32 : (hashL (markL k 54 ++ xs)).length = 32 := hashL_length (by rw [List.length_append]; omega)
  have b32 := hashL_byte (markL k 54 ++ xs)
  have H2 : Hid (hashL (markL k 92 ++ hashL (markL k 54 ++ xs)) = bytesL true (natsL (foldF (stateN (markL k 92)) (behindL (hashL (markL k 54 ++ xs))) (behindN 32 / 64)))) := by
    have := hash_behind (ys := markL k 92) (xs := hashL (markL k 54 ++ xs)) l2 (by omega)
    rw [l32] at this
    exact this
  unfold codeC at hm bA hsA ⊢
  generalize markL k 54 = M1 at *
  generalize markL k 92 = M2 at *
  generalize hashL (M1 ++ xs) = H at *
  obtain ⟨Cs, hCs⟩ : ∃ Cs, Cs = (hashC (stateN M1) M1 (spreadN (wsOf M1)) ++ hashC (stateN M2) M2 (spreadN (wsOf M2))).toArray := ⟨_, rfl⟩
  rw [← hCs] at hm bA hsA ⊢
  clear hCs
  go_enter Tryz.func140, Tryz.ntmps140
  go_wp2_with (fail)
  refine (padBehind_any p n _ xs _ hn hx (in_below h bA)).mono ?_
  rintro e wb ⟨gb, cb, rfl, hgb, hcb, hib, bB⟩
  have lw1 := wsOf_length M1
  have lw2 := wsOf_length M2
  have hB := code_first (S := stateN M1) (W := spreadN (wsOf M1)) (blockN_length _ _) l1 (spreadN_length lw1) (owns_below hm bB)
  have belB := below_on bA bB
  have keyB := keys_below hKey belB
  have hlo := keys_lt hKey
  obtain ⟨q1, q2, q3, q4⟩ := behindN_is hn
  have CT := takeAll_any _ _ _ _ _ w.heap.size w.heap.size (stateN M1) M1 (behindL xs) (some ⟨gb, 64, none⟩) (behindN n) cb (behindN n / 64) wb (stateN_lt M1) b1 (by rw [behindL_length, hx]) (behindL_byte hb) q2 (by omega) hcb hB keyB hlo hib (fun b q e => by simp only [Option.some.injEq, Addr.mk.injEq] at e; omega)
  clear q1 q2 q3 q4 hB hib hcb hm
  go_wp2_with (fail)
  refine CT.mono ?_
  rintro e wc ⟨rfl, L, hC, hLb, gC⟩
  clear CT
  have belC : Below w.heap.size w wc := belB.grown gC belB.size (fun i hi => by cases hi; exact Nat.le_refl _)
  have CS := sum_any _ _ _ _ _ w.heap.size w.heap.size _ L _ wc (foldF_lt (stateN_lt M1) _ _) hC
  rw [← H1.out] at CS
  go_wp2_with (fail)
  refine CS.mono ?_
  rintro e wd ⟨pd, cd, rfl, rd, bD⟩
  clear CS
  have belD := below_on belC bD
  have hD := hC.below bD
  clear hC
  go_wp2_with (fail)
  refine (padBehind_any pd 32 _ H _ (by omega) l32 rd.bytes).mono ?_
  rintro e we ⟨ge, ce, rfl, hge, hce, hie, bE⟩
  have belE := below_on belD bE
  have rowE := (hD.below bE).rowFirst
  have hE := code_second (S' := stateN M2) (W' := spreadN (wsOf M2)) (foldF_length (S := stateN M1) (blockN_length _ _) _ _) hD.2.1 hD.2.2.1 (blockN_length _ _) l2 (spreadN_length lw2) rowE
  have keyE := keys_below hKey belE
  obtain ⟨q1, q2, q3, q4⟩ := behindN_is (n := 32) (by omega)
  have hsz := belD.size
  have hgD := hD.lt
  have CT := takeAll_any _ _ _ _ _ w.heap.size w.heap.size (stateN M2) M2 (behindL H) (some ⟨ge, 64, none⟩) (behindN 32) ce (behindN 32 / 64) we (stateN_lt M2) b2 (by rw [behindL_length, l32]) (behindL_byte b32) q2 (by omega) hce hE keyE hlo hie (fun b q e => by simp only [Option.some.injEq, Addr.mk.injEq] at e; omega)
  clear q1 q2 q3 q4 hE hie hce hD rd rowE
  go_wp2_with (fail)
  refine CT.mono ?_
  rintro e wf ⟨rfl, L2, hF, hLb2, gF⟩
  clear CT
  have belF : Below w.heap.size w wf := belE.grown gF belE.size (fun i hi => by cases hi; exact Nat.le_refl _)
  have CS := sum_any _ _ _ _ _ w.heap.size w.heap.size _ L2 _ wf (foldF_lt (stateN_lt M2) _ _) hF
  rw [← H2.out, ← HO.out] at CS
  clear hF
  go_wp2_with (fail)
  refine CS.mono ?_
  rintro e wg ⟨pg, cg, rfl, rg, bG⟩
  go_wp2
  go_ret
  have hs := belF.size
  exact ⟨_, _, rfl, ⟨owns_mono rg.1 (by omega), rg.2⟩, below_on belF bG⟩
def zCode : List Value := hashC (List.replicate 8 0) zeroL zero64 ++ hashC (List.replicate 8 0) zeroL zero64
def aCode : List Value := hashC startN zeroL zero64 ++ hashC startN zeroL zero64
theorem zCode_length : zCode.length = 272 := by rw [zCode, List.length_append, hashC_length (by simp) (by simp [zeroL]) (by simp [zero64])]
theorem aCode_length : aCode.length = 272 := by rw [aCode, List.length_append, hashC_length (by rfl) (by simp [zeroL]) (by simp [zero64])]
theorem zCode_made (w : World) (lo : Nat) (hlo : lo ≤ w.heap.size) :
    (w.alloc (.cells zCode.toArray 170)).ownsRow lo 170 1 (.slice (some ⟨w.heap.size, 0, none⟩) 272 272) 272 zCode := by
  refine ⟨by rw [zCode_length], .inr ⟨w.heap.size, 272, _, rfl, hlo, heap_alloc_new w _, Nat.le_refl _, by unfold maxLen; omega, by simp [zCode_length], ?_⟩⟩
  rw [List.take_of_length_le (by simp [zCode_length])]
theorem code_put {w : World} {lo g : Nat} {A B : List Value} (h : w.ownsRow lo 170 1 (.slice (some ⟨g, 0, none⟩) 272 272) 272 A) (hB : B.length = 272) :
    (w.setCells g 0 B).ownsRow lo 170 1 (.slice (some ⟨g, 0, none⟩) 272 272) 272 B ∧ w.grownBy (w.setCells g 0 B) (some g) := by
  have h5 := owns_put B 0 w _ h
  have e := putL_mid [] A [] B (by rw [hB]; have := h.1; omega)
  simp only [List.append_nil, List.nil_append, List.length_nil] at e
  rw [e] at h5
  exact h5
theorem aCode_one : ∀ v ∈ aCode, v.oneCell' = true := by
  intro v hv
  rcases List.mem_append.1 hv with h | h
  · exact hashC_one _ _ _ v h
  · exact hashC_one _ _ _ v h
theorem build_code (w : World) : (Instr.build 170 #[(0, .agg (hashC startN zeroL zero64).toArray), (1, .agg (hashC startN zeroL zero64).toArray)]).run Tryz.prog w = .ok (.agg aCode.toArray) w :=
  run_build w 170 _ _ (by kernel_rfl)
theorem wpList_build_runC {P : Program} {ops : Array Oper} {rest : List Oper} {o : Oper} {a : Act} {w : World} {Q : Exit → Act → World → Prop} (hgd : o.guard = none) (t : TypeId) (parts : Array (Nat × Operand)) (ho : o.op = .build t parts)
    (vs : Array (Nat × Value)) (hvs : (parts.map fun (i, x) => (i, a.eval x)) = vs) {v : Value} (hr : (Instr.build t vs).run P w = .ok v w) (h : wpList P ops Q rest (a.put o.dst v) w) : wpList P ops Q (o :: rest) a w :=
  wpList_plain hgd fun _ hK => by
    unfold Oper.wp execOp
    subst hvs
    simp only [ho, Sem.run_bind, Sem.run_pure, Result.andThen_ok, hr]
    exact hK _ _ h
theorem newHash_start (p : Option Addr) (c : Nat) (w : World) (h : IntsIn w p 8 startL) :
    Calls Tryz.prog 184 #[.slice p 8 c] w fun e w' => e = .returned (.agg (hashC startN zeroL zero64).toArray) ∧ Below w.heap.size w w' := by
  have h := newHash_any p c startL w rfl h
  rw [show wordsN startL = startN from wordsN_nats (by decide)] at h
  exact h
set_option maxHeartbeats 400000 in
theorem newCode_small (p : Option Addr) (n c : Nat) (xs : List Int) (w : World) (hn : n ≤ 64) (hx : xs.length = n) (h : BytesIn w p n xs) (_hb : ∀ x ∈ xs, 0 ≤ x ∧ x < 256) (hKey : KeysIs w) :
    Calls Tryz.prog 139 #[.slice p n c] w fun e w' => e = .returned (.agg (codeC (kL xs)).toArray) ∧ Below w.heap.size w w' := by
  have hkk : kL xs = xs := if_neg (by omega)
  rw [hkk]
  clear hkk
  have c1 : ¬ (64 : Int) < (n : Int) := by omega
  have hz : Hid ((Tryz.prog.info? 170).map (fun i => (i.zero, i.size)) = some (some (.agg zCode.toArray), 272)) := infoCode
  have hzv := (zero_of_info hz.out).1
  have hsz0 := (zero_of_info hz.out).2
  have bC := build_code
  have m1 := zCode_made
  have CN := newHash_start
  have hA1 := aCode_one
  have hAl := aCode_length
  have hA2 : Hid (aCode = hashC startN zeroL zero64 ++ hashC startN zeroL zero64) := rfl
  have hlo := keys_lt hKey
  have bz : Below w.heap.size w (w.alloc (.cells zCode.toArray 170)) := (Below.refl _ _).alloc (Nat.le_refl _) _
  have oz := m1 w w.heap.size (Nat.le_refl _)
  obtain ⟨H0, hH0⟩ : ∃ H0, H0 = (hashC startN zeroL zero64).toArray := ⟨_, rfl⟩
  rw [← hH0] at CN
  simp only [← hH0] at bC
  obtain ⟨Z, hZ⟩ : ∃ Z, Z = zCode.toArray := ⟨_, rfl⟩
  rw [← hZ] at hzv oz bz
  simp only [← hZ] at m1
  generalize aCode = AC at bC hA1 hAl hA2
  have hzl := zCode_length
  generalize zCode = ZC at hz oz m1 hzl
  clear hz hH0 hZ
  go_enter Tryz.func139, Tryz.ntmps139
  have ik := in_below h bz
  have ok := oz
  have bk := bz
  have hnk := hn
  have hxk := hx
  go_wp2_with (fail)
  generalize w.alloc (.cells Z 170) = wk at ik ok bk ⊢
  clear oz bz h
  refine (implStart_any _).mono ?_
  rintro e w1 ⟨p1, c1, rfl, r1, b1⟩
  go_wp2_with (fail)
  refine (CN _ _ _ r1.ints).mono ?_
  rintro e w2 ⟨rfl, b2⟩
  go_wp2_with (fail)
  refine (implStart_any _).mono ?_
  rintro e w3 ⟨p3, c3, rfl, r3, b3⟩
  go_wp2_with (fail)
  refine (CN _ _ _ r3.ints).mono ?_
  rintro e w4 ⟨rfl, b4⟩
  have B4 := below_on (below_on (below_on b1 b2) b3) b4
  clear r1 r3 b1 b2 b3 b4 CN
  have i4 := in_below ik B4
  have o4 := owns_below ok B4
  have bel4 := below_on bk B4
  clear ik ok bk B4
  have oa := m1 w4 w.heap.size bel4.size
  have ba : Below w4.heap.size w4 (w4.alloc (.cells Z 170)) := (Below.refl _ _).alloc (Nat.le_refl _) _
  have hth : (w4.alloc (.cells Z 170)).there w4.heap.size 0 AC.toArray.size := by rw [show AC.toArray.size = 272 by simpa using hAl]; exact owns_there oa
  have hszA : (Tryz.prog.info? 170).map (·.size) = some AC.toArray.size := by rw [show AC.toArray.size = 272 by simpa using hAl]; exact hsz0
  have hp := code_put oa hAl
  have bel5 : Below w.heap.size w ((w4.alloc (.cells Z 170)).setCells w4.heap.size 0 AC) := (below_on bel4 ba).grown hp.2 (below_on bel4 ba).size (fun k hk => by cases hk; exact bel4.size)
  have b45 : Below w4.heap.size w4 ((w4.alloc (.cells Z 170)).setCells w4.heap.size 0 AC) := ba.grown hp.2 ba.size (fun k hk => by cases hk; exact Nat.le_refl _)
  have i5 := in_below i4 b45
  have o5 := owns_below o4 b45
  have hc5 := hp.1
  have hg4 : w.heap.size < w4.heap.size := (o4.lt w.heap.size rfl).2
  have hfar : Hid (∀ bb oo, 0 < n → p = some ⟨bb, oo, none⟩ → bb < w4.heap.size) := fun bb oo hpos e => by
    obtain ⟨b', o', e1, e2⟩ := i4 hpos
    rw [e1] at e
    simp only [Option.some.injEq, Addr.mk.injEq, and_true] at e
    have := World.block_lt_of_cell? w4 ⟨b', o' + 0, none⟩ (e2 0 hpos)
    rw [← e.1]
    exact this
  clear hp oa ba b45 bel4 i4 o4
  go_wp2_with (first | (refine wpList_build_runC rfl 170 #[(0, .tmp 10), (1, .tmp 12)] rfl #[(0, .agg H0), (1, .agg H0)] (by simp [Act.eval]) (bC _) ?_) | (refine wpList_store_mid rfl 170 _ _ rfl w4.heap.size 0 AC.toArray rfl rfl hth hszA (all_oneCell_toArray hA1) ?_))
  clear hth hszA bC hzv m1
  generalize (w4.alloc (.cells Z 170)).setCells w4.heap.size 0 AC = w5 at hc5 bel5 i5 o5 ⊢
  generalize w4.heap.size = g at hc5 hg4 hfar ⊢
  refine (markedKey_any p n _ xs 54 w5 hn hx i5).mono ?_
  rintro e w6 ⟨rfl, b6⟩
  rw [hA2.out] at hc5
  have h6 := code_first (by rfl) (by simp [zeroL]) (by simp [zero64]) (owns_below hc5 b6)
  rw [← zeroL_spread] at h6
  have bel6 := below_on bel5 b6
  have CT := take_any _ _ _ _ _ w.heap.size g startN zeroL (markL xs 54) w6 startN_lt zeroL_byte (markL_length (by omega) 54) (markL_byte xs 54) h6 (keys_below hKey bel6) hlo
  have i6 := in_below i5 b6
  have o6 := owns_below o5 b6
  clear h6 b6 hc5 i5 o5 bel5 hA1 hAl hA2
  go_wp2_with (fail)
  refine CT.mono ?_
  rintro e w7 ⟨rfl, h7, g7⟩
  clear CT
  have bel7 : Below w.heap.size w w7 := bel6.grown g7 bel6.size (fun k hk => by cases hk; omega)
  have i7 : BytesIn w7 p n xs := fun hpos => by
    obtain ⟨bb, oo, e1, e2⟩ := i6 hpos
    have hbg : bb < g := hfar.out bb oo hpos e1
    exact ⟨bb, oo, e1, fun i hi => (cell_grown (p := ⟨bb, oo + i, none⟩) g7 (World.block_lt_of_cell? w6 ⟨bb, oo + i, none⟩ (e2 i hi)) (show bb ≠ g by omega)).trans (e2 i hi)⟩
  have o7 := o6.kept g7 (.inr (by simp [Value.ownBlock]; omega))
  clear i6 o6 g7 bel6
  go_wp2_with (fail)
  refine (markedKey_any p n _ xs 92 w7 hn hx i7).mono ?_
  rintro e w8 ⟨rfl, b8⟩
  have h8 := code_second (blockN_length _ _) (markL_length (by omega) 54) (spreadN_length (wsOf_length _)) (by rfl) (by simp [zeroL]) (spreadN_length (wsOf_length _)) (owns_below h7.rowFirst b8)
  have bel8 := below_on bel7 b8
  have CT := take_any _ _ _ _ _ w.heap.size g startN zeroL (markL xs 92) w8 startN_lt zeroL_byte (markL_length (by omega) 92) (markL_byte xs 92) h8 (keys_below hKey bel8) hlo
  have o8 := owns_below o7 b8
  clear h8 b8 h7 i7 o7 bel7 hfar
  go_wp2_with (fail)
  refine CT.mono ?_
  rintro e w9 ⟨rfl, h9, g9⟩
  clear CT
  have bel9 : Below w.heap.size w w9 := bel8.grown g9 bel8.size (fun k hk => by cases hk; omega)
  have o9 := o8.kept g9 (.inr (by simp [Value.ownBlock]; omega))
  have row9 := h9.rowSecond
  have hCl := codeC_length (k := xs) (by omega)
  have hC1 := codeC_one xs
  have hCe : hashC (blockN (wsOf (markL xs 54)) startN) (markL xs 54) (spreadN (wsOf (markL xs 54))) ++ hashC (blockN (wsOf (markL xs 92)) startN) (markL xs 92) (spreadN (wsOf (markL xs 92))) = codeC xs := rfl
  rw [hCe] at row9
  obtain ⟨Cs, hCs⟩ : ∃ Cs, Cs = codeC xs := ⟨_, rfl⟩
  rw [← hCs] at row9 hCl hC1
  replace hCs : Hid (Cs = codeC xs) := hCs
  clear h9 g9 bel8 o8 hCe
  have hra := owns_range row9
  have hszC : (Tryz.prog.info? 170).map (·.size) = some Cs.length := by rw [hCl]; exact hsz0
  have hszC2 : (Tryz.prog.info? 170).map (·.size) = some Cs.toArray.size := by simpa using hszC
  have hth : w9.there w.heap.size 0 Cs.toArray.size := by rw [show Cs.toArray.size = 272 by simpa using hCl]; exact owns_there o9
  have hp := code_put o9 hCl
  have bfin : Below w.heap.size w (w9.setCells w.heap.size 0 Cs) := bel9.grown hp.2 bel9.size (fun k hk => by cases hk; exact Nat.le_refl _)
  have hld := run_loadVar_mid (P := Tryz.prog) _ w.heap.size 0 170 _ _ (owns_range hp.1) Tryz.underlying170 rfl hszC
  clear hp o9 row9
  go_wp2_with (first | (refine wpList_load_mid rfl 170 _ rfl g 0 rfl Cs _ hra Tryz.underlying170 rfl hszC ?_) | (refine wpList_store_mid rfl 170 _ _ rfl w.heap.size 0 Cs.toArray rfl rfl hth hszC2 (all_oneCell_toArray hC1) ?_))
  (try simp only [Exit.inBlock, Exit.then])
  refine bodyPost_ret (v := .agg Cs.toArray) ?_ rfl ⟨by rw [hCs.out], bfin⟩
  simp [results, asAddr, Act.put, hld]
set_option maxHeartbeats 400000 in
theorem newCode_big (p : Option Addr) (n c : Nat) (xs : List Int) (w : World) (hn : 64 < n) (hn2 : n ≤ 4000) (hx : xs.length = n) (h : BytesIn w p n xs) (hb : ∀ x ∈ xs, 0 ≤ x ∧ x < 256) (hKey : KeysIs w) :
    Calls Tryz.prog 139 #[.slice p n c] w fun e w' => e = .returned (.agg (codeC (kL xs)).toArray) ∧ Below w.heap.size w w' := by
  have hkk : kL xs = hashL xs := if_pos (by omega)
  rw [hkk]
  clear hkk
  have c1 : (64 : Int) < (n : Int) := by omega
  have hxk : (hashL xs).length = 32 := hashL_length (by omega)
  have hnk : 32 ≤ 64 := by decide
  have hz : Hid ((Tryz.prog.info? 170).map (fun i => (i.zero, i.size)) = some (some (.agg zCode.toArray), 272)) := infoCode
  have hzv := (zero_of_info hz.out).1
  have hsz0 := (zero_of_info hz.out).2
  have bC := build_code
  have m1 := zCode_made
  have CN := newHash_start
  have hA1 := aCode_one
  have hAl := aCode_length
  have hA2 : Hid (aCode = hashC startN zeroL zero64 ++ hashC startN zeroL zero64) := rfl
  have hlo := keys_lt hKey
  have bz : Below w.heap.size w (w.alloc (.cells zCode.toArray 170)) := (Below.refl _ _).alloc (Nat.le_refl _) _
  have oz := m1 w w.heap.size (Nat.le_refl _)
  obtain ⟨H0, hH0⟩ : ∃ H0, H0 = (hashC startN zeroL zero64).toArray := ⟨_, rfl⟩
  rw [← hH0] at CN
  simp only [← hH0] at bC
  obtain ⟨Z, hZ⟩ : ∃ Z, Z = zCode.toArray := ⟨_, rfl⟩
  rw [← hZ] at hzv oz bz
  simp only [← hZ] at m1
  generalize aCode = AC at bC hA1 hAl hA2
  have hzl := zCode_length
  generalize zCode = ZC at hz oz m1 hzl
  clear hz hH0 hZ
  go_enter Tryz.func139, Tryz.ntmps139
  go_wp2_with (fail)
  refine (implHash_yes p n _ xs _ hn2 hx (in_below h bz) hb (keys_below hKey bz)).mono ?_
  rintro e wk ⟨pk, ck, rfl, rk, bk0⟩
  have hHe : bytesL true (natsL (foldN (padL xs) (padN n / 64))) = hashL xs := by unfold hashL; rw [hx, if_pos hn2]
  rw [hHe] at rk
  have ik := rk.bytes
  have ok := owns_below oz bk0
  have bk := below_on bz bk0
  clear oz bz h hHe rk bk0
  obtain ⟨k, hkd⟩ : ∃ k, k = hashL xs := ⟨_, rfl⟩
  rw [← hkd] at hxk ik
  replace hkd : Hid (k = hashL xs) := hkd
  go_wp2_with (fail)
  refine (implStart_any _).mono ?_
  rintro e w1 ⟨p1, c1, rfl, r1, b1⟩
  go_wp2_with (fail)
  refine (CN _ _ _ r1.ints).mono ?_
  rintro e w2 ⟨rfl, b2⟩
  go_wp2_with (fail)
  refine (implStart_any _).mono ?_
  rintro e w3 ⟨p3, c3, rfl, r3, b3⟩
  go_wp2_with (fail)
  refine (CN _ _ _ r3.ints).mono ?_
  rintro e w4 ⟨rfl, b4⟩
  have B4 := below_on (below_on (below_on b1 b2) b3) b4
  clear r1 r3 b1 b2 b3 b4 CN
  have i4 := in_below ik B4
  have o4 := owns_below ok B4
  have bel4 := below_on bk B4
  clear ik ok bk B4
  have oa := m1 w4 w.heap.size bel4.size
  have ba : Below w4.heap.size w4 (w4.alloc (.cells Z 170)) := (Below.refl _ _).alloc (Nat.le_refl _) _
  have hth : (w4.alloc (.cells Z 170)).there w4.heap.size 0 AC.toArray.size := by rw [show AC.toArray.size = 272 by simpa using hAl]; exact owns_there oa
  have hszA : (Tryz.prog.info? 170).map (·.size) = some AC.toArray.size := by rw [show AC.toArray.size = 272 by simpa using hAl]; exact hsz0
  have hp := code_put oa hAl
  have bel5 : Below w.heap.size w ((w4.alloc (.cells Z 170)).setCells w4.heap.size 0 AC) := (below_on bel4 ba).grown hp.2 (below_on bel4 ba).size (fun k hk => by cases hk; exact bel4.size)
  have b45 : Below w4.heap.size w4 ((w4.alloc (.cells Z 170)).setCells w4.heap.size 0 AC) := ba.grown hp.2 ba.size (fun k hk => by cases hk; exact Nat.le_refl _)
  have i5 := in_below i4 b45
  have o5 := owns_below o4 b45
  have hc5 := hp.1
  have hg4 : w.heap.size < w4.heap.size := (o4.lt w.heap.size rfl).2
  have hfar : Hid (∀ bb oo, 0 < 32 → pk = some ⟨bb, oo, none⟩ → bb < w4.heap.size) := fun bb oo hpos e => by
    obtain ⟨b', o', e1, e2⟩ := i4 hpos
    rw [e1] at e
    simp only [Option.some.injEq, Addr.mk.injEq, and_true] at e
    have := World.block_lt_of_cell? w4 ⟨b', o' + 0, none⟩ (e2 0 hpos)
    rw [← e.1]
    exact this
  clear hp oa ba b45 bel4 i4 o4
  go_wp2_with (first | (refine wpList_build_runC rfl 170 #[(0, .tmp 10), (1, .tmp 12)] rfl #[(0, .agg H0), (1, .agg H0)] (by simp [Act.eval]) (bC _) ?_) | (refine wpList_store_mid rfl 170 _ _ rfl w4.heap.size 0 AC.toArray rfl rfl hth hszA (all_oneCell_toArray hA1) ?_))
  clear hth hszA bC hzv m1
  generalize (w4.alloc (.cells Z 170)).setCells w4.heap.size 0 AC = w5 at hc5 bel5 i5 o5 ⊢
  generalize w4.heap.size = g at hc5 hg4 hfar ⊢
  refine (markedKey_any pk 32 _ k 54 w5 hnk hxk i5).mono ?_
  rintro e w6 ⟨rfl, b6⟩
  rw [hA2.out] at hc5
  have h6 := code_first (by rfl) (by simp [zeroL]) (by simp [zero64]) (owns_below hc5 b6)
  rw [← zeroL_spread] at h6
  have bel6 := below_on bel5 b6
  have CT := take_any _ _ _ _ _ w.heap.size g startN zeroL (markL k 54) w6 startN_lt zeroL_byte (markL_length (by omega) 54) (markL_byte k 54) h6 (keys_below hKey bel6) hlo
  have i6 := in_below i5 b6
  have o6 := owns_below o5 b6
  clear h6 b6 hc5 i5 o5 bel5 hA1 hAl hA2
  go_wp2_with (fail)
  refine CT.mono ?_
  rintro e w7 ⟨rfl, h7, g7⟩
  clear CT
  have bel7 : Below w.heap.size w w7 := bel6.grown g7 bel6.size (fun k hk => by cases hk; omega)
  have i7 : BytesIn w7 pk 32 k := fun hpos => by
    obtain ⟨bb, oo, e1, e2⟩ := i6 hpos
    have hbg : bb < g := hfar.out bb oo hpos e1
    exact ⟨bb, oo, e1, fun i hi => (cell_grown (p := ⟨bb, oo + i, none⟩) g7 (World.block_lt_of_cell? w6 ⟨bb, oo + i, none⟩ (e2 i hi)) (show bb ≠ g by omega)).trans (e2 i hi)⟩
  have o7 := o6.kept g7 (.inr (by simp [Value.ownBlock]; omega))
  clear i6 o6 g7 bel6
  go_wp2_with (fail)
  refine (markedKey_any pk 32 _ k 92 w7 hnk hxk i7).mono ?_
  rintro e w8 ⟨rfl, b8⟩
  have h8 := code_second (blockN_length _ _) (markL_length (by omega) 54) (spreadN_length (wsOf_length _)) (by rfl) (by simp [zeroL]) (spreadN_length (wsOf_length _)) (owns_below h7.rowFirst b8)
  have bel8 := below_on bel7 b8
  have CT := take_any _ _ _ _ _ w.heap.size g startN zeroL (markL k 92) w8 startN_lt zeroL_byte (markL_length (by omega) 92) (markL_byte k 92) h8 (keys_below hKey bel8) hlo
  have o8 := owns_below o7 b8
  clear h8 b8 h7 i7 o7 bel7 hfar
  go_wp2_with (fail)
  refine CT.mono ?_
  rintro e w9 ⟨rfl, h9, g9⟩
  clear CT
  have bel9 : Below w.heap.size w w9 := bel8.grown g9 bel8.size (fun k hk => by cases hk; omega)
  have o9 := o8.kept g9 (.inr (by simp [Value.ownBlock]; omega))
  have row9 := h9.rowSecond
  have hCl := codeC_length (k := k) (by omega)
  have hC1 := codeC_one k
  have hCe : hashC (blockN (wsOf (markL k 54)) startN) (markL k 54) (spreadN (wsOf (markL k 54))) ++ hashC (blockN (wsOf (markL k 92)) startN) (markL k 92) (spreadN (wsOf (markL k 92))) = codeC k := rfl
  rw [hCe] at row9
  obtain ⟨Cs, hCs⟩ : ∃ Cs, Cs = codeC k := ⟨_, rfl⟩
  rw [← hCs] at row9 hCl hC1
  replace hCs : Hid (Cs = codeC k) := hCs
  clear h9 g9 bel8 o8 hCe
  have hra := owns_range row9
  have hszC : (Tryz.prog.info? 170).map (·.size) = some Cs.length := by rw [hCl]; exact hsz0
  have hszC2 : (Tryz.prog.info? 170).map (·.size) = some Cs.toArray.size := by simpa using hszC
  have hth : w9.there w.heap.size 0 Cs.toArray.size := by rw [show Cs.toArray.size = 272 by simpa using hCl]; exact owns_there o9
  have hp := code_put o9 hCl
  have bfin : Below w.heap.size w (w9.setCells w.heap.size 0 Cs) := bel9.grown hp.2 bel9.size (fun k hk => by cases hk; exact Nat.le_refl _)
  have hld := run_loadVar_mid (P := Tryz.prog) _ w.heap.size 0 170 _ _ (owns_range hp.1) Tryz.underlying170 rfl hszC
  clear hp o9 row9
  go_wp2_with (first | (refine wpList_load_mid rfl 170 _ rfl g 0 rfl Cs _ hra Tryz.underlying170 rfl hszC ?_) | (refine wpList_store_mid rfl 170 _ _ rfl w.heap.size 0 Cs.toArray rfl rfl hth hszC2 (all_oneCell_toArray hC1) ?_))
  (try simp only [Exit.inBlock, Exit.then])
  refine bodyPost_ret (v := .agg Cs.toArray) ?_ rfl ⟨by rw [hCs.out, hkd.out], bfin⟩
  simp [results, asAddr, Act.put, hld]
theorem newCode_any (p : Option Addr) (n c : Nat) (xs : List Int) (w : World) (hn : n ≤ 4000) (hx : xs.length = n) (h : BytesIn w p n xs) (hb : ∀ x ∈ xs, 0 ≤ x ∧ x < 256) (hKey : KeysIs w) :
    Calls Tryz.prog 139 #[.slice p n c] w fun e w' => e = .returned (.agg (codeC (kL xs)).toArray) ∧ Below w.heap.size w w' := by
  by_cases h64 : n ≤ 64
  · exact newCode_small p n c xs w h64 hx h hb hKey
  · exact newCode_big p n c xs w (by omega) hn hx h hb hKey
set_option maxHeartbeats 1000000 in
theorem implMac_yes (p q : Option Addr) (n m c d : Nat) (ks xs : List Int) (w : World) (hn : n ≤ 3936) (hm : m ≤ 3936) (hx : ks.length = n) (hy : xs.length = m) (h : BytesIn w p n ks) (h' : BytesIn w q m xs) (hb : ∀ x ∈ ks, 0 ≤ x ∧ x < 256) (hb' : ∀ x ∈ xs, 0 ≤ x ∧ x < 256) (hK : KeysIs w) :
    Calls Tryz.prog 141 #[.slice p n c, .slice q m d] w fun e w' => ∃ p' c', e = .returned (.slice p' 32 c') ∧ Own 5 w' w.heap.size w'.heap.size (.slice p' 32 c') 32 (ofL (kL ks) xs) ∧ Below w.heap.size w w' := by
  have d1 : ¬ (3936 : Int) < (n : Int) := by omega
  have d2 : ¬ (3936 : Int) < (m : Int) := by omega
  have CN := newCode_any p n c ks w (by omega) hx h hb hK
  have hkl := kL_length (key := ks) (by omega)
  have CO := fun X hX hKX => codeOf_any (kL ks) q m d xs X hkl hm hy hX hb' hKX
  generalize kL ks = kk at CN CO ⊢
  obtain ⟨Cs, hCs⟩ : ∃ Cs, Cs = (codeC kk).toArray := ⟨_, rfl⟩
  rw [← hCs] at CN CO
  clear hCs
  go_enter Tryz.func141, Tryz.ntmps141
  go_wp2_with (fail)
  refine CN.mono ?_
  rintro e w1 ⟨rfl, b1⟩
  clear CN
  go_wp2_with (fail)
  refine (CO _ (in_below h' b1) (keys_below hK b1)).mono ?_
  rintro e w2 ⟨p2, c2, rfl, r2, b2⟩
  go_wp2
  go_ret
  have hs := b1.size
  exact ⟨_, _, rfl, ⟨owns_mono r2.1 (by omega), r2.2⟩, below_on b1 b2⟩
theorem implMac_no (p q : Option Addr) (n m c d : Nat) (w : World) (hn : ¬ (n ≤ 3936 ∧ m ≤ 3936)) :
    Calls Tryz.prog 141 #[.slice p n c, .slice q m d] w fun e w' => ∃ p' c', e = .returned (.slice p' 0 c') ∧ Own 5 w' w.heap.size w'.heap.size (.slice p' 0 c') 0 [] ∧ Below w.heap.size w w' := by
  by_cases h1 : m ≤ 3936
  · have d1 : ¬ (3936 : Int) < (m : Int) := by omega
    have d2 : (3936 : Int) < (n : Int) := by omega
    go_enter Tryz.func141, Tryz.ntmps141
    go_wp2
    go_ret
    exact ⟨_, _, rfl, .of (World.ownsRow_nil _ _ _ _), Below.refl _ _⟩
  · have d1 : (3936 : Int) < (m : Int) := by omega
    go_enter Tryz.func141, Tryz.ntmps141
    go_wp2
    go_ret
    exact ⟨_, _, rfl, .of (World.ownsRow_nil _ _ _ _), Below.refl _ _⟩
theorem implMac_any (p q : Option Addr) (n m c d : Nat) (ks xs : List Int) (w : World) (hx : ks.length = n) (hy : xs.length = m) (h : BytesIn w p n ks) (h' : BytesIn w q m xs) (hb : ∀ x ∈ ks, 0 ≤ x ∧ x < 256) (hb' : ∀ x ∈ xs, 0 ≤ x ∧ x < 256) (hK : KeysIs w) :
    Calls Tryz.prog 141 #[.slice p n c, .slice q m d] w fun e w' => ∃ p' c', e = .returned (.slice p' (macN n m) c') ∧ Own 5 w' w.heap.size w'.heap.size (.slice p' (macN n m) c') (macN n m) (macL ks xs) ∧ Below w.heap.size w w' := by
  unfold macN macL
  rw [hx, hy]
  by_cases hn : n ≤ 3936 ∧ m ≤ 3936
  · rw [if_pos hn, if_pos hn]
    exact implMac_yes p q n m c d ks xs w hn.1 hn.2 hx hy h h' hb hb' hK
  · rw [if_neg hn, if_neg hn]
    exact implMac_no p q n m c d w hn
section
variable {P : Program} {e : TypeId} {i : TypeInfo} {base n m c k : Nat} {wr : World} {v u : Value} {p : Option Addr} {xs ys : List Int} {zs : List Value}
theorem list_push2 {ops : Array Oper} {rest : List Oper} {o : Oper} {a : Act} {Q : Exit → Act → World → Prop} (hi : P.info? e = some i) (hz : i.zero = some (.int .u8 0)) (hsize : i.size = 1) (hby : i.bytes = 1)
    (s y : Operand) (t : TypeId) (ht : P.underlying t = some (.slice e)) (x : Int) (hown : wr.ownsRow base e 1 v n (xs.map (Value.int .u8))) (hu : wr.ownsRow base e 1 u k zs) (hne : u.ownBlock ≠ v.ownBlock) (hn : n ≤ 1099511627776) (hbase : base ≤ wr.heap.size)
    (hgd : o.guard = none) (ho : o.op = .call { callee := .builtin .append, args := #[s, y], argTypes := #[t, t] }) (hs : a.eval s = v) (hy : a.eval y = .slice (some ⟨wr.heap.size, 0, none⟩) 1 1)
    (h : ∀ g cap w', w'.ownsRow base e 1 (.slice (some ⟨g, 0, none⟩) (n + 1) cap) (n + 1) ((xs ++ [x]).map (Value.int .u8)) → w'.ownsRow base e 1 u k zs → u.ownBlock ≠ some g → Below base wr w' → wpList P ops Q rest (a.put o.dst (.slice (some ⟨g, 0, none⟩) (n + 1) cap)) w') :
    wpList P ops Q (o :: rest) a (wr.alloc (.cells #[.int .u8 x] e)) := by
  refine wpList_append_lies _ hgd s y t ho base e i (.int .u8 0) 1 1 ht hi hz hsize hby rfl (by decide) v n (xs.map (Value.int .u8)) hs (hown.alloc _) ⟨wr.heap.size, 0, none⟩ 1 1 [.int .u8 x] hy rfl ?_ (fun u hu => by simp at hu; subst hu; rfl) (by decide) (pushs_fit hn (by decide)).1 (pushs_fit hn (by decide)).2 (by simp; omega) _ rfl ?_
  · exact World.news_of_block (cs := #[.int .u8 x]) (heap_alloc_new wr _)
  · intro g cap w' h1 h2 h3 _
    refine h g cap w' (by simpa using h1) ((hu.alloc _).kept h2 (.inr hne)) ?_ (((Below.refl _ _).alloc hbase _).grown h2 (by simp; omega) fun k hk => (hown.lt k hk).1)
    rcases h3 with h3 | h3
    · rw [← h3]; exact hne
    · intro hk
      have := (hu.lt g hk).2
      simp at h3
      omega
theorem list_spread2 {ops : Array Oper} {rest : List Oper} {o : Oper} {a : Act} {Q : Exit → Act → World → Prop} {q : Option Addr} {cq : Nat} (hi : P.info? e = some i) (hz : i.zero = some (.int .u8 0)) (hsize : i.size = 1) (hby : i.bytes = 1)
    (s y : Operand) (t : TypeId) (ht : P.underlying t = some (.slice e)) (hown : wr.ownsRow base e 1 (.slice q n cq) n (xs.map (Value.int .u8))) (hu : wr.ownsRow base e 1 u k zs) (hne : u.ownBlock ≠ (Value.slice q n cq).ownBlock) (hin : BytesIn wr p m ys) (hl : ys.length = m) (hm' : m ≤ 1099511627776)
    (hn : n ≤ 1099511627776) (hbase : base ≤ wr.heap.size)
    (hgd : o.guard = none) (ho : o.op = .call { callee := .builtin .append, args := #[s, y], argTypes := #[t, t] }) (hs : a.eval s = .slice q n cq) (hy : a.eval y = .slice p m c)
    (h : ∀ p' cap w', w'.ownsRow base e 1 (.slice p' (n + m) cap) (n + m) ((xs ++ ys).map (Value.int .u8)) → w'.ownsRow base e 1 u k zs → Below base wr w' → wpList P ops Q rest (a.put o.dst (.slice p' (n + m) cap)) w') :
    wpList P ops Q (o :: rest) a wr := by
  rcases Nat.eq_zero_or_pos m with h0 | h0
  · subst h0
    obtain rfl : ys = [] := List.eq_nil_of_length_eq_zero hl
    simp only [List.append_nil, Nat.add_zero] at h
    exact Lib.wpList_append_run wr hgd s y t t ho _ _ hs hy _ _ (append_empty wr t o.type e i ht hi q n cq p c (owns_cap hown)) (h _ _ _ hown hu (Below.refl _ _))
  · refine list_spread hi hz hsize hby s y t ht hown hin hl h0 hm' hn hbase hgd ho hs hy ?_
    intro g cap w' h1 h2 h3
    exact h _ _ _ h1 (hu.kept h2 (.inr hne)) h3
end
end Go.Proofs.YtnpffnhiefgglaaGreatDoor
