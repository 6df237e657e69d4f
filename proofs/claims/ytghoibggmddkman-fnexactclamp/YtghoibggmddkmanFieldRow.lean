/-
  Rows of ints in a block that the call made (arrays), by their parts; the specification's l8Carry. Condition: parts that are not too great.
-/
import Derived.Test.YtghoibggmddkmanFieldMul
import Derived.Deep.MidRow
import Derived.Deep.WholeRow
import Derived.BigRegion
import Derived.BigQuiet
namespace Go.Proofs.Ytghoibggmddkman
open Go.RowKit

def zL (f : Nat → Int) (n : Nat) : List Int := (List.range n).map f
def zV (f : Nat → Int) (n : Nat) : List Value := (zL f n).map (Value.int .i64)
theorem zL_length (f : Nat → Int) (n : Nat) : (zL f n).length = n := by simp [zL]
theorem zV_length (f : Nat → Int) (n : Nat) : (zV f n).length = n := by simp [zV, zL]
theorem zV_get (f : Nat → Int) {n k : Nat} (h : k < n) : (zV f n)[k]? = some (.int .i64 (f k)) := by simp [zV, zL, h]
theorem zV_one (f : Nat → Int) (n : Nat) : ∀ v ∈ zV f n, v.oneCell' = true := by
  intro v hv
  simp only [zV, List.mem_map] at hv
  obtain ⟨x, _, rfl⟩ := hv
  rfl
theorem zV_set (f : Nat → Int) (n k : Nat) (v : Int) : (zV f n).set k (.int .i64 v) = zV (fun i => if i = k then v else f i) n := by
  apply List.ext_getElem?
  intro j
  by_cases hj : j < n
  · by_cases hk : k = j
    · subst hk
      rw [List.getElem?_set_self (by rw [zV_length]; exact hj), zV_get _ hj]
      simp
    · rw [List.getElem?_set_ne hk, zV_get _ hj, zV_get _ hj]
      simp [Ne.symm hk]
  · rw [List.getElem?_eq_none (by simp [zV_length]; omega), List.getElem?_eq_none (by simp [zV_length]; omega)]
theorem zV_congr {f g : Nat → Int} {n : Nat} (h : ∀ i, i < n → f i = g i) : zV f n = zV g n := by
  have e : zL f n = zL g n := List.map_congr_left fun i hi => h i (List.mem_range.1 hi)
  rw [zV, e, zV]
/-- n ints in a block g of their own. -/
def RowZ (ty n : Nat) (w : World) (lo g : Nat) (f : Nat → Int) : Prop := w.ownsRow lo ty 1 (.slice (some ⟨g, 0, none⟩) n n) n (zV f n)
section
variable {ty n : Nat} {w w' : World} {lo g : Nat} {f : Nat → Int}
theorem RowZ.cell (h : RowZ ty n w lo g f) (i : Nat) (hi : i < n) : w.cell? ⟨g, i, none⟩ = some (.int .i64 (f i)) := by
  have h' : w.ownsRow lo ty 1 (.slice (some ⟨g, 0, none⟩) n n) n (zV f n) := h
  rw [h'.cellAt i (by omega), zV_get _ hi]
theorem RowZ.frozen (h : RowZ ty n w lo g f) (i : Nat) : w.frozen? ⟨g, i, none⟩ = false := World.ownsRow.frozenAt h i
theorem RowZ.lt (h : RowZ ty n w lo g f) : lo ≤ g ∧ g < w.heap.size := World.ownsRow.lt h g rfl
theorem RowZ.below (h : RowZ ty n w lo g f) (hb : Below w.heap.size w w') : RowZ ty n w' lo g f := owns_below h hb
theorem RowZ.kept {r : Nat} (h : RowZ ty n w lo g f) (hg : w.grownBy w' (some r)) (hne : g ≠ r) : RowZ ty n w' lo g f := World.ownsRow.kept h hg (.inr (by simp [Value.ownBlock]; exact fun e => hne e))
theorem RowZ.set (h : RowZ ty n w lo g f) (k : Nat) (v : Int) : RowZ ty n (w.setCell ⟨g, k, none⟩ (.int .i64 v)) lo g (fun i => if i = k then v else f i) ∧ w.grownBy (w.setCell ⟨g, k, none⟩ (.int .i64 v)) (some g) := by
  have st := World.ownsRow.stored h k (.int .i64 v)
  rw [zV_set] at st
  exact st
theorem RowZ.congr {f' : Nat → Int} (h : RowZ ty n w lo g f) (he : ∀ i, i < n → f i = f' i) : RowZ ty n w lo g f' := by
  unfold RowZ at *
  rw [← zV_congr he]
  exact h
theorem RowZ.made (w : World) (ty n lo : Nat) (f : Nat → Int) (hn : n ≤ 1000) (hlo : lo ≤ w.heap.size) : RowZ ty n (w.alloc (.cells (zV f n).toArray ty)) lo w.heap.size f := by
  refine ⟨by simp [zV_length], .inr ⟨w.heap.size, n, _, rfl, hlo, heap_alloc_new w _, Nat.le_refl _, by unfold maxLen; omega, by simp [zV_length], ?_⟩⟩
  rw [List.take_of_length_le (by simp [zV_length])]
theorem RowZ.range (h : RowZ ty n w lo g f) : w.rangeAt g 0 (zV f n) := by
  intro j v hv
  have hj : j < n := by have := (List.getElem?_eq_some_iff.1 hv).1; rwa [zV_length] at this
  rw [Nat.zero_add, World.ownsRow.cellAt h j (by omega), hv]
theorem RowZ.there (h : RowZ ty n w lo g f) : w.there g 0 n := by
  intro j hj
  rw [Nat.zero_add, h.cell j hj]
  exact ⟨rfl, h.frozen j⟩
theorem zPut {e c : Nat} (vs : List Value) : ∀ (o : Nat) (w : World) (xs : List Value), o + vs.length = n → xs.length = n → w.ownsRow lo e 1 (.slice (some ⟨g, 0, none⟩) n c) n xs →
    (w.setCells g o vs).ownsRow lo e 1 (.slice (some ⟨g, 0, none⟩) n c) n (xs.take o ++ vs) ∧ w.grownBy (w.setCells g o vs) (some g) := by
  induction vs with
  | nil =>
    intro o w xs h1 h2 h
    rw [List.append_nil, List.take_of_length_le (by simp at h1; omega)]
    exact ⟨h, World.grownBy.refl _ _⟩
  | cons v r ih =>
    intro o w xs h1 h2 h
    have k1 := h.stored o v
    have k2 := ih (o + 1) _ _ (by simp at h1; omega) (by simpa using h2) k1.1
    have e : (xs.set o v).take (o + 1) = xs.take o ++ [v] := by
      rw [List.take_succ_eq_append_getElem (by simp at h1 ⊢; omega), List.take_set_of_le (Nat.le_refl _)]
      simp
    rw [e, List.append_assoc] at k2
    exact ⟨k2.1, grown_trans k1.2 k2.2⟩
theorem RowZ.put {f' : Nat → Int} (h : RowZ ty n w lo g f) : RowZ ty n (w.setCells g 0 (zV f' n)) lo g f' ∧ w.grownBy (w.setCells g 0 (zV f' n)) (some g) := by
  have k := zPut (zV f' n) 0 w (zV f n) (by rw [zV_length]; omega) (zV_length f n) h
  refine ⟨?_, k.2⟩
  have k1 := k.1
  rw [List.take_zero, List.nil_append] at k1
  exact k1
end
theorem infoZ16 : (Try.prog.info? 31).map (fun i => (i.zero, i.size)) = some (some (.agg (zV (fun _ => 0) 16).toArray), 16) := by kernel_rfl

/-- The parts in the midst of a carrying. -/
def cryK (f : Nat → Int) (k i : Nat) : Int := if i < k then (if i = 0 ∧ k = 16 then digZ f 0 + 38 * carZ f 16 else digZ f i) else if i = k then f k + carZ f k else f i
theorem cryK_end (f : Nat → Int) : zV (cryK f 16) 16 = zV (cryZ f) 16 := zV_congr fun i hi => by
  unfold cryK cryZ
  rw [if_pos hi]
  by_cases h : i = 0
  · subst h; simp
  · simp [h]

set_option maxRecDepth 100000 in
set_option maxHeartbeats 4000000 in
theorem l8Carry_any (f : Nat → Int) (w : World) (h1 : ∀ i, -140737488355328 ≤ f i) (h2 : ∀ i, f i ≤ 140737488355328) :
    Calls Try.prog 40 #[.agg (zV f 16).toArray] w fun e w' => e = .returned (.agg (zV (cryZ f) 16).toArray) ∧ Below w.heap.size w w' := by
  have hz := (zero_of_info infoZ16).1
  have hsz0 := (zero_of_info infoZ16).2
  have HC : Hid (∀ k, -2147516418 ≤ carZ f k ∧ carZ f k ≤ 2147516417) := fun k => by
    have := carZ_le (f := f) (M := 2147516417) (fun i => by have := h1 i; omega) (fun i => by have := h2 i; omega) (by omega) k
    omega
  have m0 := RowZ.made w 31 16 w.heap.size f (by decide) (Nat.le_refl _)
  obtain ⟨A, hA⟩ : ∃ A, A = (zV f 16).toArray := ⟨_, rfl⟩
  rw [← hA] at m0 ⊢
  have ba : Below w.heap.size w (w.alloc (.cells A 31)) := (Below.refl _ _).alloc (Nat.le_refl _) _
  have sa : (w.alloc (.cells A 31)).heap.size = w.heap.size + 1 := by simp
  have m1 := RowZ.made (w.alloc (.cells A 31)) 31 16 w.heap.size (fun _ => 0) (by decide) (by omega)
  obtain ⟨Z, hZ⟩ : ∃ Z, Z = (zV (fun _ => 0) 16).toArray := ⟨_, rfl⟩
  rw [← hZ] at hz m1
  clear hZ hA
  have bb : Below (w.alloc (.cells A 31)).heap.size (w.alloc (.cells A 31)) ((w.alloc (.cells A 31)).alloc (.cells Z 31)) := (Below.refl _ _).alloc (Nat.le_refl _) _
  have h20 := m0.below bb
  have bel := below_on ba bb
  rw [sa] at m1
  go_enter Try.func40, Try.ntmps40
  go_wp2_with (fail)
  obtain ⟨GR, hGR⟩ : ∃ GR, GR = w.heap.size + 1 := ⟨_, rfl⟩
  rw [← hGR] at m1 ⊢
  have hne : GR ≠ w.heap.size := by omega
  generalize (w.alloc (.cells A 31)).alloc (.cells Z 31) = wb at h20 m1 bel ⊢
  have hs0 : RowZ 31 16 wb w.heap.size w.heap.size (cryK f 0) := h20.congr fun i _ => by
    unfold cryK
    rw [if_neg (by omega)]
    split
    · rename_i h; subst h; simp [carZ]
    · rfl
  clear m0 ba sa bb h20 hGR hz
  go_loopw [3] (fun i wr => ∃ k : Nat, k ≤ 16 ∧ i = .int .i64 k ∧ RowZ 31 16 wr w.heap.size w.heap.size (cryK f k) ∧ wb.grownBy wr (some w.heap.size))
    (fun i _ => 16 - (intOf i).toNat)
  case atStart => exact ⟨0, by omega, rfl, hs0, World.grownBy.refl _ _⟩
  case round =>
    clear hs0
    obtain ⟨k, hk, rfl, hr, hgr⟩ := hrel
    by_cases hlt : k < 16
    · have hlt' : (k : Int) < 16 := by omega
      have c0 := hr.cell k hlt
      have e0 : cryK f k k = f k + carZ f k := by unfold cryK; rw [if_neg (by omega), if_pos rfl]
      rw [e0] at c0
      have f0 := hr.frozen k
      have hx : -140739635871747 ≤ f k + carZ f k ∧ f k + carZ f k ≤ 140739635871746 := by
        have := HC.out k
        have := h1 k
        have := h2 k
        omega
      have HQ : Hid (carZ f (k + 1) = (f k + carZ f k) / 65536) := rfl
      have HD : Hid (digZ f k = (f k + carZ f k) % 65536) := rfl
      have r1 := hr.set k (f k + carZ f k + 65536)
      have hq := HC.out (k + 1)
      rw [HQ.out] at hq
      obtain ⟨x, hxe⟩ : ∃ x, x = f k + carZ f k := ⟨_, rfl⟩
      rw [← hxe] at c0 hx r1 HQ HD hq
      obtain ⟨y, hy⟩ : ∃ y, y = x + 65536 := ⟨_, rfl⟩
      rw [← hy] at r1
      have c1 := r1.1.cell k hlt
      simp only [if_true] at c1
      have f1 := r1.1.frozen k
      obtain ⟨q, hqe⟩ : ∃ q, q = x / 65536 := ⟨_, rfl⟩
      rw [← hqe] at hq HQ
      have ey : x + 65536 = y := hy.symm
      obtain ⟨cc, hcc⟩ : ∃ cc, cc = q + 1 := ⟨_, rfl⟩
      have es : y / 65536 = cc := by omega
      have ec1 : cc - 1 = q := by omega
      obtain ⟨sh, hsh⟩ : ∃ sh, sh = cc * 65536 := ⟨_, rfl⟩
      have esh : cc * 65536 = sh := hsh.symm
      obtain ⟨dg, hdg⟩ : ∃ dg, dg = x % 65536 := ⟨_, rfl⟩
      rw [← hdg] at HD
      have ed : y - sh = dg := by omega
      have ly : -140739635871747 ≤ y ∧ y ≤ 140739635937282 := by omega
      have lc : -2147516417 ≤ cc ∧ cc ≤ 2147516418 := by omega
      have lsh : -140739635871747 ≤ sh ∧ sh ≤ 140739635970048 := by omega
      have wsh : IntKind.i64.wrap (cc * 65536) = sh := by rw [IntKind.wrap_i64]; omega
      by_cases h15 : k < 15
      · have h15' : (k : Int) < 15 := by omega
        obtain ⟨k1, hk1⟩ : ∃ k1 : Nat, k1 = k + 1 := ⟨_, rfl⟩
        have ek1 : (k : Int) + 1 = (k1 : Int) := by omega
        have lk1 : (k1 : Int) < 16 := by omega
        have cn := r1.1.cell k1 (by omega)
        have en : (if k1 = k then y else cryK f k k1) = f k1 := by
          rw [if_neg (by omega)]
          unfold cryK
          rw [if_neg (by omega), if_neg (by omega)]
        rw [en] at cn
        have fn := r1.1.frozen k1
        have r2 := r1.1.set k1 (f k1 + q)
        have c2 := r2.1.cell k hlt
        have e2 : (if k = k1 then f k1 + q else if k = k then y else cryK f k k) = y := by rw [if_neg (by omega), if_pos rfl]
        rw [e2] at c2
        have f2 := r2.1.frozen k
        have r3 := r2.1.set k dg
        have HF : RowZ 31 16 _ w.heap.size w.heap.size (cryK f (k + 1)) := r3.1.congr fun i hi => by
          unfold cryK
          by_cases a1 : i = k
          · subst a1
            rw [if_pos rfl, if_pos (by omega), if_neg (by omega), HD.out]
          · rw [if_neg a1]
            by_cases a2 : i = k1
            · subst a2
              rw [if_pos rfl, if_neg (by omega), if_pos (by omega), hk1, HQ.out]
            · rw [if_neg a2, if_neg a1]
              by_cases a3 : i < k
              · rw [if_pos a3, if_neg (by omega), if_pos (by omega), if_neg (by omega)]
              · rw [if_neg a3, if_neg (by omega), if_neg (by omega)]
                first | rfl | (rw [if_neg (by omega)])
        have hgr' := grown_trans hgr (grown_trans r1.2 (grown_trans r2.2 r3.2))
        have ln := h1 k1
        have ln2 := h2 k1
        generalize f k1 = a at cn fn r2 c2 f2 r3 HF hgr' ln ln2
        obtain ⟨a2, ha2⟩ : ∃ a2, a2 = a + cc := ⟨_, rfl⟩
        have ea2 : a + cc = a2 := ha2.symm
        obtain ⟨a3, ha3⟩ : ∃ a3, a3 = a + q := ⟨_, rfl⟩
        have ea3 : a2 - 1 = a3 := by omega
        rw [← ha3] at c2 f2 HF hgr'
        have la2 : -140739635871747 ≤ a2 ∧ a2 ≤ 140739635937282 := by omega
        clear r1 r2 r3 hr hgr hy hxe hcc hqe hsh hdg ha2 ha3 hk1 HQ HD hq
        go_wp2_with (fail)
        go_roundw
        case rel => exact ⟨k + 1, by omega, by go_num, HF, hgr'⟩
        case measure => simp [intOf]; omega
      · obtain rfl : k = 15 := by omega
        have h15' : ¬ ((15 : Nat) : Int) < 15 := by omega
        have cn := r1.1.cell 0 (by omega)
        have en : (if 0 = 15 then y else cryK f 15 0) = digZ f 0 := by
          rw [if_neg (by omega)]
          unfold cryK
          rw [if_pos (by omega), if_neg (by omega)]
        rw [en] at cn
        have fn := r1.1.frozen 0
        have r2 := r1.1.set 0 (digZ f 0 + 38 * q)
        have c2 := r2.1.cell 15 hlt
        have e2 : (if 15 = 0 then digZ f 0 + 38 * q else if 15 = 15 then y else cryK f 15 15) = y := by rw [if_neg (by omega), if_pos rfl]
        rw [e2] at c2
        have f2 := r2.1.frozen 15
        have r3 := r2.1.set 15 dg
        have HF : RowZ 31 16 _ w.heap.size w.heap.size (cryK f (15 + 1)) := r3.1.congr fun i hi => by
          unfold cryK
          by_cases a1 : i = 15
          · subst a1
            rw [if_pos rfl, if_pos (by omega), if_neg (by omega), HD.out]
          · rw [if_neg a1]
            by_cases a2 : i = 0
            · subst a2
              rw [if_pos rfl, if_pos (by omega), if_pos (by omega), HQ.out]
            · rw [if_neg a2, if_neg a1, if_pos (by omega), if_neg (by omega), if_pos (by omega), if_neg (by omega)]
        have hgr' := grown_trans hgr (grown_trans r1.2 (grown_trans r2.2 r3.2))
        have ln := digZ_range f 0
        generalize digZ f 0 = a at cn fn r2 c2 f2 r3 HF hgr' ln
        obtain ⟨q3, hq3⟩ : ∃ q3, q3 = 38 * q := ⟨_, rfl⟩
        have eq3 : 38 * q = q3 := hq3.symm
        obtain ⟨a3, ha3⟩ : ∃ a3, a3 = a + 38 * q := ⟨_, rfl⟩
        have ea3 : a + q3 = a3 := by omega
        rw [← ha3] at c2 f2 HF hgr'
        have lq3 : -81605623884 ≤ q3 ∧ q3 ≤ 81605623846 := by omega
        clear r1 r2 r3 hr hgr hy hxe hcc hqe hsh hdg ha3 hq3 HQ HD hq
        go_wp2_with (fail)
        go_roundw
        case rel => exact ⟨15 + 1, by omega, by go_num, HF, hgr'⟩
        case measure => simp [intOf]
    · obtain rfl : k = 16 := by omega
      have hnl : ¬ ((16 : Nat) : Int) < 16 := by omega
      have hr16 : RowZ 31 16 wr w.heap.size w.heap.size (cryZ f) := by
        unfold RowZ at *
        rw [← cryK_end]
        exact hr
      have hra := hr16.range
      have hk2 := m1.kept hgr hne
      have hsC : (zV (cryZ f) 16).toArray.size = 16 := by simp [zV_length]
      have hsz : (Try.prog.info? 31).map (·.size) = some (zV (cryZ f) 16).length := by rw [zV_length]; exact hsz0
      have hsz2 : (Try.prog.info? 31).map (·.size) = some (zV (cryZ f) 16).toArray.size := by rw [hsC]; exact hsz0
      have hth2 : wr.there GR 0 (zV (cryZ f) 16).toArray.size := by rw [hsC]; exact hk2.there
      have hp := hk2.put (f' := cryZ f)
      have hbel : Below w.heap.size w (wr.setCells GR 0 (zV (cryZ f) 16)) := (bel.grown hgr bel.size (fun k hk => by cases hk; exact Nat.le_refl _)).grown hp.2 (Nat.le_trans bel.size hgr.size) (fun k hk => by cases hk; exact m1.lt.1)
      have hld := run_loadVar_mid (P := Try.prog) _ GR 0 31 _ _ hp.1.range Try.underlying31 rfl hsz
      have hone := zV_one (cryZ f) 16
      obtain ⟨Cs, hCs⟩ : ∃ Cs, Cs = zV (cryZ f) 16 := ⟨_, rfl⟩
      rw [← hCs] at hra hsz hsz2 hth2 hbel hld hone
      replace hCs : Hid (Cs = zV (cryZ f) 16) := hCs
      clear hp hk2 hr hr16 hgr m1 bel HC hsC
      go_wp2_with (first | (refine wpList_load_mid rfl 31 _ rfl w.heap.size 0 rfl Cs _ hra Try.underlying31 rfl hsz ?_) | (refine wpList_store_mid rfl 31 _ _ rfl GR 0 Cs.toArray rfl rfl hth2 hsz2 (all_oneCell_toArray hone) ?_))
      (try simp only [Exit.inBlock, Exit.then])
      refine bodyPost_ret (v := .agg Cs.toArray) ?_ rfl ⟨by rw [hCs.out], hbel⟩
      simp [results, asAddr, hld]

end Go.Proofs.Ytghoibggmddkman
