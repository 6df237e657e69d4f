/-
  Rows of ints in a block that the call made (arrays), by their parts; the specification's l8Carry. Condition: parts that are not too great.
  What the specification's l8Add and l8Sub answer: each part with its fellow. Condition: parts that are not too great.
  What the specification's l8Of answers: 32 bytes as 16 parts, the highest bit left away. Condition: bytes.
  What the specification's l8Mul answers: the product of two numbers, carried twice. Condition: parts that are not too great.
  What the specification's l8Inv answers: a number to the power p less 2, as parts. Condition: parts that are not too great.
-/
import Derived.Test.YtdjdanpicbaieaaGreatDoorParx02
import Derived.Deep.MidRow
import Derived.Deep.WholeRow
import Derived.BigRegion
import Derived.BigQuiet
namespace Go.Proofs.YtdjdanpicbaieaaGreatDoor
open Go.RowKit

def zL (f : Nat → Int) (n : Nat) : List Int := (List.range n).map f
def zV (f : Nat → Int) (n : Nat) : List Value := (zL f n).map (Value.int .i64)
theorem zL_length (f : Nat → Int) (n : Nat) : (zL f n).length = n := by simp [zL]
theorem zV_length (f : Nat → Int) (n : Nat) : (zV f n).length = n := by simp [zV, zL]
theorem zV_get (f : Nat → Int) {n k : Nat} (h : k < n) : (zV f n)[k]? = some (.int .i64 (f k)) := by simp [zV, zL, h]
theorem zV_one (f : Nat → Int) (n : Nat) : ∀ v ∈ zV f n, v.oneCell' = true := by
  intro v hv
  simp only [zV, List.mem_map] at hv
  obtain ⟨x, _, rfl⟩ := hv
  rfl
theorem zV_set (f : Nat → Int) (n k : Nat) (v : Int) : (zV f n).set k (.int .i64 v) = zV (fun i => if i = k then v else f i) n := by
  apply List.ext_getElem?
  intro j
  by_cases hj : j < n
  · by_cases hk : k = j
    · subst hk
      rw [List.getElem?_set_self (by rw [zV_length]; exact hj), zV_get _ hj]
      simp
    · rw [List.getElem?_set_ne hk, zV_get _ hj, zV_get _ hj]
      simp [Ne.symm hk]
  · rw [List.getElem?_eq_none (by simp [zV_length]; omega), List.getElem?_eq_none (by simp [zV_length]; omega)]
theorem zV_congr {f g : Nat → Int} {n : Nat} (h : ∀ i, i < n → f i = g i) : zV f n = zV g n := by
  have e : zL f n = zL g n := List.map_congr_left fun i hi => h i (List.mem_range.1 hi)
  rw [zV, e, zV]
/-- n ints in a block g of their own. -/
def RowZ (ty n : Nat) (w : World) (lo g : Nat) (f : Nat → Int) : Prop := w.ownsRow lo ty 1 (.slice (some ⟨g, 0, none⟩) n n) n (zV f n)
section
variable {ty n : Nat} {w w' : World} {lo g : Nat} {f : Nat → Int}
theorem RowZ.cell (h : RowZ ty n w lo g f) (i : Nat) (hi : i < n) : w.cell? ⟨g, i, none⟩ = some (.int .i64 (f i)) := by
  have h' : w.ownsRow lo ty 1 (.slice (some ⟨g, 0, none⟩) n n) n (zV f n) := h
  rw [h'.cellAt i (by omega), zV_get _ hi]
theorem RowZ.frozen (h : RowZ ty n w lo g f) (i : Nat) : w.frozen? ⟨g, i, none⟩ = false := World.ownsRow.frozenAt h i
theorem RowZ.lt (h : RowZ ty n w lo g f) : lo ≤ g ∧ g < w.heap.size := World.ownsRow.lt h g rfl
theorem RowZ.below (h : RowZ ty n w lo g f) (hb : Below w.heap.size w w') : RowZ ty n w' lo g f := owns_below h hb
theorem RowZ.kept {r : Nat} (h : RowZ ty n w lo g f) (hg : w.grownBy w' (some r)) (hne : g ≠ r) : RowZ ty n w' lo g f := World.ownsRow.kept h hg (.inr (by simp [Value.ownBlock]; exact fun e => hne e))
theorem RowZ.set (h : RowZ ty n w lo g f) (k : Nat) (v : Int) : RowZ ty n (w.setCell ⟨g, k, none⟩ (.int .i64 v)) lo g (fun i => if i = k then v else f i) ∧ w.grownBy (w.setCell ⟨g, k, none⟩ (.int .i64 v)) (some g) := by
  have st := World.ownsRow.stored h k (.int .i64 v)
  rw [zV_set] at st
  exact st
theorem RowZ.congr {f' : Nat → Int} (h : RowZ ty n w lo g f) (he : ∀ i, i < n → f i = f' i) : RowZ ty n w lo g f' := by
  unfold RowZ at *
  rw [← zV_congr he]
  exact h
theorem RowZ.made (w : World) (ty n lo : Nat) (f : Nat → Int) (hn : n ≤ 1000) (hlo : lo ≤ w.heap.size) : RowZ ty n (w.alloc (.cells (zV f n).toArray ty)) lo w.heap.size f := by
  refine ⟨by simp [zV_length], .inr ⟨w.heap.size, n, _, rfl, hlo, heap_alloc_new w _, Nat.le_refl _, by unfold maxLen; omega, by simp [zV_length], ?_⟩⟩
  rw [List.take_of_length_le (by simp [zV_length])]
theorem RowZ.range (h : RowZ ty n w lo g f) : w.rangeAt g 0 (zV f n) := by
  intro j v hv
  have hj : j < n := by have := (List.getElem?_eq_some_iff.1 hv).1; rwa [zV_length] at this
  rw [Nat.zero_add, World.ownsRow.cellAt h j (by omega), hv]
theorem RowZ.there (h : RowZ ty n w lo g f) : w.there g 0 n := by
  intro j hj
  rw [Nat.zero_add, h.cell j hj]
  exact ⟨rfl, h.frozen j⟩
theorem zPut {e c : Nat} (vs : List Value) : ∀ (o : Nat) (w : World) (xs : List Value), o + vs.length = n → xs.length = n → w.ownsRow lo e 1 (.slice (some ⟨g, 0, none⟩) n c) n xs →
    (w.setCells g o vs).ownsRow lo e 1 (.slice (some ⟨g, 0, none⟩) n c) n (xs.take o ++ vs) ∧ w.grownBy (w.setCells g o vs) (some g) := by
  induction vs with
  | nil =>
    intro o w xs h1 h2 h
    rw [List.append_nil, List.take_of_length_le (by simp at h1; omega)]
    exact ⟨h, World.grownBy.refl _ _⟩
  | cons v r ih =>
    intro o w xs h1 h2 h
    have k1 := h.stored o v
    have k2 := ih (o + 1) _ _ (by simp at h1; omega) (by simpa using h2) k1.1
    have e : (xs.set o v).take (o + 1) = xs.take o ++ [v] := by
      rw [List.take_succ_eq_append_getElem (by simp at h1 ⊢; omega), List.take_set_of_le (Nat.le_refl _)]
      simp
    rw [e, List.append_assoc] at k2
    exact ⟨k2.1, grown_trans k1.2 k2.2⟩
theorem RowZ.put {f' : Nat → Int} (h : RowZ ty n w lo g f) : RowZ ty n (w.setCells g 0 (zV f' n)) lo g f' ∧ w.grownBy (w.setCells g 0 (zV f' n)) (some g) := by
  have k := zPut (zV f' n) 0 w (zV f n) (by rw [zV_length]; omega) (zV_length f n) h
  refine ⟨?_, k.2⟩
  have k1 := k.1
  rw [List.take_zero, List.nil_append] at k1
  exact k1
end
theorem infoZ16 : (Tryz.prog.info? 108).map (fun i => (i.zero, i.size)) = some (some (.agg (zV (fun _ => 0) 16).toArray), 16) := by kernel_rfl

/-- The parts in the midst of a carrying. -/
def cryK (f : Nat → Int) (k i : Nat) : Int := if i < k then (if i = 0 ∧ k = 16 then digZ f 0 + 38 * carZ f 16 else digZ f i) else if i = k then f k + carZ f k else f i
theorem cryK_end (f : Nat → Int) : zV (cryK f 16) 16 = zV (cryZ f) 16 := zV_congr fun i hi => by
  unfold cryK cryZ
  rw [if_pos hi]
  by_cases h : i = 0
  · subst h; simp
  · simp [h]

set_option maxRecDepth 100000 in
set_option maxHeartbeats 4000000 in
theorem l8Carry_any (f : Nat → Int) (w : World) (h1 : ∀ i, -140737488355328 ≤ f i) (h2 : ∀ i, f i ≤ 140737488355328) :
    Calls Tryz.prog 155 #[.agg (zV f 16).toArray] w fun e w' => e = .returned (.agg (zV (cryZ f) 16).toArray) ∧ Below w.heap.size w w' := by
  have hz := (zero_of_info infoZ16).1
  have hsz0 := (zero_of_info infoZ16).2
  have HC : Hid (∀ k, -2147516418 ≤ carZ f k ∧ carZ f k ≤ 2147516417) := fun k => by
    have := carZ_le (f := f) (M := 2147516417) (fun i => by have := h1 i; omega) (fun i => by have := h2 i; omega) (by omega) k
    omega
  have m0 := RowZ.made w 108 16 w.heap.size f (by decide) (Nat.le_refl _)
  obtain ⟨A, hA⟩ : ∃ A, A = (zV f 16).toArray := ⟨_, rfl⟩
  rw [← hA] at m0 ⊢
  have ba : Below w.heap.size w (w.alloc (.cells A 108)) := (Below.refl _ _).alloc (Nat.le_refl _) _
  have sa : (w.alloc (.cells A 108)).heap.size = w.heap.size + 1 := by simp
  have m1 := RowZ.made (w.alloc (.cells A 108)) 108 16 w.heap.size (fun _ => 0) (by decide) (by omega)
  obtain ⟨Z, hZ⟩ : ∃ Z, Z = (zV (fun _ => 0) 16).toArray := ⟨_, rfl⟩
  rw [← hZ] at hz m1
  clear hZ hA
  have bb : Below (w.alloc (.cells A 108)).heap.size (w.alloc (.cells A 108)) ((w.alloc (.cells A 108)).alloc (.cells Z 108)) := (Below.refl _ _).alloc (Nat.le_refl _) _
  have h20 := m0.below bb
  have bel := below_on ba bb
  rw [sa] at m1
  go_enter Tryz.func155, Tryz.ntmps155
  go_wp2_with (fail)
  obtain ⟨GR, hGR⟩ : ∃ GR, GR = w.heap.size + 1 := ⟨_, rfl⟩
  rw [← hGR] at m1 ⊢
  have hne : GR ≠ w.heap.size := by omega
  generalize (w.alloc (.cells A 108)).alloc (.cells Z 108) = wb at h20 m1 bel ⊢
  have hs0 : RowZ 108 16 wb w.heap.size w.heap.size (cryK f 0) := h20.congr fun i _ => by
    unfold cryK
    rw [if_neg (by omega)]
    split
    · rename_i h; subst h; simp [carZ]
    · rfl
  clear m0 ba sa bb h20 hGR hz
  go_loopw [3] (fun i wr => ∃ k : Nat, k ≤ 16 ∧ i = .int .i64 k ∧ RowZ 108 16 wr w.heap.size w.heap.size (cryK f k) ∧ wb.grownBy wr (some w.heap.size))
    (fun i _ => 16 - (intOf i).toNat)
  case atStart => exact ⟨0, by omega, rfl, hs0, World.grownBy.refl _ _⟩
  case round =>
    clear hs0
    obtain ⟨k, hk, rfl, hr, hgr⟩ := hrel
    by_cases hlt : k < 16
    · have hlt' : (k : Int) < 16 := by omega
      have c0 := hr.cell k hlt
      have e0 : cryK f k k = f k + carZ f k := by unfold cryK; rw [if_neg (by omega), if_pos rfl]
      rw [e0] at c0
      have f0 := hr.frozen k
      have hx : -140739635871747 ≤ f k + carZ f k ∧ f k + carZ f k ≤ 140739635871746 := by
        have := HC.out k
        have := h1 k
        have := h2 k
        omega
      have HQ : Hid (carZ f (k + 1) = (f k + carZ f k) / 65536) := rfl
      have HD : Hid (digZ f k = (f k + carZ f k) % 65536) := rfl
      have r1 := hr.set k (f k + carZ f k + 65536)
      have hq := HC.out (k + 1)
      rw [HQ.out] at hq
      obtain ⟨x, hxe⟩ : ∃ x, x = f k + carZ f k := ⟨_, rfl⟩
      rw [← hxe] at c0 hx r1 HQ HD hq
      obtain ⟨y, hy⟩ : ∃ y, y = x + 65536 := ⟨_, rfl⟩
      rw [← hy] at r1
      have c1 := r1.1.cell k hlt
      simp only [if_true] at c1
      have f1 := r1.1.frozen k
      obtain ⟨q, hqe⟩ : ∃ q, q = x / 65536 := ⟨_, rfl⟩
      rw [← hqe] at hq HQ
      have ey : x + 65536 = y := hy.symm
      obtain ⟨cc, hcc⟩ : ∃ cc, cc = q + 1 := ⟨_, rfl⟩
      have es : y / 65536 = cc := by omega
      have ec1 : cc - 1 = q := by omega
      obtain ⟨sh, hsh⟩ : ∃ sh, sh = cc * 65536 := ⟨_, rfl⟩
      have esh : cc * 65536 = sh := hsh.symm
      obtain ⟨dg, hdg⟩ : ∃ dg, dg = x % 65536 := ⟨_, rfl⟩
      rw [← hdg] at HD
      have ed : y - sh = dg := by omega
      have ly : -140739635871747 ≤ y ∧ y ≤ 140739635937282 := by omega
      have lc : -2147516417 ≤ cc ∧ cc ≤ 2147516418 := by omega
      have lsh : -140739635871747 ≤ sh ∧ sh ≤ 140739635970048 := by omega
      have wsh : IntKind.i64.wrap (cc * 65536) = sh := by rw [IntKind.wrap_i64]; omega
      by_cases h15 : k < 15
      · have h15' : (k : Int) < 15 := by omega
        obtain ⟨k1, hk1⟩ : ∃ k1 : Nat, k1 = k + 1 := ⟨_, rfl⟩
        have ek1 : (k : Int) + 1 = (k1 : Int) := by omega
        have lk1 : (k1 : Int) < 16 := by omega
        have cn := r1.1.cell k1 (by omega)
        have en : (if k1 = k then y else cryK f k k1) = f k1 := by
          rw [if_neg (by omega)]
          unfold cryK
          rw [if_neg (by omega), if_neg (by omega)]
        rw [en] at cn
        have fn := r1.1.frozen k1
        have r2 := r1.1.set k1 (f k1 + q)
        have c2 := r2.1.cell k hlt
        have e2 : (if k = k1 then f k1 + q else if k = k then y else cryK f k k) = y := by rw [if_neg (by omega), if_pos rfl]
        rw [e2] at c2
        have f2 := r2.1.frozen k
        have r3 := r2.1.set k dg
        have HF : RowZ 108 16 _ w.heap.size w.heap.size (cryK f (k + 1)) := r3.1.congr fun i hi => by
          unfold cryK
          by_cases a1 : i = k
          · subst a1
            rw [if_pos rfl, if_pos (by omega), if_neg (by omega), HD.out]
          · rw [if_neg a1]
            by_cases a2 : i = k1
            · subst a2
              rw [if_pos rfl, if_neg (by omega), if_pos (by omega), hk1, HQ.out]
            · rw [if_neg a2, if_neg a1]
              by_cases a3 : i < k
              · rw [if_pos a3, if_neg (by omega), if_pos (by omega), if_neg (by omega)]
              · rw [if_neg a3, if_neg (by omega), if_neg (by omega)]
                first | rfl | (rw [if_neg (by omega)])
        have hgr' := grown_trans hgr (grown_trans r1.2 (grown_trans r2.2 r3.2))
        have ln := h1 k1
        have ln2 := h2 k1
        generalize f k1 = a at cn fn r2 c2 f2 r3 HF hgr' ln ln2
        obtain ⟨a2, ha2⟩ : ∃ a2, a2 = a + cc := ⟨_, rfl⟩
        have ea2 : a + cc = a2 := ha2.symm
        obtain ⟨a3, ha3⟩ : ∃ a3, a3 = a + q := ⟨_, rfl⟩
        have ea3 : a2 - 1 = a3 := by omega
        rw [← ha3] at c2 f2 HF hgr'
        have la2 : -140739635871747 ≤ a2 ∧ a2 ≤ 140739635937282 := by omega
        clear r1 r2 r3 hr hgr hy hxe hcc hqe hsh hdg ha2 ha3 hk1 HQ HD hq
        go_wp2_with (fail)
        go_roundw
        case rel => exact ⟨k + 1, by omega, by go_num, HF, hgr'⟩
        case measure => simp [intOf]; omega
      · obtain rfl : k = 15 := by omega
        have h15' : ¬ ((15 : Nat) : Int) < 15 := by omega
        have cn := r1.1.cell 0 (by omega)
        have en : (if 0 = 15 then y else cryK f 15 0) = digZ f 0 := by
          rw [if_neg (by omega)]
          unfold cryK
          rw [if_pos (by omega), if_neg (by omega)]
        rw [en] at cn
        have fn := r1.1.frozen 0
        have r2 := r1.1.set 0 (digZ f 0 + 38 * q)
        have c2 := r2.1.cell 15 hlt
        have e2 : (if 15 = 0 then digZ f 0 + 38 * q else if 15 = 15 then y else cryK f 15 15) = y := by rw [if_neg (by omega), if_pos rfl]
        rw [e2] at c2
        have f2 := r2.1.frozen 15
        have r3 := r2.1.set 15 dg
        have HF : RowZ 108 16 _ w.heap.size w.heap.size (cryK f (15 + 1)) := r3.1.congr fun i hi => by
          unfold cryK
          by_cases a1 : i = 15
          · subst a1
            rw [if_pos rfl, if_pos (by omega), if_neg (by omega), HD.out]
          · rw [if_neg a1]
            by_cases a2 : i = 0
            · subst a2
              rw [if_pos rfl, if_pos (by omega), if_pos (by omega), HQ.out]
            · rw [if_neg a2, if_neg a1, if_pos (by omega), if_neg (by omega), if_pos (by omega), if_neg (by omega)]
        have hgr' := grown_trans hgr (grown_trans r1.2 (grown_trans r2.2 r3.2))
        have ln := digZ_range f 0
        generalize digZ f 0 = a at cn fn r2 c2 f2 r3 HF hgr' ln
        obtain ⟨q3, hq3⟩ : ∃ q3, q3 = 38 * q := ⟨_, rfl⟩
        have eq3 : 38 * q = q3 := hq3.symm
        obtain ⟨a3, ha3⟩ : ∃ a3, a3 = a + 38 * q := ⟨_, rfl⟩
        have ea3 : a + q3 = a3 := by omega
        rw [← ha3] at c2 f2 HF hgr'
        have lq3 : -81605623884 ≤ q3 ∧ q3 ≤ 81605623846 := by omega
        clear r1 r2 r3 hr hgr hy hxe hcc hqe hsh hdg ha3 hq3 HQ HD hq
        go_wp2_with (fail)
        go_roundw
        case rel => exact ⟨15 + 1, by omega, by go_num, HF, hgr'⟩
        case measure => simp [intOf]
    · obtain rfl : k = 16 := by omega
      have hnl : ¬ ((16 : Nat) : Int) < 16 := by omega
      have hr16 : RowZ 108 16 wr w.heap.size w.heap.size (cryZ f) := by
        unfold RowZ at *
        rw [← cryK_end]
        exact hr
      have hra := hr16.range
      have hk2 := m1.kept hgr hne
      have hsC : (zV (cryZ f) 16).toArray.size = 16 := by simp [zV_length]
      have hsz : (Tryz.prog.info? 108).map (·.size) = some (zV (cryZ f) 16).length := by rw [zV_length]; exact hsz0
      have hsz2 : (Tryz.prog.info? 108).map (·.size) = some (zV (cryZ f) 16).toArray.size := by rw [hsC]; exact hsz0
      have hth2 : wr.there GR 0 (zV (cryZ f) 16).toArray.size := by rw [hsC]; exact hk2.there
      have hp := hk2.put (f' := cryZ f)
      have hbel : Below w.heap.size w (wr.setCells GR 0 (zV (cryZ f) 16)) := (bel.grown hgr bel.size (fun k hk => by cases hk; exact Nat.le_refl _)).grown hp.2 (Nat.le_trans bel.size hgr.size) (fun k hk => by cases hk; exact m1.lt.1)
      have hld := run_loadVar_mid (P := Tryz.prog) _ GR 0 108 _ _ hp.1.range Tryz.underlying108 rfl hsz
      have hone := zV_one (cryZ f) 16
      obtain ⟨Cs, hCs⟩ : ∃ Cs, Cs = zV (cryZ f) 16 := ⟨_, rfl⟩
      rw [← hCs] at hra hsz hsz2 hth2 hbel hld hone
      replace hCs : Hid (Cs = zV (cryZ f) 16) := hCs
      clear hp hk2 hr hr16 hgr m1 bel HC hsC
      go_wp2_with (first | (refine wpList_load_mid rfl 108 _ rfl w.heap.size 0 rfl Cs _ hra Tryz.underlying108 rfl hsz ?_) | (refine wpList_store_mid rfl 108 _ _ rfl GR 0 Cs.toArray rfl rfl hth2 hsz2 (all_oneCell_toArray hone) ?_))
      (try simp only [Exit.inBlock, Exit.then])
      refine bodyPost_ret (v := .agg Cs.toArray) ?_ rfl ⟨by rw [hCs.out], hbel⟩
      simp [results, asAddr, hld]

end Go.Proofs.YtdjdanpicbaieaaGreatDoor

namespace Go.Proofs.YtdjdanpicbaieaaGreatDoor
open Go.RowKit

def addZK (f g : Nat → Int) (k i : Nat) : Int := if i < k then f i + g i else f i

set_option maxRecDepth 100000 in
set_option maxHeartbeats 4000000 in
theorem l8Add_any (f g : Nat → Int) (w : World) (h1 : ∀ i, -1073741824 ≤ f i ∧ f i ≤ 1073741824) (h2 : ∀ i, -1073741824 ≤ g i ∧ g i ≤ 1073741824) :
    Calls Tryz.prog 120 #[.agg (zV f 16).toArray, .agg (zV g 16).toArray] w fun e w' => e = .returned (.agg (zV (fun i => f i + g i) 16).toArray) ∧ Below w.heap.size w w' := by
  have hz := (zero_of_info infoZ16).1
  have hsz0 := (zero_of_info infoZ16).2
  have m0 := RowZ.made w 108 16 w.heap.size f (by decide) (Nat.le_refl _)
  obtain ⟨A, hA⟩ : ∃ A, A = (zV f 16).toArray := ⟨_, rfl⟩
  rw [← hA] at m0 ⊢
  have ba : Below w.heap.size w (w.alloc (.cells A 108)) := (Below.refl _ _).alloc (Nat.le_refl _) _
  have sa : (w.alloc (.cells A 108)).heap.size = w.heap.size + 1 := by simp
  have m1 := RowZ.made (w.alloc (.cells A 108)) 108 16 w.heap.size g (by decide) (by omega)
  obtain ⟨B, hB⟩ : ∃ B, B = (zV g 16).toArray := ⟨_, rfl⟩
  rw [← hB] at m1 ⊢
  have bb : Below (w.alloc (.cells A 108)).heap.size (w.alloc (.cells A 108)) ((w.alloc (.cells A 108)).alloc (.cells B 108)) := (Below.refl _ _).alloc (Nat.le_refl _) _
  have sb : ((w.alloc (.cells A 108)).alloc (.cells B 108)).heap.size = w.heap.size + 1 + 1 := by simp
  have m2 := RowZ.made ((w.alloc (.cells A 108)).alloc (.cells B 108)) 108 16 w.heap.size (fun _ => 0) (by decide) (by omega)
  obtain ⟨Z, hZ⟩ : ∃ Z, Z = (zV (fun _ => 0) 16).toArray := ⟨_, rfl⟩
  rw [← hZ] at hz m2
  clear hZ hA hB
  have bc : Below ((w.alloc (.cells A 108)).alloc (.cells B 108)).heap.size ((w.alloc (.cells A 108)).alloc (.cells B 108)) (((w.alloc (.cells A 108)).alloc (.cells B 108)).alloc (.cells Z 108)) := (Below.refl _ _).alloc (Nat.le_refl _) _
  have q0 := (m0.below bb).below bc
  have q1 := m1.below bc
  have bel := below_on (below_on ba bb) bc
  rw [sa] at q1
  rw [sb] at m2
  go_enter Tryz.func120, Tryz.ntmps120
  go_wp2_with (fail)
  obtain ⟨GB, hGB⟩ : ∃ GB, GB = w.heap.size + 1 := ⟨_, rfl⟩
  rw [← hGB] at q1 m2 ⊢
  obtain ⟨GR, hGR⟩ : ∃ GR, GR = GB + 1 := ⟨_, rfl⟩
  rw [← hGR] at m2 ⊢
  have hne1 : GB ≠ w.heap.size := by omega
  have hne2 : GR ≠ w.heap.size := by omega
  generalize ((w.alloc (.cells A 108)).alloc (.cells B 108)).alloc (.cells Z 108) = wb at q0 q1 m2 bel ⊢
  have hs0 : RowZ 108 16 wb w.heap.size w.heap.size (addZK f g 0) := q0.congr fun i _ => by
    unfold addZK
    rw [if_neg (by omega)]
  clear m0 m1 ba sa bb sb bc q0 hGB hGR hz
  go_loopw [5] (fun i wr => ∃ k : Nat, k ≤ 16 ∧ i = .int .i64 k ∧ RowZ 108 16 wr w.heap.size w.heap.size (addZK f g k) ∧ wb.grownBy wr (some w.heap.size))
    (fun i _ => 16 - (intOf i).toNat)
  case atStart => exact ⟨0, by omega, rfl, hs0, World.grownBy.refl _ _⟩
  case round =>
    clear hs0
    obtain ⟨k, hk, rfl, hr, hgr⟩ := hrel
    by_cases hlt : k < 16
    · have hlt' : (k : Int) < 16 := by omega
      have c0 := hr.cell k hlt
      have e0 : addZK f g k k = f k := by unfold addZK; rw [if_neg (by omega)]
      rw [e0] at c0
      have c1 := (q1.kept hgr hne1).cell k hlt
      have f0 := hr.frozen k
      have r1 := hr.set k (f k + g k)
      have HF : RowZ 108 16 _ w.heap.size w.heap.size (addZK f g (k + 1)) := r1.1.congr fun i hi => by
        unfold addZK
        by_cases a1 : i = k
        · subst a1
          rw [if_pos rfl, if_pos (by omega)]
        · rw [if_neg a1]
          have : i < k ↔ i < k + 1 := by omega
          simp only [this]
      have hgr' := grown_trans hgr r1.2
      have l1 := h1 k
      have l2 := h2 k
      generalize f k = x at c0 r1 HF hgr' l1
      generalize g k = y at c1 r1 HF hgr' l2
      obtain ⟨z, hz'⟩ : ∃ z, z = x + y := ⟨_, rfl⟩
      have ez : x + y = z := hz'.symm
      have lz : -2147483648 ≤ z ∧ z ≤ 2147483648 := by omega
      rw [ez] at HF hgr'
      clear r1 hr hgr hz'
      go_wp2_with (fail)
      go_region
      all_goals
        go_wp2
        go_roundw
        case rel => exact ⟨k + 1, by omega, by go_num, HF, ⟨hgr'.os, hgr'.tape, hgr'.output, hgr'.size, hgr'.block⟩⟩
        case measure => simp [intOf]; omega
    · obtain rfl : k = 16 := by omega
      have hnl : ¬ ((16 : Nat) : Int) < 16 := by omega
      obtain ⟨F, hF⟩ : ∃ F : Nat → Int, F = fun i => f i + g i := ⟨_, rfl⟩
      have hr16 : RowZ 108 16 wr w.heap.size w.heap.size F := hr.congr fun i hi => by rw [hF]; unfold addZK; rw [if_pos hi]
      have hra := hr16.range
      have hk2 := m2.kept hgr hne2
      have hsC : (zV F 16).toArray.size = 16 := by simp [zV_length]
      have hsz : (Tryz.prog.info? 108).map (·.size) = some (zV F 16).length := by rw [zV_length]; exact hsz0
      have hsz2 : (Tryz.prog.info? 108).map (·.size) = some (zV F 16).toArray.size := by rw [hsC]; exact hsz0
      have hth2 : wr.there GR 0 (zV F 16).toArray.size := by rw [hsC]; exact hk2.there
      have hp := hk2.put (f' := F)
      have hbel : Below w.heap.size w (wr.setCells GR 0 (zV F 16)) := (bel.grown hgr bel.size (fun k hk => by cases hk; exact Nat.le_refl _)).grown hp.2 (Nat.le_trans bel.size hgr.size) (fun k hk => by cases hk; exact m2.lt.1)
      have hld := run_loadVar_mid (P := Tryz.prog) _ GR 0 108 _ _ hp.1.range Tryz.underlying108 rfl hsz
      have hone := zV_one F 16
      obtain ⟨Cs, hCs⟩ : ∃ Cs, Cs = zV F 16 := ⟨_, rfl⟩
      rw [← hCs] at hra hsz hsz2 hth2 hbel hld hone
      replace hCs : Hid (Cs = zV (fun i => f i + g i) 16) := by rw [Hid, hCs, hF]
      clear hp hk2 hr hr16 hgr m2 q1 bel hsC hF
      go_wp2_with (first | (refine wpList_load_mid rfl 108 _ rfl w.heap.size 0 rfl Cs _ hra Tryz.underlying108 rfl hsz ?_) | (refine wpList_store_mid rfl 108 _ _ rfl GR 0 Cs.toArray rfl rfl hth2 hsz2 (all_oneCell_toArray hone) ?_))
      (try simp only [Exit.inBlock, Exit.then])
      refine bodyPost_ret (v := .agg Cs.toArray) ?_ rfl ⟨by rw [hCs.out], hbel⟩
      simp [results, asAddr, hld]

def subZK (f g : Nat → Int) (k i : Nat) : Int := if i < k then f i - g i else f i

set_option maxRecDepth 100000 in
set_option maxHeartbeats 4000000 in
theorem l8Sub_any (f g : Nat → Int) (w : World) (h1 : ∀ i, -1073741824 ≤ f i ∧ f i ≤ 1073741824) (h2 : ∀ i, -1073741824 ≤ g i ∧ g i ≤ 1073741824) :
    Calls Tryz.prog 121 #[.agg (zV f 16).toArray, .agg (zV g 16).toArray] w fun e w' => e = .returned (.agg (zV (fun i => f i - g i) 16).toArray) ∧ Below w.heap.size w w' := by
  have hz := (zero_of_info infoZ16).1
  have hsz0 := (zero_of_info infoZ16).2
  have m0 := RowZ.made w 108 16 w.heap.size f (by decide) (Nat.le_refl _)
  obtain ⟨A, hA⟩ : ∃ A, A = (zV f 16).toArray := ⟨_, rfl⟩
  rw [← hA] at m0 ⊢
  have ba : Below w.heap.size w (w.alloc (.cells A 108)) := (Below.refl _ _).alloc (Nat.le_refl _) _
  have sa : (w.alloc (.cells A 108)).heap.size = w.heap.size + 1 := by simp
  have m1 := RowZ.made (w.alloc (.cells A 108)) 108 16 w.heap.size g (by decide) (by omega)
  obtain ⟨B, hB⟩ : ∃ B, B = (zV g 16).toArray := ⟨_, rfl⟩
  rw [← hB] at m1 ⊢
  have bb : Below (w.alloc (.cells A 108)).heap.size (w.alloc (.cells A 108)) ((w.alloc (.cells A 108)).alloc (.cells B 108)) := (Below.refl _ _).alloc (Nat.le_refl _) _
  have sb : ((w.alloc (.cells A 108)).alloc (.cells B 108)).heap.size = w.heap.size + 1 + 1 := by simp
  have m2 := RowZ.made ((w.alloc (.cells A 108)).alloc (.cells B 108)) 108 16 w.heap.size (fun _ => 0) (by decide) (by omega)
  obtain ⟨Z, hZ⟩ : ∃ Z, Z = (zV (fun _ => 0) 16).toArray := ⟨_, rfl⟩
  rw [← hZ] at hz m2
  clear hZ hA hB
  have bc : Below ((w.alloc (.cells A 108)).alloc (.cells B 108)).heap.size ((w.alloc (.cells A 108)).alloc (.cells B 108)) (((w.alloc (.cells A 108)).alloc (.cells B 108)).alloc (.cells Z 108)) := (Below.refl _ _).alloc (Nat.le_refl _) _
  have q0 := (m0.below bb).below bc
  have q1 := m1.below bc
  have bel := below_on (below_on ba bb) bc
  rw [sa] at q1
  rw [sb] at m2
  go_enter Tryz.func121, Tryz.ntmps121
  go_wp2_with (fail)
  obtain ⟨GB, hGB⟩ : ∃ GB, GB = w.heap.size + 1 := ⟨_, rfl⟩
  rw [← hGB] at q1 m2 ⊢
  obtain ⟨GR, hGR⟩ : ∃ GR, GR = GB + 1 := ⟨_, rfl⟩
  rw [← hGR] at m2 ⊢
  have hne1 : GB ≠ w.heap.size := by omega
  have hne2 : GR ≠ w.heap.size := by omega
  generalize ((w.alloc (.cells A 108)).alloc (.cells B 108)).alloc (.cells Z 108) = wb at q0 q1 m2 bel ⊢
  have hs0 : RowZ 108 16 wb w.heap.size w.heap.size (subZK f g 0) := q0.congr fun i _ => by
    unfold subZK
    rw [if_neg (by omega)]
  clear m0 m1 ba sa bb sb bc q0 hGB hGR hz
  go_loopw [5] (fun i wr => ∃ k : Nat, k ≤ 16 ∧ i = .int .i64 k ∧ RowZ 108 16 wr w.heap.size w.heap.size (subZK f g k) ∧ wb.grownBy wr (some w.heap.size))
    (fun i _ => 16 - (intOf i).toNat)
  case atStart => exact ⟨0, by omega, rfl, hs0, World.grownBy.refl _ _⟩
  case round =>
    clear hs0
    obtain ⟨k, hk, rfl, hr, hgr⟩ := hrel
    by_cases hlt : k < 16
    · have hlt' : (k : Int) < 16 := by omega
      have c0 := hr.cell k hlt
      have e0 : subZK f g k k = f k := by unfold subZK; rw [if_neg (by omega)]
      rw [e0] at c0
      have c1 := (q1.kept hgr hne1).cell k hlt
      have f0 := hr.frozen k
      have r1 := hr.set k (f k - g k)
      have HF : RowZ 108 16 _ w.heap.size w.heap.size (subZK f g (k + 1)) := r1.1.congr fun i hi => by
        unfold subZK
        by_cases a1 : i = k
        · subst a1
          rw [if_pos rfl, if_pos (by omega)]
        · rw [if_neg a1]
          have : i < k ↔ i < k + 1 := by omega
          simp only [this]
      have hgr' := grown_trans hgr r1.2
      have l1 := h1 k
      have l2 := h2 k
      generalize f k = x at c0 r1 HF hgr' l1
      generalize g k = y at c1 r1 HF hgr' l2
      obtain ⟨z, hz'⟩ : ∃ z, z = x - y := ⟨_, rfl⟩
      have ez : x - y = z := hz'.symm
      have lz : -2147483648 ≤ z ∧ z ≤ 2147483648 := by omega
      rw [ez] at HF hgr'
      clear r1 hr hgr hz'
      go_wp2_with (fail)
      go_region
      all_goals
        go_wp2
        go_roundw
        case rel => exact ⟨k + 1, by omega, by go_num, HF, ⟨hgr'.os, hgr'.tape, hgr'.output, hgr'.size, hgr'.block⟩⟩
        case measure => simp [intOf]; omega
    · obtain rfl : k = 16 := by omega
      have hnl : ¬ ((16 : Nat) : Int) < 16 := by omega
      obtain ⟨F, hF⟩ : ∃ F : Nat → Int, F = fun i => f i - g i := ⟨_, rfl⟩
      have hr16 : RowZ 108 16 wr w.heap.size w.heap.size F := hr.congr fun i hi => by rw [hF]; unfold subZK; rw [if_pos hi]
      have hra := hr16.range
      have hk2 := m2.kept hgr hne2
      have hsC : (zV F 16).toArray.size = 16 := by simp [zV_length]
      have hsz : (Tryz.prog.info? 108).map (·.size) = some (zV F 16).length := by rw [zV_length]; exact hsz0
      have hsz2 : (Tryz.prog.info? 108).map (·.size) = some (zV F 16).toArray.size := by rw [hsC]; exact hsz0
      have hth2 : wr.there GR 0 (zV F 16).toArray.size := by rw [hsC]; exact hk2.there
      have hp := hk2.put (f' := F)
      have hbel : Below w.heap.size w (wr.setCells GR 0 (zV F 16)) := (bel.grown hgr bel.size (fun k hk => by cases hk; exact Nat.le_refl _)).grown hp.2 (Nat.le_trans bel.size hgr.size) (fun k hk => by cases hk; exact m2.lt.1)
      have hld := run_loadVar_mid (P := Tryz.prog) _ GR 0 108 _ _ hp.1.range Tryz.underlying108 rfl hsz
      have hone := zV_one F 16
      obtain ⟨Cs, hCs⟩ : ∃ Cs, Cs = zV F 16 := ⟨_, rfl⟩
      rw [← hCs] at hra hsz hsz2 hth2 hbel hld hone
      replace hCs : Hid (Cs = zV (fun i => f i - g i) 16) := by rw [Hid, hCs, hF]
      clear hp hk2 hr hr16 hgr m2 q1 bel hsC hF
      go_wp2_with (first | (refine wpList_load_mid rfl 108 _ rfl w.heap.size 0 rfl Cs _ hra Tryz.underlying108 rfl hsz ?_) | (refine wpList_store_mid rfl 108 _ _ rfl GR 0 Cs.toArray rfl rfl hth2 hsz2 (all_oneCell_toArray hone) ?_))
      (try simp only [Exit.inBlock, Exit.then])
      refine bodyPost_ret (v := .agg Cs.toArray) ?_ rfl ⟨by rw [hCs.out], hbel⟩
      simp [results, asAddr, hld]

end Go.Proofs.YtdjdanpicbaieaaGreatDoor

namespace Go.Proofs.YtdjdanpicbaieaaGreatDoor
open Go.RowKit

def pairZ (xs : List Int) (i : Nat) : Int := xs.getD (2 * i) 0 + 256 * xs.getD (2 * i + 1) 0
def ofZ (xs : List Int) (i : Nat) : Int := if i = 15 then pairZ xs 15 % 32768 else pairZ xs i
theorem byteZ {xs : List Int} (hb : ∀ x ∈ xs, 0 ≤ x ∧ x < 256) (i : Nat) : 0 ≤ xs.getD i 0 ∧ xs.getD i 0 < 256 := by
  rw [List.getD_eq_getElem?_getD]
  cases hk : xs[i]? with
  | none => simp
  | some x => exact hb x (List.mem_of_getElem? hk)
theorem pairZ_range {xs : List Int} (hb : ∀ x ∈ xs, 0 ≤ x ∧ x < 256) (i : Nat) : 0 ≤ pairZ xs i ∧ pairZ xs i < 65536 := by
  have := byteZ hb (2 * i)
  have := byteZ hb (2 * i + 1)
  unfold pairZ
  omega
theorem ofZ_range {xs : List Int} (hb : ∀ x ∈ xs, 0 ≤ x ∧ x < 256) (i : Nat) : 0 ≤ ofZ xs i ∧ ofZ xs i < 65536 := by
  have := pairZ_range hb i
  have := pairZ_range hb 15
  unfold ofZ
  split <;> omega
theorem and_32767 (v : Int) (h0 : 0 ≤ v) (h1 : v < 65536) : bits .and .i64 v 32767 = v % 32768 := by
  obtain ⟨n, rfl⟩ : ∃ n : Nat, v = n := ⟨v.toNat, by omega⟩
  have e : bits .and .i64 (n : Int) 32767 = IntKind.i64.wrap ((BitVec.ofInt 64 (n : Int) &&& BitVec.ofInt 64 32767).toNat : Int) := rfl
  have e1 : (BitVec.ofInt 64 (n : Int)).toNat = n := by rw [BitVec.toNat_ofInt]; omega
  have e2 : (BitVec.ofInt 64 32767).toNat = 2 ^ 15 - 1 := rfl
  rw [e, BitVec.toNat_and, e1, e2, Nat.and_two_pow_sub_one_eq_mod, IntKind.wrap_i64]
  omega

set_option maxRecDepth 100000 in
set_option maxHeartbeats 4000000 in
theorem l8Of_any (p : Option Addr) (c : Nat) (xs : List Int) (w : World) (h : BytesIn w p 32 xs) (hb : ∀ x ∈ xs, 0 ≤ x ∧ x < 256) :
    Calls Tryz.prog 89 #[.slice p 32 c] w fun e w' => e = .returned (.agg (zV (ofZ xs) 16).toArray) ∧ Below w.heap.size w w' := by
  have hz := (zero_of_info infoZ16).1
  have hsz0 := (zero_of_info infoZ16).2
  obtain ⟨b, o, rfl, hcell⟩ := h (by decide)
  have lb : b < w.heap.size := World.block_lt_of_cell? w ⟨b, o + 0, none⟩ (hcell 0 (by omega))
  have m0 := RowZ.made w 108 16 w.heap.size (fun _ => 0) (by decide) (Nat.le_refl _)
  have m1' := fun X hX => RowZ.made X 108 16 w.heap.size (fun _ => 0) (by decide) hX
  obtain ⟨Z, hZ⟩ : ∃ Z, Z = (zV (fun _ => 0) 16).toArray := ⟨_, rfl⟩
  rw [← hZ] at hz m0
  simp only [← hZ] at m1'
  clear hZ
  have ba : Below w.heap.size w (w.alloc (.cells Z 108)) := (Below.refl _ _).alloc (Nat.le_refl _) _
  have sa : (w.alloc (.cells Z 108)).heap.size = w.heap.size + 1 := by simp
  have m1 := m1' (w.alloc (.cells Z 108)) (by omega)
  have bb : Below (w.alloc (.cells Z 108)).heap.size (w.alloc (.cells Z 108)) ((w.alloc (.cells Z 108)).alloc (.cells Z 108)) := (Below.refl _ _).alloc (Nat.le_refl _) _
  have q0 := m0.below bb
  have bel := below_on ba bb
  rw [sa] at m1
  go_enter Tryz.func89, Tryz.ntmps89
  go_wp2_with (fail)
  obtain ⟨GB, hGB⟩ : ∃ GB, GB = w.heap.size + 1 := ⟨_, rfl⟩
  rw [← hGB] at m1 ⊢
  have hne1 : w.heap.size ≠ GB := by omega
  have hbne : b ≠ GB := by omega
  have hlo : w.heap.size ≤ GB := by omega
  generalize (w.alloc (.cells Z 108)).alloc (.cells Z 108) = wb at q0 m1 bel ⊢
  have HB : Hid (∀ i, i < 32 → wb.cell? ⟨b, o + i, none⟩ = some (.int .u8 (xs.getD i 0))) := fun i hi => (bel.cell (p := ⟨b, o + i, none⟩) lb).trans (hcell i hi)
  have lbb : b < wb.heap.size := Nat.lt_of_lt_of_le lb bel.size
  have hs0 : RowZ 108 16 wb w.heap.size GB (fun i => if i < 0 then pairZ xs i else 0) := m1.congr fun i _ => by rw [if_neg (by omega)]
  clear m0 m1 m1' ba sa bb hGB hz hcell
  go_loopw [4] (fun i wr => ∃ k : Nat, k ≤ 16 ∧ i = .int .i64 k ∧ RowZ 108 16 wr w.heap.size GB (fun i => if i < k then pairZ xs i else 0) ∧ wb.grownBy wr (some GB))
    (fun i _ => 16 - (intOf i).toNat)
  case atStart => exact ⟨0, by omega, rfl, hs0, World.grownBy.refl _ _⟩
  case round =>
    clear hs0
    obtain ⟨k, hk, rfl, hr, hgr⟩ := hrel
    by_cases hlt : k < 16
    · have hlt' : (k : Int) < 16 := by omega
      have c0 := hr.cell k hlt
      simp only [Nat.lt_irrefl, if_false] at c0
      have f0 := hr.frozen k
      obtain ⟨k2, hk2⟩ : ∃ k2 : Nat, k2 = 2 * k := ⟨_, rfl⟩
      have ek2 : (2 : Int) * (k : Int) = (k2 : Int) := by omega
      obtain ⟨k3, hk3⟩ : ∃ k3 : Nat, k3 = 2 * k + 1 := ⟨_, rfl⟩
      have ek3 : (k2 : Int) + 1 = (k3 : Int) := by omega
      have lk2 : (k2 : Int) < 32 := by omega
      have lk3 : (k3 : Int) < 32 := by omega
      have x0 : wr.cell? ⟨b, o + k2, none⟩ = some (.int .u8 (xs.getD k2 0)) := by
        rw [← HB.out k2 (by omega)]
        simp only [World.cell?, hgr.block b lbb (by simp; exact hbne)]
      have x1 : wr.cell? ⟨b, o + k3, none⟩ = some (.int .u8 (xs.getD k3 0)) := by
        rw [← HB.out k3 (by omega)]
        simp only [World.cell?, hgr.block b lbb (by simp; exact hbne)]
      have r1 := hr.set k (pairZ xs k)
      have HF : RowZ 108 16 _ w.heap.size GB (fun i => if i < k + 1 then pairZ xs i else 0) := r1.1.congr fun i hi => by
        by_cases a1 : i = k
        · subst a1
          rw [if_pos rfl, if_pos (by omega)]
        · rw [if_neg a1]
          have : i < k ↔ i < k + 1 := by omega
          simp only [this]
      have hgr' := grown_trans hgr r1.2
      have l1 := byteZ hb k2
      have l2 := byteZ hb k3
      have HP : pairZ xs k = xs.getD k2 0 + 256 * xs.getD k3 0 := by rw [hk2, hk3]; rfl
      rw [HP] at HF hgr'
      generalize xs.getD k2 0 = x at x0 l1 HF hgr'
      generalize xs.getD k3 0 = y at x1 l2 HF hgr'
      obtain ⟨y2, hy2⟩ : ∃ y2, y2 = 256 * y := ⟨_, rfl⟩
      have ey : y * 256 = y2 := by omega
      have wy : IntKind.i64.wrap (y * 256) = y2 := by rw [IntKind.wrap_i64]; omega
      obtain ⟨z, hz'⟩ : ∃ z, z = x + 256 * y := ⟨_, rfl⟩
      have ez : x + y2 = z := by omega
      rw [← hz'] at HF hgr'
      have lz : 0 ≤ z ∧ z < 65536 := by omega
      have ly2 : 0 ≤ y2 ∧ y2 < 65536 := by omega
      clear r1 hr hgr hz' hy2 hk2 hk3 HP
      go_wp2_with (fail)
      go_region
      all_goals
        go_wp2
        go_roundw
        case rel => exact ⟨k + 1, by omega, by go_num, HF, ⟨hgr'.os, hgr'.tape, hgr'.output, hgr'.size, hgr'.block⟩⟩
        case measure => simp [intOf]; omega
    · obtain rfl : k = 16 := by omega
      have hnl : ¬ ((16 : Nat) : Int) < 16 := by omega
      have c0 := hr.cell 15 (by omega)
      simp only [show (15 : Nat) < 16 from by decide, if_true] at c0
      have f0 := hr.frozen 15
      have hp15 := pairZ_range hb 15
      have r1 := hr.set 15 (pairZ xs 15 % 32768)
      obtain ⟨F, hF⟩ : ∃ F : Nat → Int, F = ofZ xs := ⟨_, rfl⟩
      have hr16 : RowZ 108 16 _ w.heap.size GB F := r1.1.congr fun i hi => by
        rw [hF, ofZ]
        by_cases a1 : i = 15
        · rw [if_pos a1, if_pos a1]
        · rw [if_neg a1, if_neg a1, if_pos hi]
      have hgr' := grown_trans hgr r1.2
      have ea := and_32767 (pairZ xs 15) hp15.1 hp15.2
      generalize pairZ xs 15 = x at c0 hp15 r1 hr16 hgr' ea
      obtain ⟨x', hx'⟩ : ∃ x', x' = x % 32768 := ⟨_, rfl⟩
      rw [← hx'] at hr16 hgr' ea
      have hra := hr16.range
      have hk2 := q0.kept hgr' hne1
      have hsC : (zV F 16).toArray.size = 16 := by simp [zV_length]
      have hsz : (Tryz.prog.info? 108).map (·.size) = some (zV F 16).length := by rw [zV_length]; exact hsz0
      have hsz2 : (Tryz.prog.info? 108).map (·.size) = some (zV F 16).toArray.size := by rw [hsC]; exact hsz0
      have hth2 : (wr.setCell ⟨GB, 15, none⟩ (.int .i64 x')).there w.heap.size 0 (zV F 16).toArray.size := by rw [hsC]; exact hk2.there
      have hp := hk2.put (f' := F)
      have hbel : Below w.heap.size w ((wr.setCell ⟨GB, 15, none⟩ (.int .i64 x')).setCells w.heap.size 0 (zV F 16)) := (bel.grown hgr' bel.size (fun k hk => by cases hk; exact hlo)).grown hp.2 (Nat.le_trans bel.size hgr'.size) (fun k hk => by cases hk; exact Nat.le_refl _)
      have hld := run_loadVar_mid (P := Tryz.prog) _ w.heap.size 0 108 _ _ hp.1.range Tryz.underlying108 rfl hsz
      have hone := zV_one F 16
      obtain ⟨Cs, hCs⟩ : ∃ Cs, Cs = zV F 16 := ⟨_, rfl⟩
      rw [← hCs] at hra hsz hsz2 hth2 hbel hld hone
      replace hCs : Hid (Cs = zV (ofZ xs) 16) := by rw [Hid, hCs, hF]
      clear hp hk2 hr hr16 hgr hgr' q0 bel hsC hF r1 hx' HB
      go_wp2_with (first | (refine wpList_load_mid rfl 108 _ rfl GB 0 rfl Cs _ hra Tryz.underlying108 rfl hsz ?_) | (refine wpList_store_mid rfl 108 _ _ rfl w.heap.size 0 Cs.toArray rfl rfl hth2 hsz2 (all_oneCell_toArray hone) ?_))
      (try simp only [Exit.inBlock, Exit.then])
      refine bodyPost_ret (v := .agg Cs.toArray) ?_ rfl ⟨by rw [hCs.out], hbel⟩
      simp [results, asAddr, hld]

end Go.Proofs.YtdjdanpicbaieaaGreatDoor

namespace Go.Proofs.YtdjdanpicbaieaaGreatDoor
open Go.RowKit

theorem infoZ31 : (Tryz.prog.info? 153).map (fun i => (i.zero, i.size)) = some (some (.agg (zV (fun _ => 0) 31).toArray), 31) := by kernel_rfl
def mtZ (a b : Nat → Int) (i j k : Nat) : Int := rwsZ a b i k + rowZ a b i j k
theorem mtZ_zero (a b : Nat → Int) (i k : Nat) : mtZ a b i 0 k = rwsZ a b i k := by unfold mtZ rowZ; rw [if_neg (by omega)]; omega
theorem mtZ_end (a b : Nat → Int) (i k : Nat) : mtZ a b i 16 k = rwsZ a b (i + 1) k := rfl
theorem mtZ_step (a b : Nat → Int) (i j k : Nat) : (if k = i + j then mtZ a b i j (i + j) + a i * b j else mtZ a b i j k) = mtZ a b i (j + 1) k := by
  by_cases h : k = i + j
  · subst h
    rw [if_pos rfl]
    unfold mtZ rowZ
    rw [if_neg (by omega), if_pos (by omega), show i + j - i = j by omega]
    omega
  · rw [if_neg h]
    unfold mtZ rowZ
    by_cases h2 : i ≤ k ∧ k - i < j
    · rw [if_pos h2, if_pos (by omega)]
    · rw [if_neg h2, if_neg (by omega)]
theorem mtZ_le {a b : Nat → Int} (ha : okZ a) (hb : okZ b) (i j k : Nat) (hi : i ≤ 16) : -1168231104512 ≤ mtZ a b i j k ∧ mtZ a b i j k ≤ 1168231104512 := by
  have h1 := rwsZ_le ha hb k i
  have h2 := rowZ_le ha hb i j k
  unfold mtZ
  omega

set_option maxRecDepth 100000 in
set_option maxHeartbeats 8000000 in
theorem l8Mul_any (f g : Nat → Int) (w : World) (h1 : okZ f) (h2 : okZ g) :
    Calls Tryz.prog 122 #[.agg (zV f 16).toArray, .agg (zV g 16).toArray] w fun e w' => e = .returned (.agg (zV (mulZ f g) 16).toArray) ∧ Below w.heap.size w w' := by
  have hz := (zero_of_info infoZ16).1
  have hsz0 := (zero_of_info infoZ16).2
  have hz3 := (zero_of_info infoZ31).1
  have HM : Hid (∀ (X : World) (n : Nat), n ≤ X.heap.size → RowZ 108 16 (X.alloc (.cells (zV (fun _ => 0) 16).toArray 108)) n X.heap.size (fun _ => 0)) := fun X n hX => RowZ.made X 108 16 n (fun _ => 0) (by decide) hX
  have m0 := RowZ.made w 108 16 w.heap.size f (by decide) (Nat.le_refl _)
  obtain ⟨A, hA⟩ : ∃ A, A = (zV f 16).toArray := ⟨_, rfl⟩
  rw [← hA] at m0 ⊢
  have ba : Below w.heap.size w (w.alloc (.cells A 108)) := (Below.refl _ _).alloc (Nat.le_refl _) _
  have sa : (w.alloc (.cells A 108)).heap.size = w.heap.size + 1 := by simp
  have m1 := RowZ.made (w.alloc (.cells A 108)) 108 16 w.heap.size g (by decide) (by omega)
  obtain ⟨B, hB⟩ : ∃ B, B = (zV g 16).toArray := ⟨_, rfl⟩
  rw [← hB] at m1 ⊢
  have bb : Below (w.alloc (.cells A 108)).heap.size (w.alloc (.cells A 108)) ((w.alloc (.cells A 108)).alloc (.cells B 108)) := (Below.refl _ _).alloc (Nat.le_refl _) _
  have sb : ((w.alloc (.cells A 108)).alloc (.cells B 108)).heap.size = w.heap.size + 1 + 1 := by simp
  have m2 := HM.out ((w.alloc (.cells A 108)).alloc (.cells B 108)) w.heap.size (by omega)
  obtain ⟨Z, hZ⟩ : ∃ Z, Z = (zV (fun _ => 0) 16).toArray := ⟨_, rfl⟩
  rw [← hZ] at hz m2
  simp only [← hZ] at HM
  have bc : Below ((w.alloc (.cells A 108)).alloc (.cells B 108)).heap.size ((w.alloc (.cells A 108)).alloc (.cells B 108)) (((w.alloc (.cells A 108)).alloc (.cells B 108)).alloc (.cells Z 108)) := (Below.refl _ _).alloc (Nat.le_refl _) _
  have sc : (((w.alloc (.cells A 108)).alloc (.cells B 108)).alloc (.cells Z 108)).heap.size = w.heap.size + 1 + 1 + 1 := by simp
  have m3 := RowZ.made (((w.alloc (.cells A 108)).alloc (.cells B 108)).alloc (.cells Z 108)) 153 31 w.heap.size (fun _ => 0) (by decide) (by omega)
  obtain ⟨Y, hY⟩ : ∃ Y, Y = (zV (fun _ => 0) 31).toArray := ⟨_, rfl⟩
  rw [← hY] at hz3 m3
  clear hZ hA hB hY
  have bd : Below (((w.alloc (.cells A 108)).alloc (.cells B 108)).alloc (.cells Z 108)).heap.size (((w.alloc (.cells A 108)).alloc (.cells B 108)).alloc (.cells Z 108)) ((((w.alloc (.cells A 108)).alloc (.cells B 108)).alloc (.cells Z 108)).alloc (.cells Y 153)) := (Below.refl _ _).alloc (Nat.le_refl _) _
  have q0 := ((m0.below bb).below bc).below bd
  have q1 := (m1.below bc).below bd
  have q2 := m2.below bd
  have bel := below_on (below_on (below_on ba bb) bc) bd
  rw [sa] at q1
  rw [sb] at q2
  rw [sc] at m3
  go_enter Tryz.func122, Tryz.ntmps122
  go_wp2_with (fail)
  obtain ⟨GB, hGB⟩ : ∃ GB, GB = w.heap.size + 1 := ⟨_, rfl⟩
  rw [← hGB] at q1 q2 m3 ⊢
  obtain ⟨GR, hGR⟩ : ∃ GR, GR = GB + 1 := ⟨_, rfl⟩
  rw [← hGR] at q2 m3 ⊢
  obtain ⟨GT, hGT⟩ : ∃ GT, GT = GR + 1 := ⟨_, rfl⟩
  rw [← hGT] at m3 ⊢
  have hneA : w.heap.size ≠ GT := by omega
  have hneB : GB ≠ GT := by omega
  have hneR : GR ≠ GT := by omega
  have hloT : w.heap.size ≤ GT := by omega
  have hloR : w.heap.size ≤ GR := by omega
  generalize (((w.alloc (.cells A 108)).alloc (.cells B 108)).alloc (.cells Z 108)).alloc (.cells Y 153) = wb at q0 q1 q2 m3 bel ⊢
  have hs0 : RowZ 153 31 wb w.heap.size GT (rwsZ f g 0) := m3
  clear m0 m1 m2 m3 ba sa bb sb bc sc bd hGB hGR hGT hz3
  go_loopw [6] (fun i wr => ∃ k : Nat, k ≤ 16 ∧ i = .int .i64 k ∧ RowZ 153 31 wr w.heap.size GT (rwsZ f g k) ∧ wb.grownBy wr (some GT))
    (fun i _ => 16 - (intOf i).toNat)
  case atStart => exact ⟨0, by omega, rfl, hs0, World.grownBy.refl _ _⟩
  case round =>
    clear hs0
    obtain ⟨k, hk, rfl, hr, hgr⟩ := hrel
    by_cases hlt : k < 16
    · have hlt' : (k : Int) < 16 := by omega
      have hr0 : RowZ 153 31 wr w.heap.size GT (mtZ f g k 0) := hr.congr fun i _ => (mtZ_zero f g k i).symm
      clear hr
      go_wp2_with (fail)
      go_loopw [7] (fun j wx => ∃ m : Nat, m ≤ 16 ∧ j = .int .i64 m ∧ RowZ 153 31 wx w.heap.size GT (mtZ f g k m) ∧ wb.grownBy wx (some GT))
        (fun j _ => 16 - (intOf j).toNat)
      case atStart => exact ⟨0, by omega, rfl, hr0, hgr⟩
      case round =>
        clear hr0 hgr
        obtain ⟨m, hm, rfl, hr, hgr⟩ := hrel
        by_cases hlm : m < 16
        · have hlm' : (m : Int) < 16 := by omega
          obtain ⟨s, hs⟩ : ∃ s : Nat, s = k + m := ⟨_, rfl⟩
          have es : (k : Int) + (m : Int) = (s : Int) := by omega
          have ls : (s : Int) < 31 := by omega
          have ct := hr.cell s (by omega)
          have ft := hr.frozen s
          have ca := (q0.kept hgr hneA).cell k hlt
          have cb := (q1.kept hgr hneB).cell m hlm
          have lt := mtZ_le h1 h2 k m s (by omega)
          have lp := prod_le (h1 k) (h2 m)
          have r1 := hr.set s (mtZ f g k m s + f k * g m)
          have HF : RowZ 153 31 _ w.heap.size GT (mtZ f g k (m + 1)) := r1.1.congr fun i _ => by
            rw [hs]
            exact mtZ_step f g k m i
          have hgr' := grown_trans hgr r1.2
          generalize mtZ f g k m s = t at ct lt HF hgr' r1
          generalize f k = x at ca lp HF hgr' r1
          generalize g m = y at cb lp HF hgr' r1
          obtain ⟨z, hz'⟩ : ∃ z, z = x * y := ⟨_, rfl⟩
          have ez : x * y = z := hz'.symm
          rw [ez] at lp HF hgr'
          obtain ⟨v, hv⟩ : ∃ v, v = t + z := ⟨_, rfl⟩
          have ev : t + z = v := hv.symm
          rw [ev] at HF hgr'
          have lv : -1236950581248 ≤ v ∧ v ≤ 1236950581248 := by omega
          clear r1 hr hgr hz' hv hs
          go_wp2_with (fail)
          go_region
          all_goals
            go_wp2
            go_roundw
            case rel => exact ⟨m + 1, by omega, by go_num, HF, ⟨hgr'.os, hgr'.tape, hgr'.output, hgr'.size, hgr'.block⟩⟩
            case measure => simp [intOf]; omega
        · obtain rfl : m = 16 := by omega
          have hnm : ¬ ((16 : Nat) : Int) < 16 := by omega
          have hr' : RowZ 153 31 wr w.heap.size GT (rwsZ f g (k + 1)) := hr
          go_wp2_with (fail)
          go_roundw
          case rel => exact ⟨k + 1, by omega, by go_num, hr', hgr⟩
          case measure => simp [intOf]; omega
    · obtain rfl : k = 16 := by omega
      have hnl : ¬ ((16 : Nat) : Int) < 16 := by omega
      have q2' := q2.kept hgr hneR
      have bel' := bel.grown hgr bel.size (fun k hk => by cases hk; exact hloT)
      have HT : Hid (∀ k, -1168231104512 ≤ rwsZ f g 16 k ∧ rwsZ f g 16 k ≤ 1168231104512) := fun k => by
        have := rwsZ_le h1 h2 k 16
        omega
      have CF := fldZ_le h1 h2
      have C1 := fun X => l8Carry_any (fldZ (rwsZ f g 16)) X (fun i => (CF i).1) (fun i => (CF i).2)
      have hc1 := cry_head (f := fldZ (rwsZ f g 16)) (M := 2147516417) (fun i => by have := (CF i).1; omega) (fun i => by have := (CF i).2; omega) (by omega)
      have C2 := fun X => l8Carry_any (cryZ (fldZ (rwsZ f g 16))) X (fun i => by
        by_cases h : i = 0
        · subst h; omega
        · have := cryZ_tail (fldZ (rwsZ f g 16)) i h; omega) (fun i => by
        by_cases h : i = 0
        · subst h; omega
        · have := cryZ_tail (fldZ (rwsZ f g 16)) i h; omega)
      have HE : Hid (cryZ (cryZ (fldZ (rwsZ f g 16))) = mulZ f g) := rfl
      rw [HE.out] at C2
      clear CF hc1 HE
      generalize rwsZ f g 16 = T at hr HT C1 C2
      have mO := HM.out wr w.heap.size bel'.size
      have bo : Below wr.heap.size wr (wr.alloc (.cells Z 108)) := (Below.refl _ _).alloc (Nat.le_refl _) _
      have hl2 := q2'.lt.2
      have hlT := hr.lt.2
      replace hr := hr.below bo
      replace q2' := q2'.below bo
      replace bel' := below_on bel' bo
      obtain ⟨GO, hGO⟩ : ∃ GO, GO = wr.heap.size := ⟨_, rfl⟩
      rw [← hGO] at mO hl2 hlT
      have hneT : GT ≠ GO := Nat.ne_of_lt hlT
      have hneR2 : GR ≠ GO := Nat.ne_of_lt hl2
      have hs0 : RowZ 108 16 (wr.alloc (.cells Z 108)) w.heap.size GO (fun i => if i < 0 then fldZ T i else 0) := mO.congr fun i _ => by rw [if_neg (by omega)]
      have hloO := mO.lt.1
      clear q0 q1 q2 bel HM mO bo hgr
      go_wp2_with (fail)
      rw [← hGO]
      generalize wr.alloc (.cells Z 108) = wc at hr q2' bel' hs0 ⊢
      clear hGO hz
      go_loopw [9] (fun i wx => ∃ k : Nat, k ≤ 16 ∧ i = .int .i64 k ∧ RowZ 108 16 wx w.heap.size GO (fun i => if i < k then fldZ T i else 0) ∧ wc.grownBy wx (some GO))
        (fun i _ => 16 - (intOf i).toNat)
      case atStart => exact ⟨0, by omega, rfl, hs0, World.grownBy.refl _ _⟩
      case round =>
        clear hs0
        obtain ⟨k, hk, rfl, ho, hgr⟩ := hrel
        by_cases hlt : k < 16
        · have hlt' : (k : Int) < 16 := by omega
          have hlt3 : (k : Int) < 31 := by omega
          have ct := (hr.kept hgr hneT).cell k (by omega)
          have co := ho.cell k hlt
          simp only [Nat.lt_irrefl, if_false] at co
          have fo := ho.frozen k
          have r1 := ho.set k (T k)
          have lt := HT.out k
          by_cases h15 : k < 15
          · have h15' : (k : Int) < 15 := by omega
            have hrk := (hr.kept hgr hneT).kept r1.2 hneT
            obtain ⟨k6, hk6⟩ : ∃ k6 : Nat, k6 = k + 16 := ⟨_, rfl⟩
            have ek6 : (k : Int) + 16 = (k6 : Int) := by omega
            have lk6 : (k6 : Int) < 31 := by omega
            have c6 := hrk.cell k6 (by omega)
            have l6 := HT.out k6
            have co2 := r1.1.cell k hlt
            simp only [if_true] at co2
            have fo2 := r1.1.frozen k
            have r2 := r1.1.set k (T k + 38 * T k6)
            have HF : RowZ 108 16 _ w.heap.size GO (fun i => if i < k + 1 then fldZ T i else 0) := r2.1.congr fun i hi => by
              by_cases a1 : i = k
              · subst a1
                rw [if_pos rfl, if_pos (by omega), fldZ, if_pos h15, hk6]
              · rw [if_neg a1, if_neg a1]
                have : i < k ↔ i < k + 1 := by omega
                simp only [this]
            have hgr' := grown_trans hgr (grown_trans r1.2 r2.2)
            generalize T k = x at ct lt co2 fo2 r1 r2 HF hgr' c6
            generalize T k6 = y at c6 l6 r2 HF hgr'
            obtain ⟨y3, hy3⟩ : ∃ y3, y3 = 38 * y := ⟨_, rfl⟩
            have ey3 : 38 * y = y3 := hy3.symm
            rw [ey3] at HF hgr'
            obtain ⟨z, hz'⟩ : ∃ z, z = x + y3 := ⟨_, rfl⟩
            have ez : x + y3 = z := hz'.symm
            rw [ez] at HF hgr'
            have ly3 : -44392781971456 ≤ y3 ∧ y3 ≤ 44392781971456 := by omega
            have lz : -45561013075968 ≤ z ∧ z ≤ 45561013075968 := by omega
            clear r1 r2 ho hgr hrk hz' hy3 hk6
            go_wp2_with (fail)
            go_region
            all_goals
              go_wp2
              go_roundw
              case rel => exact ⟨k + 1, by omega, by go_num, HF, ⟨hgr'.os, hgr'.tape, hgr'.output, hgr'.size, hgr'.block⟩⟩
              case measure => simp [intOf]; omega
          · obtain rfl : k = 15 := by omega
            have h15' : ¬ ((15 : Nat) : Int) < 15 := by omega
            have HF : RowZ 108 16 _ w.heap.size GO (fun i => if i < 15 + 1 then fldZ T i else 0) := r1.1.congr fun i hi => by
              by_cases a1 : i = 15
              · subst a1
                rw [if_pos rfl, if_pos (by omega), fldZ, if_neg (by omega)]
              · rw [if_neg a1]
                have : i < 15 ↔ i < 15 + 1 := by omega
                simp only [this]
            have hgr' := grown_trans hgr r1.2
            generalize T 15 = x at ct lt HF hgr' r1
            clear r1 ho hgr
            go_wp2_with (fail)
            go_roundw
            case rel => exact ⟨15 + 1, by omega, by go_num, HF, hgr'⟩
            case measure => simp [intOf]
        · obtain rfl : k = 16 := by omega
          have hno : ¬ ((16 : Nat) : Int) < 16 := by omega
          have ho16 : RowZ 108 16 wr w.heap.size GO (fldZ T) := ho.congr fun i hi => by rw [if_pos hi]
          have hra := ho16.range
          have hk2 := q2'.kept hgr hneR2
          have bel2 := bel'.grown hgr bel'.size (fun k hk => by cases hk; exact hloO)
          obtain ⟨F, hF⟩ : ∃ F, F = fldZ T := ⟨_, rfl⟩
          rw [← hF] at hra
          simp only [← hF] at C1 C2
          have hszF : (Tryz.prog.info? 108).map (·.size) = some (zV F 16).length := by rw [zV_length]; exact hsz0
          obtain ⟨Fs, hFs⟩ : ∃ Fs, Fs = zV F 16 := ⟨_, rfl⟩
          rw [← hFs] at hra hszF
          simp only [← hFs] at C1
          clear hF hFs ho ho16 hr HT hgr q2' bel'
          go_wp2_with (refine wpList_load_mid rfl 108 _ rfl GO 0 rfl Fs _ hra Tryz.underlying108 rfl hszF ?_)
          refine (C1 _).mono ?_
          rintro e w5 ⟨rfl, b5⟩
          go_wp2_with (fail)
          refine (C2 _).mono ?_
          rintro e w6 ⟨rfl, b6⟩
          have hk3 := (hk2.below b5).below b6
          have bel3 := below_on (below_on bel2 b5) b6
          obtain ⟨M, hM⟩ : ∃ M, M = mulZ f g := ⟨_, rfl⟩
          rw [← hM]
          have hsC : (zV M 16).toArray.size = 16 := by simp [zV_length]
          have hsz : (Tryz.prog.info? 108).map (·.size) = some (zV M 16).length := by rw [zV_length]; exact hsz0
          have hsz2 : (Tryz.prog.info? 108).map (·.size) = some (zV M 16).toArray.size := by rw [hsC]; exact hsz0
          have hth2 : w6.there GR 0 (zV M 16).toArray.size := by rw [hsC]; exact hk3.there
          have hp := hk3.put (f' := M)
          have hbel : Below w.heap.size w (w6.setCells GR 0 (zV M 16)) := bel3.grown hp.2 bel3.size (fun k hk => by cases hk; exact hloR)
          have hld := run_loadVar_mid (P := Tryz.prog) _ GR 0 108 _ _ hp.1.range Tryz.underlying108 rfl hsz
          have hone := zV_one M 16
          obtain ⟨Cs, hCs⟩ : ∃ Cs, Cs = zV M 16 := ⟨_, rfl⟩
          rw [← hCs] at hsz hsz2 hth2 hbel hld hone ⊢
          replace hCs : Hid (Cs = zV (mulZ f g) 16) := by rw [Hid, hCs, hM]
          clear hp hk2 hk3 bel2 bel3 hsC hM b5 b6 C1 C2
          go_wp2_with (refine wpList_store_mid rfl 108 _ _ rfl GR 0 Cs.toArray rfl rfl hth2 hsz2 (all_oneCell_toArray hone) ?_)
          (try simp only [Exit.inBlock, Exit.then])
          refine bodyPost_ret (v := .agg Cs.toArray) ?_ rfl ⟨by rw [hCs.out], hbel⟩
          simp [results, asAddr, Act.put, hld]

end Go.Proofs.YtdjdanpicbaieaaGreatDoor

namespace Go.Proofs.YtdjdanpicbaieaaGreatDoor
open Go.RowKit

set_option maxRecDepth 100000 in
set_option maxHeartbeats 8000000 in
theorem l8Inv_any (f : Nat → Int) (w : World) (h1 : okZ f) :
    Calls Tryz.prog 124 #[.agg (zV f 16).toArray] w fun e w' => e = .returned (.agg (zV (invZ f 254) 16).toArray) ∧ Below w.heap.size w w' := by
  have hz := (zero_of_info infoZ16).1
  have hsz0 := (zero_of_info infoZ16).2
  have HSZ : Hid (∀ g : Nat → Int, (Tryz.prog.info? 108).map (·.size) = some (zV g 16).length ∧ (Tryz.prog.info? 108).map (·.size) = some (zV g 16).toArray.size ∧ (zV g 16).toArray.size = 16) := fun g => by
    have e : (zV g 16).toArray.size = 16 := by simp [zV_length]
    exact ⟨by rw [zV_length]; exact hsz0, by rw [e]; exact hsz0, e⟩
  have m0 := RowZ.made w 108 16 w.heap.size f (by decide) (Nat.le_refl _)
  obtain ⟨As, hAs⟩ : ∃ As, As = zV f 16 := ⟨_, rfl⟩
  have hoA := zV_one f 16
  have hsA := (HSZ.out f).1
  have hsA2 := (HSZ.out f).2.1
  have hsA3 := (HSZ.out f).2.2
  rw [← hAs] at m0 hoA hsA hsA2 hsA3 ⊢
  have ba : Below w.heap.size w (w.alloc (.cells As.toArray 108)) := (Below.refl _ _).alloc (Nat.le_refl _) _
  have sa : (w.alloc (.cells As.toArray 108)).heap.size = w.heap.size + 1 := by simp
  have HM : Hid (∀ (X : World) (n : Nat), n ≤ X.heap.size → RowZ 108 16 (X.alloc (.cells (zV (fun _ => 0) 16).toArray 108)) n X.heap.size (fun _ => 0)) := fun X n hX => RowZ.made X 108 16 n (fun _ => 0) (by decide) hX
  obtain ⟨Z, hZ⟩ : ∃ Z, Z = (zV (fun _ => 0) 16).toArray := ⟨_, rfl⟩
  rw [← hZ] at hz
  simp only [← hZ] at HM
  clear hZ
  have m1 := HM.out (w.alloc (.cells As.toArray 108)) w.heap.size (by omega)
  have bb : Below (w.alloc (.cells As.toArray 108)).heap.size (w.alloc (.cells As.toArray 108)) ((w.alloc (.cells As.toArray 108)).alloc (.cells Z 108)) := (Below.refl _ _).alloc (Nat.le_refl _) _
  have sb : ((w.alloc (.cells As.toArray 108)).alloc (.cells Z 108)).heap.size = w.heap.size + 1 + 1 := by simp
  have m2 := HM.out ((w.alloc (.cells As.toArray 108)).alloc (.cells Z 108)) w.heap.size (by omega)
  have bc : Below ((w.alloc (.cells As.toArray 108)).alloc (.cells Z 108)).heap.size ((w.alloc (.cells As.toArray 108)).alloc (.cells Z 108)) (((w.alloc (.cells As.toArray 108)).alloc (.cells Z 108)).alloc (.cells Z 108)) := (Below.refl _ _).alloc (Nat.le_refl _) _
  have q0' := m0.below bb
  have hra0 := q0'.range
  rw [← hAs] at hra0
  have q0 := q0'.below bc
  have q1 := m1.below bc
  rw [sa] at q1
  rw [sb] at m2
  have bel := below_on (below_on ba bb) bc
  have hth0 : (((w.alloc (.cells As.toArray 108)).alloc (.cells Z 108)).alloc (.cells Z 108)).there (w.heap.size + 1 + 1) 0 As.toArray.size := by rw [hsA3]; exact m2.there
  have p2 := m2.put (f' := f)
  rw [← hAs] at p2
  replace hAs : Hid (As = zV f 16) := hAs
  go_enter Tryz.func124, Tryz.ntmps124
  go_wp2_with (first | (refine wpList_load_mid rfl 108 _ rfl w.heap.size 0 rfl As _ hra0 Tryz.underlying108 rfl hsA ?_) | (refine wpList_store_mid rfl 108 _ _ rfl (w.heap.size + 1 + 1) 0 As.toArray rfl rfl hth0 hsA2 (all_oneCell_toArray hoA) ?_))
  obtain ⟨GR, hGR⟩ : ∃ GR, GR = w.heap.size + 1 := ⟨_, rfl⟩
  rw [← hGR] at q1 p2 ⊢
  obtain ⟨GC, hGC⟩ : ∃ GC, GC = GR + 1 := ⟨_, rfl⟩
  rw [← hGC] at p2 ⊢
  have hneA : w.heap.size ≠ GC := by omega
  have hneR : GR ≠ GC := by omega
  have hloC : w.heap.size ≤ GC := by omega
  have hloR : w.heap.size ≤ GR := by omega
  have k0 := q0.kept p2.2 hneA
  have k1 := q1.kept p2.2 hneR
  have kb := bel.grown p2.2 bel.size (fun k hk => by cases hk; exact hloC)
  have pc := p2.1
  generalize ((((w.alloc (.cells As.toArray 108)).alloc (.cells Z 108)).alloc (.cells Z 108)).setCells GC 0 As) = wb at pc k0 k1 kb ⊢
  clear m0 m1 m2 ba bb bc sa sb q0 q0' q1 bel hra0 hth0 p2 HM hz hGR hGC
  go_loopw [4] (fun i wr => ∃ k : Nat, k ≤ 254 ∧ i = .int .i64 (253 - (k : Int)) ∧ RowZ 108 16 wr w.heap.size GC (invZ f k) ∧ RowZ 108 16 wr w.heap.size w.heap.size f ∧ RowZ 108 16 wr w.heap.size GR (fun _ => 0) ∧ Below w.heap.size w wr)
    (fun i _ => (intOf i + 1).toNat)
  case atStart => exact ⟨0, by omega, rfl, pc, k0, k1, kb⟩
  case round =>
    clear pc k0 k1 kb
    obtain ⟨k, hk, rfl, rc, rA, rR, bel⟩ := hrel
    obtain ⟨i, hi⟩ : ∃ i : Int, i = 253 - (k : Int) := ⟨_, rfl⟩
    rw [← hi]
    by_cases hlt : k < 254
    · have hge : (0 : Int) ≤ i := by omega
      have hok := invZ_ok h1 k
      have C1 := fun X => l8Mul_any (invZ f k) (invZ f k) X hok hok
      have hok2 := mulZ_ok hok hok
      have C2 := fun X => l8Mul_any (mulZ (invZ f k) (invZ f k)) f X hok2 h1
      have HI : Hid (invZ f (k + 1) = if k = 251 ∨ k = 249 then mulZ (invZ f k) (invZ f k) else mulZ (mulZ (invZ f k) (invZ f k)) f) := rfl
      clear hok hok2
      generalize invZ f k = c at rc C1 C2 HI
      have hrc := rc.range
      have hsc := (HSZ.out c).1
      obtain ⟨Cs, hCs⟩ : ∃ Cs, Cs = zV c 16 := ⟨_, rfl⟩
      rw [← hCs] at hrc hsc
      simp only [← hCs] at C1
      rw [← hAs.out] at C2
      clear hCs
      have hii : i - 1 = 253 - ((k + 1 : Nat) : Int) := by omega
      have li : i ≤ 253 := by omega
      replace hi : Hid (i = 253 - (k : Int)) := hi
      replace hii : Hid (i - 1 = 253 - ((k + 1 : Nat) : Int)) := hii
      go_wp2_with (refine wpList_load_mid rfl 108 _ rfl GC 0 rfl Cs _ hrc Tryz.underlying108 rfl hsc ?_)
      refine (C1 _).mono ?_
      rintro e w5 ⟨rfl, b5⟩
      have rc5 := rc.below b5
      have rA5 := rA.below b5
      have rR5 := rR.below b5
      have bel5 := below_on bel b5
      clear rc rA rR bel b5 C1 hrc hsc
      obtain ⟨M, hM⟩ : ∃ M, M = mulZ c c := ⟨_, rfl⟩
      simp only [← hM] at C2 HI
      rw [← hM]
      have hm1 := (HSZ.out M).1
      have hm2 := (HSZ.out M).2.1
      have hm3 := (HSZ.out M).2.2
      have hoM := zV_one M 16
      have pM := rc5.put (f' := M)
      have hthM : w5.there GC 0 (zV M 16).toArray.size := by rw [hm3]; exact rc5.there
      have rA6 := rA5.kept pM.2 hneA
      have rR6 := rR5.kept pM.2 hneR
      have bel6 := bel5.grown pM.2 bel5.size (fun k hk => by cases hk; exact hloC)
      have rc6 := pM.1
      have hrM := rc6.range
      have hrA := rA6.range
      obtain ⟨Ms, hMs⟩ : ∃ Ms, Ms = zV M 16 := ⟨_, rfl⟩
      rw [← hMs] at hm1 hm2 hthM hoM hrM rc6 rA6 rR6 bel6 hrA ⊢
      rw [← hAs.out] at hrA
      simp only [← hMs] at C2
      clear hMs hM pM rc5 rA5 rR5 bel5 hm3
      by_cases hs : k = 251 ∨ k = 249
      · have HI' : invZ f (k + 1) = M := by rw [HI.out, if_pos hs]
        clear HI C2
        rcases hs with h | h
        · have z2 : i = 2 := by have := hi.out; omega
          subst z2
          go_wp2_with (refine wpList_store_mid rfl 108 _ _ rfl GC 0 Ms.toArray rfl rfl hthM hm2 (all_oneCell_toArray hoM) ?_)
          go_roundw
          case rel => exact ⟨k + 1, by omega, by rw [← hii.out]; rfl, by rw [HI']; exact rc6, rA6, rR6, bel6⟩
          case measure => simp [intOf]
        · have z2 : i = 4 := by have := hi.out; omega
          subst z2
          go_wp2_with (refine wpList_store_mid rfl 108 _ _ rfl GC 0 Ms.toArray rfl rfl hthM hm2 (all_oneCell_toArray hoM) ?_)
          go_roundw
          case rel => exact ⟨k + 1, by omega, by rw [← hii.out]; rfl, by rw [HI']; exact rc6, rA6, rR6, bel6⟩
          case measure => simp [intOf]
      · have HI' : invZ f (k + 1) = mulZ M f := by rw [HI.out, if_neg hs]
        have z2 : (i != 2) = true := by have := hi.out; simp; omega
        have z4 : (i != 4) = true := by have := hi.out; simp; omega
        clear HI
        go_wp2_with (first | (refine wpList_store_mid rfl 108 _ _ rfl GC 0 Ms.toArray rfl rfl hthM hm2 (all_oneCell_toArray hoM) ?_) | (refine wpList_load_mid rfl 108 _ rfl GC 0 rfl Ms _ hrM Tryz.underlying108 rfl hm1 ?_) | (refine wpList_load_mid rfl 108 _ rfl w.heap.size 0 rfl As _ hrA Tryz.underlying108 rfl hsA ?_))
        refine (C2 _).mono ?_
        rintro e w7 ⟨rfl, b7⟩
        have rc7 := rc6.below b7
        have rA7 := rA6.below b7
        have rR7 := rR6.below b7
        have bel7 := below_on bel6 b7
        clear C2 rc6 rA6 rR6 bel6 b7 hrM hrA hthM
        obtain ⟨N, hN⟩ : ∃ N, N = mulZ M f := ⟨_, rfl⟩
        rw [← hN] at HI' ⊢
        have hn2 := (HSZ.out N).2.1
        have hn3 := (HSZ.out N).2.2
        have hoN := zV_one N 16
        have pN := rc7.put (f' := N)
        have hthN : w7.there GC 0 (zV N 16).toArray.size := by rw [hn3]; exact rc7.there
        have rA8 := rA7.kept pN.2 hneA
        have rR8 := rR7.kept pN.2 hneR
        have bel8 := bel7.grown pN.2 bel7.size (fun k hk => by cases hk; exact hloC)
        have rc8 := pN.1
        obtain ⟨Ns, hNs⟩ : ∃ Ns, Ns = zV N 16 := ⟨_, rfl⟩
        rw [← hNs] at hn2 hthN hoN rc8 rA8 rR8 bel8 ⊢
        clear hNs hN pN rc7 rA7 rR7 bel7 hn3
        go_wp2_with (refine wpList_store_mid rfl 108 _ _ rfl GC 0 Ns.toArray rfl rfl hthN hn2 (all_oneCell_toArray hoN) ?_)
        go_roundw
        case rel => exact ⟨k + 1, by omega, by rw [← hii.out], by rw [HI']; exact rc8, rA8, rR8, bel8⟩
        case measure => simp [intOf]; omega
    · obtain rfl : k = 254 := by omega
      have hi' : i = -1 := by omega
      subst hi'
      have hrc := rc.range
      have hsz := (HSZ.out (invZ f 254)).1
      have hsz2 := (HSZ.out (invZ f 254)).2.1
      have hsC := (HSZ.out (invZ f 254)).2.2
      have hone := zV_one (invZ f 254) 16
      have hth2 : wr.there GR 0 (zV (invZ f 254) 16).toArray.size := by rw [hsC]; exact rR.there
      have hp := rR.put (f' := invZ f 254)
      have hbel : Below w.heap.size w (wr.setCells GR 0 (zV (invZ f 254) 16)) := bel.grown hp.2 bel.size (fun k hk => by cases hk; exact hloR)
      have hld := run_loadVar_mid (P := Tryz.prog) _ GR 0 108 _ _ hp.1.range Tryz.underlying108 rfl hsz
      obtain ⟨Cs, hCs⟩ : ∃ Cs, Cs = zV (invZ f 254) 16 := ⟨_, rfl⟩
      rw [← hCs] at hrc hsz hsz2 hth2 hbel hld hone
      replace hCs : Hid (Cs = zV (invZ f 254) 16) := hCs
      clear hp rc rA rR bel hsC
      go_wp2_with (first | (refine wpList_load_mid rfl 108 _ rfl GC 0 rfl Cs _ hrc Tryz.underlying108 rfl hsz ?_) | (refine wpList_store_mid rfl 108 _ _ rfl GR 0 Cs.toArray rfl rfl hth2 hsz2 (all_oneCell_toArray hone) ?_))
      (try simp only [Exit.inBlock, Exit.then])
      refine bodyPost_ret (v := .agg Cs.toArray) ?_ rfl ⟨by rw [hCs.out], hbel⟩
      simp [results, asAddr, Act.put, hld]

end Go.Proofs.YtdjdanpicbaieaaGreatDoor
