/-
  What the specification's l8Of answers: 32 bytes as 16 parts, the highest bit left away. Condition: bytes.
-/
import Derived.Test.YtghoibggmddkmaoFieldOps
namespace Go.Proofs.Ytghoibggmddkmao
open Go.RowKit

def pairZ (xs : List Int) (i : Nat) : Int := xs.getD (2 * i) 0 + 256 * xs.getD (2 * i + 1) 0
def ofZ (xs : List Int) (i : Nat) : Int := if i = 15 then pairZ xs 15 % 32768 else pairZ xs i
theorem byteZ {xs : List Int} (hb : ∀ x ∈ xs, 0 ≤ x ∧ x < 256) (i : Nat) : 0 ≤ xs.getD i 0 ∧ xs.getD i 0 < 256 := by
  rw [List.getD_eq_getElem?_getD]
  cases hk : xs[i]? with
  | none => simp
  | some x => exact hb x (List.mem_of_getElem? hk)
theorem pairZ_range {xs : List Int} (hb : ∀ x ∈ xs, 0 ≤ x ∧ x < 256) (i : Nat) : 0 ≤ pairZ xs i ∧ pairZ xs i < 65536 := by
  have := byteZ hb (2 * i)
  have := byteZ hb (2 * i + 1)
  unfold pairZ
  omega
theorem ofZ_range {xs : List Int} (hb : ∀ x ∈ xs, 0 ≤ x ∧ x < 256) (i : Nat) : 0 ≤ ofZ xs i ∧ ofZ xs i < 65536 := by
  have := pairZ_range hb i
  have := pairZ_range hb 15
  unfold ofZ
  split <;> omega
theorem and_32767 (v : Int) (h0 : 0 ≤ v) (h1 : v < 65536) : bits .and .i64 v 32767 = v % 32768 := by
  obtain ⟨n, rfl⟩ : ∃ n : Nat, v = n := ⟨v.toNat, by omega⟩
  have e : bits .and .i64 (n : Int) 32767 = IntKind.i64.wrap ((BitVec.ofInt 64 (n : Int) &&& BitVec.ofInt 64 32767).toNat : Int) := rfl
  have e1 : (BitVec.ofInt 64 (n : Int)).toNat = n := by rw [BitVec.toNat_ofInt]; omega
  have e2 : (BitVec.ofInt 64 32767).toNat = 2 ^ 15 - 1 := rfl
  rw [e, BitVec.toNat_and, e1, e2, Nat.and_two_pow_sub_one_eq_mod, IntKind.wrap_i64]
  omega

set_option maxRecDepth 100000 in
set_option maxHeartbeats 4000000 in
theorem l8Of_any (p : Option Addr) (c : Nat) (xs : List Int) (w : World) (h : BytesIn w p 32 xs) (hb : ∀ x ∈ xs, 0 ≤ x ∧ x < 256) :
    Calls Try.prog 20 #[.slice p 32 c] w fun e w' => e = .returned (.agg (zV (ofZ xs) 16).toArray) ∧ Below w.heap.size w w' := by
  have hz := (zero_of_info infoZ16).1
  have hsz0 := (zero_of_info infoZ16).2
  obtain ⟨b, o, rfl, hcell⟩ := h (by decide)
  have lb : b < w.heap.size := World.block_lt_of_cell? w ⟨b, o + 0, none⟩ (hcell 0 (by omega))
  have m0 := RowZ.made w 32 16 w.heap.size (fun _ => 0) (by decide) (Nat.le_refl _)
  have m1' := fun X hX => RowZ.made X 32 16 w.heap.size (fun _ => 0) (by decide) hX
  obtain ⟨Z, hZ⟩ : ∃ Z, Z = (zV (fun _ => 0) 16).toArray := ⟨_, rfl⟩
  rw [← hZ] at hz m0
  simp only [← hZ] at m1'
  clear hZ
  have ba : Below w.heap.size w (w.alloc (.cells Z 32)) := (Below.refl _ _).alloc (Nat.le_refl _) _
  have sa : (w.alloc (.cells Z 32)).heap.size = w.heap.size + 1 := by simp
  have m1 := m1' (w.alloc (.cells Z 32)) (by omega)
  have bb : Below (w.alloc (.cells Z 32)).heap.size (w.alloc (.cells Z 32)) ((w.alloc (.cells Z 32)).alloc (.cells Z 32)) := (Below.refl _ _).alloc (Nat.le_refl _) _
  have q0 := m0.below bb
  have bel := below_on ba bb
  rw [sa] at m1
  go_enter Try.func20, Try.ntmps20
  go_wp2_with (fail)
  obtain ⟨GB, hGB⟩ : ∃ GB, GB = w.heap.size + 1 := ⟨_, rfl⟩
  rw [← hGB] at m1 ⊢
  have hne1 : w.heap.size ≠ GB := by omega
  have hbne : b ≠ GB := by omega
  have hlo : w.heap.size ≤ GB := by omega
  generalize (w.alloc (.cells Z 32)).alloc (.cells Z 32) = wb at q0 m1 bel ⊢
  have HB : Hid (∀ i, i < 32 → wb.cell? ⟨b, o + i, none⟩ = some (.int .u8 (xs.getD i 0))) := fun i hi => (bel.cell (p := ⟨b, o + i, none⟩) lb).trans (hcell i hi)
  have lbb : b < wb.heap.size := Nat.lt_of_lt_of_le lb bel.size
  have hs0 : RowZ 32 16 wb w.heap.size GB (fun i => if i < 0 then pairZ xs i else 0) := m1.congr fun i _ => by rw [if_neg (by omega)]
  clear m0 m1 m1' ba sa bb hGB hz hcell
  go_loopw [4] (fun i wr => ∃ k : Nat, k ≤ 16 ∧ i = .int .i64 k ∧ RowZ 32 16 wr w.heap.size GB (fun i => if i < k then pairZ xs i else 0) ∧ wb.grownBy wr (some GB))
    (fun i _ => 16 - (intOf i).toNat)
  case atStart => exact ⟨0, by omega, rfl, hs0, World.grownBy.refl _ _⟩
  case round =>
    clear hs0
    obtain ⟨k, hk, rfl, hr, hgr⟩ := hrel
    by_cases hlt : k < 16
    · have hlt' : (k : Int) < 16 := by omega
      have c0 := hr.cell k hlt
      simp only [Nat.lt_irrefl, if_false] at c0
      have f0 := hr.frozen k
      obtain ⟨k2, hk2⟩ : ∃ k2 : Nat, k2 = 2 * k := ⟨_, rfl⟩
      have ek2 : (2 : Int) * (k : Int) = (k2 : Int) := by omega
      obtain ⟨k3, hk3⟩ : ∃ k3 : Nat, k3 = 2 * k + 1 := ⟨_, rfl⟩
      have ek3 : (k2 : Int) + 1 = (k3 : Int) := by omega
      have lk2 : (k2 : Int) < 32 := by omega
      have lk3 : (k3 : Int) < 32 := by omega
      have x0 : wr.cell? ⟨b, o + k2, none⟩ = some (.int .u8 (xs.getD k2 0)) := by
        rw [← HB.out k2 (by omega)]
        simp only [World.cell?, hgr.block b lbb (by simp; exact hbne)]
      have x1 : wr.cell? ⟨b, o + k3, none⟩ = some (.int .u8 (xs.getD k3 0)) := by
        rw [← HB.out k3 (by omega)]
        simp only [World.cell?, hgr.block b lbb (by simp; exact hbne)]
      have r1 := hr.set k (pairZ xs k)
      have HF : RowZ 32 16 _ w.heap.size GB (fun i => if i < k + 1 then pairZ xs i else 0) := r1.1.congr fun i hi => by
        by_cases a1 : i = k
        · subst a1
          rw [if_pos rfl, if_pos (by omega)]
        · rw [if_neg a1]
          have : i < k ↔ i < k + 1 := by omega
          simp only [this]
      have hgr' := grown_trans hgr r1.2
      have l1 := byteZ hb k2
      have l2 := byteZ hb k3
      have HP : pairZ xs k = xs.getD k2 0 + 256 * xs.getD k3 0 := by rw [hk2, hk3]; rfl
      rw [HP] at HF hgr'
      generalize xs.getD k2 0 = x at x0 l1 HF hgr'
      generalize xs.getD k3 0 = y at x1 l2 HF hgr'
      obtain ⟨y2, hy2⟩ : ∃ y2, y2 = 256 * y := ⟨_, rfl⟩
      have ey : y * 256 = y2 := by omega
      have wy : IntKind.i64.wrap (y * 256) = y2 := by rw [IntKind.wrap_i64]; omega
      obtain ⟨z, hz'⟩ : ∃ z, z = x + 256 * y := ⟨_, rfl⟩
      have ez : x + y2 = z := by omega
      rw [← hz'] at HF hgr'
      have lz : 0 ≤ z ∧ z < 65536 := by omega
      have ly2 : 0 ≤ y2 ∧ y2 < 65536 := by omega
      clear r1 hr hgr hz' hy2 hk2 hk3 HP
      go_wp2_with (fail)
      go_region
      all_goals
        go_wp2
        go_roundw
        case rel => exact ⟨k + 1, by omega, by go_num, HF, ⟨hgr'.os, hgr'.tape, hgr'.output, hgr'.size, hgr'.block⟩⟩
        case measure => simp [intOf]; omega
    · obtain rfl : k = 16 := by omega
      have hnl : ¬ ((16 : Nat) : Int) < 16 := by omega
      have c0 := hr.cell 15 (by omega)
      simp only [show (15 : Nat) < 16 from by decide, if_true] at c0
      have f0 := hr.frozen 15
      have hp15 := pairZ_range hb 15
      have r1 := hr.set 15 (pairZ xs 15 % 32768)
      obtain ⟨F, hF⟩ : ∃ F : Nat → Int, F = ofZ xs := ⟨_, rfl⟩
      have hr16 : RowZ 32 16 _ w.heap.size GB F := r1.1.congr fun i hi => by
        rw [hF, ofZ]
        by_cases a1 : i = 15
        · rw [if_pos a1, if_pos a1]
        · rw [if_neg a1, if_neg a1, if_pos hi]
      have hgr' := grown_trans hgr r1.2
      have ea := and_32767 (pairZ xs 15) hp15.1 hp15.2
      generalize pairZ xs 15 = x at c0 hp15 r1 hr16 hgr' ea
      obtain ⟨x', hx'⟩ : ∃ x', x' = x % 32768 := ⟨_, rfl⟩
      rw [← hx'] at hr16 hgr' ea
      have hra := hr16.range
      have hk2 := q0.kept hgr' hne1
      have hsC : (zV F 16).toArray.size = 16 := by simp [zV_length]
      have hsz : (Try.prog.info? 32).map (·.size) = some (zV F 16).length := by rw [zV_length]; exact hsz0
      have hsz2 : (Try.prog.info? 32).map (·.size) = some (zV F 16).toArray.size := by rw [hsC]; exact hsz0
      have hth2 : (wr.setCell ⟨GB, 15, none⟩ (.int .i64 x')).there w.heap.size 0 (zV F 16).toArray.size := by rw [hsC]; exact hk2.there
      have hp := hk2.put (f' := F)
      have hbel : Below w.heap.size w ((wr.setCell ⟨GB, 15, none⟩ (.int .i64 x')).setCells w.heap.size 0 (zV F 16)) := (bel.grown hgr' bel.size (fun k hk => by cases hk; exact hlo)).grown hp.2 (Nat.le_trans bel.size hgr'.size) (fun k hk => by cases hk; exact Nat.le_refl _)
      have hld := run_loadVar_mid (P := Try.prog) _ w.heap.size 0 32 _ _ hp.1.range Try.underlying32 rfl hsz
      have hone := zV_one F 16
      obtain ⟨Cs, hCs⟩ : ∃ Cs, Cs = zV F 16 := ⟨_, rfl⟩
      rw [← hCs] at hra hsz hsz2 hth2 hbel hld hone
      replace hCs : Hid (Cs = zV (ofZ xs) 16) := by rw [Hid, hCs, hF]
      clear hp hk2 hr hr16 hgr hgr' q0 bel hsC hF r1 hx' HB
      go_wp2_with (first | (refine wpList_load_mid rfl 32 _ rfl GB 0 rfl Cs _ hra Try.underlying32 rfl hsz ?_) | (refine wpList_store_mid rfl 32 _ _ rfl w.heap.size 0 Cs.toArray rfl rfl hth2 hsz2 (all_oneCell_toArray hone) ?_))
      (try simp only [Exit.inBlock, Exit.then])
      refine bodyPost_ret (v := .agg Cs.toArray) ?_ rfl ⟨by rw [hCs.out], hbel⟩
      simp [results, asAddr, hld]

end Go.Proofs.Ytghoibggmddkmao
