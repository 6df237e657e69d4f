/-
  What the program's readField answers of 32 bytes. Conditions: bytes; a capacity that is not less than the length.
-/
import Derived.Test.YtghoibggmddkmaoFieldJ
import Derived.Test.YtghoibggmddkmaoParts4
import Derived.Test.YtghoibggmddkmaoFieldK
namespace Go.Proofs.Ytghoibggmddkmao
open Go.RowKit

set_option maxRecDepth 100000 in
set_option maxHeartbeats 8000000 in
theorem readField_yes (b o c : Nat) (xs : List Int) (w : World) (hc : 32 ≤ c) (hb : ∀ x ∈ xs, 0 ≤ x ∧ x < 256) (h : ∀ i, i < 32 → w.cell? ⟨b, o + i, none⟩ = some (.int .u8 (xs.getD i 0))) :
    Calls Try.prog 24 #[.slice (some ⟨b, o, none⟩) 32 c] w fun e w' => e = .returned (.tuple #[uP (numF xs % fldP), .bool true]) ∧ Below w.heap.size w w' := by
  have hz := (zero_of_info infoU4).1
  have hblt : b < w.heap.size := World.block_lt_of_cell? w ⟨b, o + 0, none⟩ (h 0 (by decide))
  have HX : Hid (∀ X, Below w.heap.size w X → ∀ i, i < 32 → X.cell? ⟨b, o + i, none⟩ = some (.int .u8 (xs.getD i 0))) := fun X hX i hi => (hX.cell (p := ⟨b, o + i, none⟩) hblt).trans (h i hi)
  have hval := val_rdU hb
  have hrng := valU_range (f := rdU xs) (n := 4) (fun i _ => rdU_range hb i)
  have HP : Hid (∀ i, i < 4 → rdU xs i = numU (numF xs) i) := fun i hi => by rw [← hval]; exact num_of_parts (fun i _ => rdU_range hb i) hi
  rw [hval] at hrng
  have CR := fun X => rest_any (numF xs) X hrng.1 hrng.2
  have CC : Hid (∀ (k : Nat), k < 4 → ∀ X, Calls Try.prog 38 #[.slice (some ⟨b, o, none⟩) 32 c, .int .i64 (k : Int)] X fun e w' => e = .returned (.slice (some ⟨b, o + 8 * k, none⟩) 8 8) ∧ w' = X) := fun k hk X => cutPart_any b o c k X hk hc
  have HO : Hid (∀ i p, p < 8 → bits .or .u64 (byN xs i p : Int) (((xs.getD (8 * i + p) 0).toNat * 2 ^ (8 * p) : Nat) : Int) = (byN xs i (p + 1) : Int)) := fun i p hp => or_step hb i p hp
  have HL : Hid (∀ i p, p ≤ 8 → byN xs i p < 18446744073709551616) := fun i p hp => Nat.lt_of_lt_of_le (byN_lt hb i p) (Nat.le_trans (Nat.pow_le_pow_right (by decide) (show 8 * p ≤ 64 by omega)) (by decide))
  have HY : Hid (∀ j, ((xs.getD j 0).toNat : Int) = xs.getD j 0 ∧ (xs.getD j 0).toNat < 256) := fun j => by
    have := byteZ hb j
    exact ⟨Int.toNat_of_nonneg this.1, by omega⟩
  unfold uP at CR ⊢
  obtain ⟨V, hV⟩ : ∃ V, V = numU (numF xs % fldP) := ⟨_, rfl⟩
  rw [← hV] at CR ⊢
  obtain ⟨U, hU⟩ : ∃ U, U = numU (numF xs) := ⟨_, rfl⟩
  rw [← hU] at CR HP
  obtain ⟨Z, hZ⟩ : ∃ Z, Z = (uV (fun _ => 0) 4).toArray := ⟨_, rfl⟩
  obtain ⟨m0, m1, bel0, sz⟩ := rows2 w (fun _ => 0) (fun _ => 0) hZ hZ
  rw [← hZ] at hz
  clear hZ hV hU hval hrng hb h hblt hc
  go_enter Try.func24, Try.ntmps24
  go_wp2_with (fail)
  obtain ⟨G1, hG1⟩ : ∃ G1, G1 = w.heap.size + 1 := ⟨_, rfl⟩
  rw [← hG1] at m1 sz ⊢
  generalize (w.alloc (.cells Z 38)).alloc (.cells Z 38) = wb at m0 m1 bel0 sz ⊢
  have hne : w.heap.size ≠ G1 := by omega
  have hloR : w.heap.size ≤ G1 := by omega
  clear hG1 sz hz
  replace m1 := m1.congr (f' := rdI xs 0 0) fun i _ => (rdI_zero xs i).symm
  go_loopw [12] (fun i wr => ∃ k : Nat, k ≤ 4 ∧ i = .int .i64 k ∧ RowU 38 4 wr w.heap.size G1 (rdI xs k 0) ∧ RowU 38 4 wr w.heap.size w.heap.size (fun _ => 0) ∧ Below w.heap.size w wr)
    (fun i _ => 4 - (intOf i).toNat)
  case atStart => exact ⟨0, by omega, rfl, m1, m0, bel0⟩
  case round =>
    clear m0 m1 bel0
    obtain ⟨k, hk, rfl, hn, hr, bel⟩ := hrel
    by_cases hlt : k < 4
    · have hlt' : (k : Int) < 4 := by omega
      have C := CC.out k hlt
      go_wp2_with (fail)
      refine (C _).mono ?_
      rintro e w1 ⟨rfl, rfl⟩
      clear C
      obtain ⟨ok, hok⟩ : ∃ ok, ok = o + 8 * k := ⟨_, rfl⟩
      rw [← hok]
      replace hok : Hid (ok = o + 8 * k) := hok
      go_wp2_with (fail)
      go_loopw [19] (fun i wx => ∃ p : Nat, p ≤ 8 ∧ i = .int .i64 p ∧ RowU 38 4 wx w.heap.size G1 (rdI xs k p) ∧ RowU 38 4 wx w.heap.size w.heap.size (fun _ => 0) ∧ Below w.heap.size w wx)
        (fun i _ => 8 - (intOf i).toNat)
      case atStart => exact ⟨0, by omega, rfl, hn, hr, bel⟩
      case round =>
        clear hn hr bel
        obtain ⟨p, hp, rfl, hn, hr, bel⟩ := hrel
        by_cases hlp : p < 8
        · have hlp' : (p : Int) < 8 := by omega
          have cx := HX.out _ bel (8 * k + p) (by omega)
          rw [← Nat.add_assoc, ← hok.out] at cx
          have cn := hn.cell k hlt
          rw [rdI_at] at cn
          have fn := hn.frozen k
          have hor := HO.out k p hlp
          have la := HL.out k p (by omega)
          have lu := HL.out k (p + 1) (by omega)
          have hy := HY.out (8 * k + p)
          have st := hn.set k (byN xs k (p + 1))
          have hn2 := st.1.congr fun i _ => rdI_step xs k p i
          have hr2 := hr.kept st.2 hne
          have bel2 := bel.grown st.2 (by have := hr.lt; omega) (fun k hk => by cases hk; exact hloR)
          have lb : (xs.getD (8 * k + p) 0).toNat * 2 ^ (8 * p) < 18446744073709551616 := Nat.lt_of_lt_of_le (Nat.mul_lt_mul_of_lt_of_le hy.2 (Nat.pow_le_pow_right (n := 2) (by decide) (show 8 * p ≤ 56 by omega)) (by decide)) (by decide)
          rw [← hy.1] at cx
          obtain ⟨q, hq⟩ : ∃ q, q = 8 * p := ⟨_, rfl⟩
          rw [← hq] at hor lb
          have eq8 : (8 : Int) * (p : Int) = (q : Int) := by omega
          have lq : q < 64 := by omega
          have lq' : (q : Int) < 64 := by omega
          have hx256 := hy.2
          generalize (xs.getD (8 * k + p) 0).toNat = x at cx hor lb hx256
          have eb : (x : Int) * 2 ^ q = ((x * 2 ^ q : Nat) : Int) := by simp
          generalize x * 2 ^ q = bb at hor lb eb
          generalize byN xs k (p + 1) = u at hor lu st hn2 hr2 bel2
          generalize byN xs k p = a at cn hor la
          have la' : (a : Int) < 18446744073709551616 := by omega
          have lu' : (u : Int) < 18446744073709551616 := by omega
          have lb' : (bb : Int) < 18446744073709551616 := by omega
          have lx' : (x : Int) < 256 := by omega
          have mb : (bb : Int) % 18446744073709551616 = (bb : Int) := by omega
          have mx : (x : Int) % 18446744073709551616 = (x : Int) := by omega
          clear st hn hr bel hy hq
          go_wp2_with (fail)
          go_region
          all_goals
            go_wp2
            go_roundw
            case rel => exact ⟨p + 1, by omega, by go_num, hn2.drew, hr2.drew, bel2.drew⟩
            case measure => simp [intOf]; omega
        · obtain rfl : p = 8 := by omega
          have hno : ¬ ((8 : Nat) : Int) < 8 := by omega
          replace hn := hn.congr (f' := rdI xs (k + 1) 0) fun i _ => rdI_next xs k i
          go_wp2_with (fail)
          go_roundw
          case rel => exact ⟨k + 1, by omega, by go_num, hn, hr, bel⟩
          case measure => simp [intOf]; omega
    · obtain rfl : k = 4 := by omega
      have hno : ¬ ((4 : Nat) : Int) < 4 := by omega
      have cn := hn.cell 3 (by decide)
      have e3 : rdI xs 4 0 3 = (byN xs 3 8 : Int) := by rw [rdI, if_pos (by decide)]
      rw [e3] at cn
      have fn := hn.frozen 3
      have l8 := HL.out 3 8 (by omega)
      have ht := top_off (byN xs 3 8) l8
      have st := hn.set 3 ((byN xs 3 8 % 9223372036854775808 : Nat) : Int)
      have hn2 := st.1.congr (f' := U) fun i hi => by rw [rdI_end xs hi, HP.out i hi]
      have hr2 := hr.kept st.2 hne
      have bel2 := bel.grown st.2 (by have := hr.lt; omega) (fun k hk => by cases hk; exact hloR)
      have lt2 : ((byN xs 3 8 % 9223372036854775808 : Nat) : Int) < 18446744073709551616 := by omega
      generalize ((byN xs 3 8 % 9223372036854775808 : Nat) : Int) = tt at ht st hn2 hr2 bel2 lt2
      generalize byN xs 3 8 = a at cn ht l8
      have l8' : (a : Int) < 18446744073709551616 := by omega
      have hra := hn2.range
      have hws := hr2.lt
      clear st hn hr bel HX HP CC HO HL HY e3 hn2
      go_wp2_with (refine wpList_load_mid rfl 38 _ rfl G1 0 rfl (uV U 4) _ hra Try.underlying38 rfl sizeU ?_)
      refine (CR _).mono ?_
      rintro e w2 ⟨rfl, b2⟩
      have hr3 := hr2.below b2
      have bel3 := below_on bel2 b2
      have hsz5 := b2.size
      clear hra hr2 bel2 b2 CR
      have hp := hr3.put (f' := V)
      have hth := hr3.there2 (f' := V)
      have hbel := bel3.grown hp.2 (by omega) (fun k hk => by cases hk; exact Nat.le_refl _)
      have hld := run_loadVar_mid (P := Try.prog) _ w.heap.size 0 38 _ _ hp.1.range Try.underlying38 rfl sizeU
      clear hp
      go_wp2_with (refine wpList_store_mid rfl 38 _ _ rfl w.heap.size 0 (uV V 4).toArray rfl rfl hth sizeU2 (all_oneCell_toArray (uV_one V 4)) ?_)
      (try simp only [Exit.inBlock, Exit.then])
      refine bodyPost_ret (v := .tuple #[.agg (uV V 4).toArray, .bool true]) ?_ rfl ⟨rfl, hbel⟩
      simp [results, asAddr, hld]

end Go.Proofs.Ytghoibggmddkmao
