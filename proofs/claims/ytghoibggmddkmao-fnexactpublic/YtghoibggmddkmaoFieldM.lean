/-
  What the program's bytes answers. Conditions: bytes; a capacity that is not less than the length.
-/
import Derived.Test.YtghoibggmddkmaoFieldJ
import Derived.Test.YtghoibggmddkmaoParts4
import Derived.Test.YtghoibggmddkmaoFieldK
namespace Go.Proofs.Ytghoibggmddkmao
open Go.RowKit

set_option maxRecDepth 100000 in
set_option maxHeartbeats 8000000 in
theorem bytesU_any (z : Int) (w : World) :
    Calls Try.prog 29 #[uP z] w fun e w' => ∃ p', e = .returned (.slice p' 32 32) ∧ Own 5 w' w.heap.size w'.heap.size (.slice p' 32 32) 32 (numB z) ∧ Below w.heap.size w w' := by
  obtain ⟨i0, hi, hz0, hz1, hz2⟩ := info_parts infoByte
  have HG : Hid (∀ i, i < 4 → ∀ p, p < 8 → numU z i / 2 ^ (8 * p) % 256 = (numB z).getD (8 * i + p) 0) := fun i hi p hp => byte_at z i p hi hp
  have hxl := numB_length z
  have m0 := RowU.made w 38 4 w.heap.size (numU z) (by decide) (Nat.le_refl _)
  have ba : Below w.heap.size w (w.alloc (.cells (uV (numU z) 4).toArray 38)) := (Below.refl _ _).alloc (Nat.le_refl _) _
  have HI : Hid (∀ (k : Nat), k < 4 → ∀ (w : World), (Instr.index 38 (.agg (uV (numU z) 4).toArray) (.int .i64 (k : Int))).run Try.prog w = .ok (.int .u64 (numU z k)) w) := fun k hk w => index4 (numU z) k hk w
  have hsz := sizeU (f := numU z)
  unfold uP
  obtain ⟨Cs, hCs⟩ : ∃ Cs, Cs = uV (numU z) 4 := ⟨_, rfl⟩
  have HR0 : Hid (∀ X, Below (w.alloc (.cells (uV (numU z) 4).toArray 38)).heap.size (w.alloc (.cells (uV (numU z) 4).toArray 38)) X → X.rangeAt w.heap.size 0 (uV (numU z) 4)) := fun X hX => (m0.below hX).range
  rw [← hCs] at HR0 ba HI hsz ⊢
  have sa : (w.alloc (.cells Cs.toArray 38)).heap.size = w.heap.size + 1 := by simp
  clear hCs m0
  generalize numB z = xs at HG hxl ⊢
  have CC : Hid (∀ (k : Nat), k < 4 → ∀ X, Calls Try.prog 38 #[.slice (some ⟨w.heap.size + 1, 0, none⟩) 32 32, .int .i64 (k : Int)] X fun e w' => e = .returned (.slice (some ⟨w.heap.size + 1, 0 + 8 * k, none⟩) 8 8) ∧ w' = X) := fun k hk X => cutPart_any (w.heap.size + 1) 0 32 k X hk (by decide)
  go_enter Try.func29, Try.ntmps29
  go_wp2_with (at_make; refine wpList_make_full _ rfl _ _ 22 rfl (w.heap.size + 1) 5 i0 (.int .u8 0) 1 Try.underlying22 hi hz0 hz1 _ _ _ _ 32 rfl rfl rfl rfl (by rw [hz2]; omega) (by unfold maxLen; omega) (by simp) ?_)
  intro w1 hown hgrow
  rw [fill_start xs 32] at hown
  obtain ⟨G, hG⟩ : ∃ G, G = w.heap.size + 1 := ⟨_, rfl⟩
  have hbel : Below w.heap.size w w1 := ba.grown hgrow (by omega) (fun _ h => by cases h)
  have hr1 : w1.rangeAt w.heap.size 0 Cs := HR0.out _ ((Below.refl _ _).grown hgrow (Nat.le_refl _) (fun _ h => by cases h))
  rw [← hG] at hown CC ⊢
  have hlo : w.heap.size < G := by omega
  replace hown := owns_mono hown (Nat.le_of_lt hlo)
  clear hgrow HR0 ba sa hG
  go_wp2_with (refine wpList_load_mid rfl 38 _ rfl w.heap.size 0 rfl Cs _ hr1 Try.underlying38 rfl hsz ?_)
  clear hr1 hsz
  go_loopw [10] (fun i wr => ∃ k : Nat, k ≤ 4 ∧ i = .int .i64 k ∧ wr.ownsRow w.heap.size 5 1 (.slice (some ⟨G, 0, none⟩) 32 32) 32 ((xs.take (8 * k) ++ List.replicate (32 - 8 * k) 0).map (Value.int .u8)) ∧ Below w.heap.size w wr)
    (fun i _ => 4 - (intOf i).toNat)
  case atStart => exact ⟨0, by omega, rfl, hown, hbel⟩
  case round =>
    clear hown hbel
    obtain ⟨k, hk, rfl, hown, hbel⟩ := hrel
    by_cases hlt : k < 4
    · have hlt' : (k : Int) < 4 := by omega
      have C := CC.out k hlt
      have hix := HI.out k hlt
      have hun := numU_range z k
      have HGk := fun p hp => HG.out k hlt p hp
      generalize numU z k = u at hix hun HGk
      replace HGk : Hid (∀ p, p < 8 → u / 2 ^ (8 * p) % 256 = xs.getD (8 * k + p) 0) := HGk
      go_wp2_with (fail)
      refine (C _).mono ?_
      rintro e w2 ⟨rfl, rfl⟩
      clear C hix
      obtain ⟨ok, hok⟩ : ∃ ok, ok = 0 + 8 * k := ⟨_, rfl⟩
      rw [← hok]
      replace hok : Hid (ok = 8 * k) := by rw [Hid, hok, Nat.zero_add]
      rw [← hok.out] at hown
      go_wp2_with (fail)
      go_loopw [19] (fun i wx => ∃ p : Nat, p ≤ 8 ∧ i = .int .i64 p ∧ wx.ownsRow w.heap.size 5 1 (.slice (some ⟨G, 0, none⟩) 32 32) 32 ((xs.take (ok + p) ++ List.replicate (32 - (ok + p)) 0).map (Value.int .u8)) ∧ Below w.heap.size w wx)
        (fun i _ => 8 - (intOf i).toNat)
      case atStart => exact ⟨0, by omega, rfl, hown, hbel⟩
      case round =>
        clear hown hbel
        obtain ⟨p, hp, rfl, hown, hbel⟩ := hrel
        by_cases hlp : p < 8
        · have hlp' : (p : Int) < 8 := by omega
          have hgp := HGk.out p hlp
          rw [← hok.out] at hgp
          have hok32 : ok + p < 32 := by have := hok.out; omega
          have hold : wr.cell? ⟨G, ok + p, none⟩ = some (.int .u8 0) := by
            have := hown.cellAt (ok + p) (by omega)
            rw [this]
            exact fill_old xs 32 (ok + p) hok32 hxl
          have hfz := hown.frozenAt (ok + p)
          have hst := hown.stored (ok + p) (.int .u8 (u / 2 ^ (8 * p) % 256))
          rw [fill_step xs 32 (ok + p) _ hgp hok32 hxl] at hst
          have hbel' := hbel.setCell (p := ⟨G, ok + p, none⟩) (Nat.le_of_lt hlo) (.int .u8 (u / 2 ^ (8 * p) % 256))
          obtain ⟨q, hq⟩ : ∃ q, q = 8 * p := ⟨_, rfl⟩
          rw [← hq] at hst hbel'
          have eq8 : (8 : Int) * (p : Int) = (q : Int) := by omega
          have lq : q < 64 := by omega
          have lq' : (q : Int) < 64 := by omega
          have hvn : 0 ≤ u / 2 ^ q := Int.ediv_nonneg hun.1 (Int.le_of_lt (Int.pow_pos (by decide)))
          have hvl : u / 2 ^ q < 18446744073709551616 := Int.lt_of_le_of_lt (Int.ediv_le_self _ hun.1) hun.2
          obtain ⟨v, hv⟩ : ∃ v, v = u / 2 ^ q := ⟨_, rfl⟩
          have ev : u / 2 ^ q = v := hv.symm
          rw [ev] at hst hbel' hvn hvl
          obtain ⟨s, hs⟩ : ∃ s, s = v % 256 := ⟨_, rfl⟩
          have es : v % 256 = s := hs.symm
          rw [es] at hst hbel'
          have wv : IntKind.u64.wrap v = v := by rw [IntKind.wrap_u64]; omega
          clear hgp hq hown hv hs
          go_wp2_with (fail)
          go_roundw
          case rel => exact ⟨p + 1, by omega, by go_num, hst.1, hbel'⟩
          case measure => simp [intOf]; omega
        · obtain rfl : p = 8 := by omega
          have hno : ¬ ((8 : Nat) : Int) < 8 := by omega
          have e8 : ok + 8 = 8 * (k + 1) := by have := hok.out; omega
          rw [e8] at hown
          go_wp2_with (fail)
          go_roundw
          case rel => exact ⟨k + 1, by omega, by go_num, hown, hbel⟩
          case measure => simp [intOf]; omega
    · obtain rfl : k = 4 := by omega
      have hno : ¬ ((4 : Nat) : Int) < 4 := by omega
      rw [show 8 * 4 = 32 from rfl, fill_end xs 32 hxl] at hown
      go_wp2_with (fail)
      go_ret
      exact ⟨_, rfl, .of hown, hbel⟩

end Go.Proofs.Ytghoibggmddkmao
