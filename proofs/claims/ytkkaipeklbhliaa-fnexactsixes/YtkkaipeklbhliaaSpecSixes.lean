/-
  FnExactSixes: what spec.Sixes answers. Conditions: at most 1048576 bytes.
-/
import Derived.Test.YtkkaipeklbhliaaSixMath
namespace Go.Proofs.Ytkkaipeklbhliaa
open Go.RowKit
set_option maxRecDepth 100000

theorem l21Signs_any (w : World) : Calls Try.prog 22 #[] w fun e w' => e = .returned (.string ⟨sixSigns.toArray⟩) ∧ w' = w := by
  go_enter Try.func22, Try.ntmps22
  go_wp2
  go_ret
  exact ⟨rfl, rfl⟩

set_option maxHeartbeats 2000000 in
theorem specSixes_any (p : Option Addr) (n c : Nat) (xs : List Int) (w : World) (hn : n ≤ 1048576) (hx : xs.length = n) (h : BytesIn w p n xs) (hr : ∀ x ∈ xs, 0 ≤ x ∧ x < 256) :
    Calls Try.prog 7 #[.slice p n c] w fun e w' => e = .returned (.string (strOfNums (sixL xs))) ∧ Below w.heap.size w w' := by
  obtain ⟨i0, hi, hz0, hz1, hz2⟩ := info_parts infoByte
  go_enter Try.func7, Try.ntmps7
  go_wp2_with (go_at_call 22; refine (l21Signs_any _).mono ?_; rintro e w' ⟨rfl, he⟩; obtain rfl := he.symm)
  go_loopw [4, 5, 6, 7] (fun v hd b i wr => ∃ (k : Nat) (H : Int), k ≤ n ∧ i = .int .i64 k ∧ hd = .int .i64 H ∧ Hid (SixH xs k H) ∧ b = .int .i64 ((8 * k % 6 : Nat) : Int) ∧ wr.ownsRow w.heap.size 5 1 v (8 * k / 6) ((sixT xs (8 * k / 6)).map (Value.int .u8)) ∧ Below w.heap.size w wr)
    (fun _ _ _ i _ => n - (intOf i).toNat)
  case atStart => exact ⟨0, 0, Nat.zero_le _, rfl, rfl, SixH.start, rfl, World.ownsRow_made w #[] 0 (Nat.le_refl _) (by unfold maxLen; omega) rfl, (Below.refl _ _).alloc (Nat.le_refl _) _⟩
  case round =>
    obtain ⟨k, H, hk, rfl, rfl, hH, rfl, hown, hbel⟩ := hrel
    have hsz := hbel.size
    by_cases hlt : k < n
    · obtain ⟨b, o, rfl, hc⟩ := h (by omega)
      obtain ⟨u, hu⟩ : ∃ u, u = xs.getD k 0 := ⟨_, rfl⟩
      have hcx : wr.cell? ⟨b, o + k, none⟩ = some (.int .u8 u) := by
        rw [hbel.cell (p := ⟨b, o + k, none⟩) (World.block_lt_of_cell? w ⟨b, o + k, none⟩ (hc k hlt)), hu]
        exact hc k hlt
      have hu0 : 0 ≤ u ∧ u < 256 := by rw [hu]; exact getD_byte hr k
      obtain ⟨hu1, hu2⟩ := hu0
      have hm := sixAnd63 H
      have hor := six_or8 (H % 64) u ⟨by omega, by omega⟩ ⟨hu1, hu2⟩
      have hN : Hid (SixH xs (k + 1) (H % 64 * 256 + u)) := SixH.next hr hu
      have hu' : Hid (u = xs.getD k 0) := hu
      clear hc h hu
      go_wp2
      go_loopw [4, 6] (fun v d wX => ∃ t : Nat, 6 * t ≤ 8 * (k + 1) ∧ 8 * (k + 1) ≤ 6 * t + 12 ∧ d = .int .i64 (8 * ((k : Int) + 1) - 6 * (t : Int)) ∧ wX.ownsRow w.heap.size 5 1 v t ((sixT xs t).map (Value.int .u8)) ∧ Below w.heap.size w wX)
        (fun _ d _ => (intOf d).toNat)
      case atStart => exact ⟨8 * k / 6, by omega, by omega, by congr 1; omega, hown, hbel⟩
      case round =>
        clear hown hbel hsz
        obtain ⟨t, ht1, ht2, rfl, hown, hbel⟩ := hrel
        have hsz := hbel.size
        by_cases hb : 8 * ((k : Int) + 1) - 6 * (t : Int) < 6
        · have hb' : Hid (8 * ((k : Int) + 1) - 6 * (t : Int) < 6) := hb
          obtain ⟨tt, htt⟩ : ∃ tt, tt = 8 * (k + 1) / 6 := ⟨_, rfl⟩
          obtain rfl : t = 8 * (k + 1) / 6 := by omega
          go_wp2
          go_roundw
          case rel => exact ⟨k + 1, H % 64 * 256 + u, by omega, by go_num, rfl, hN, by congr 1; omega, hown, hbel⟩
          case measure => simp [intOf]; omega
        · have h4 : 8 * ((k : Int) + 1) - 6 * (t : Int) = 8 ∨ 8 * ((k : Int) + 1) - 6 * (t : Int) = 10 ∨ 8 * ((k : Int) + 1) - 6 * (t : Int) = 12 ∨ 8 * ((k : Int) + 1) - 6 * (t : Int) = 6 := by omega
          have hD := sixD_lt hr t
          obtain ⟨hD0, hD1⟩ := hD
          have e1 := sx_at (sixD xs t) hD0 hD1
          have HN : Hid (sixT xs t ++ [sx (sixD xs t)] = sixT xs (t + 1)) := sixT_step xs t
          have hH2 := hH.out
          rcases h4 with h4 | h4 | h4 | h4
          · have hd := dig8 (H := H) hr hu'.out h4
            have hm2 := sixAnd63 ((H % 64 * 256 + u) / 4)
            have h4' : Hid (8 * ((k : Int) + 1) - 6 * (t : Int) = 8) := h4
            rw [h4] at hb ⊢
            clear h4 hH2
            go_wp2_with (at_builtin; refine list_push hi hz0 hz1 hz2 (.tmp 31) (.tmp 38) 22 Try.underlying22 _ hown (by omega) hsz (by rfl) (by rfl) (by rfl) (by rfl) ?_; intro g cap w1 ho1 hb1; rw [HN.out] at ho1)
            go_roundw
            case rel => exact ⟨t + 1, by have := h4'.out; omega, by have := h4'.out; omega, by have := h4'.out; congr 1; omega, ho1, hbel.trans hb1⟩
            case measure => simp [intOf] <;> omega
          · have hd := dig10 hr hH2 hu'.out h4
            have hm2 := sixAnd63 ((H % 64 * 256 + u) / 16)
            have h4' : Hid (8 * ((k : Int) + 1) - 6 * (t : Int) = 10) := h4
            rw [h4] at hb ⊢
            clear h4 hH2
            go_wp2_with (at_builtin; refine list_push hi hz0 hz1 hz2 (.tmp 31) (.tmp 38) 22 Try.underlying22 _ hown (by omega) hsz (by rfl) (by rfl) (by rfl) (by rfl) ?_; intro g cap w1 ho1 hb1; rw [HN.out] at ho1)
            go_roundw
            case rel => exact ⟨t + 1, by have := h4'.out; omega, by have := h4'.out; omega, by have := h4'.out; congr 1; omega, ho1, hbel.trans hb1⟩
            case measure => simp [intOf] <;> omega
          · have hd := dig12 hr hH2 hu'.out h4
            have hm2 := sixAnd63 ((H % 64 * 256 + u) / 64)
            have h4' : Hid (8 * ((k : Int) + 1) - 6 * (t : Int) = 12) := h4
            rw [h4] at hb ⊢
            clear h4 hH2
            go_wp2_with (at_builtin; refine list_push hi hz0 hz1 hz2 (.tmp 31) (.tmp 38) 22 Try.underlying22 _ hown (by omega) hsz (by rfl) (by rfl) (by rfl) (by rfl) ?_; intro g cap w1 ho1 hb1; rw [HN.out] at ho1)
            go_roundw
            case rel => exact ⟨t + 1, by have := h4'.out; omega, by have := h4'.out; omega, by have := h4'.out; congr 1; omega, ho1, hbel.trans hb1⟩
            case measure => simp [intOf] <;> omega
          · have hd := dig6 (H := H) hr hu'.out h4
            have hm2 := sixAnd63 (H % 64 * 256 + u)
            have h4' : Hid (8 * ((k : Int) + 1) - 6 * (t : Int) = 6) := h4
            rw [h4] at hb ⊢
            clear h4 hH2
            go_wp2_with (at_builtin; refine list_push hi hz0 hz1 hz2 (.tmp 31) (.tmp 38) 22 Try.underlying22 _ hown (by omega) hsz (by rfl) (by rfl) (by rfl) (by rfl) ?_; intro g cap w1 ho1 hb1; rw [HN.out] at ho1)
            go_roundw
            case rel => exact ⟨t + 1, by have := h4'.out; omega, by have := h4'.out; omega, by have := h4'.out; congr 1; omega, ho1, hbel.trans hb1⟩
            case measure => simp [intOf] <;> omega
    · have hkn : k = n := by omega
      subst hkn
      have h3 : 8 * k % 6 = 0 ∧ k % 3 = 0 ∨ 8 * k % 6 = 2 ∧ k % 3 = 1 ∨ 8 * k % 6 = 4 ∧ k % 3 = 2 := by omega
      have hL : ∀ m, 8 * k / 6 = m → m = sixN k → sixT xs m = sixL xs := fun m _ e => by unfold sixL; rw [hx, e]
      rcases h3 with ⟨h3, h4⟩ | ⟨h3, h4⟩ | ⟨h3, h4⟩
      · have eN : 8 * k / 6 = sixN k := by unfold sixN; omega
        rw [eN] at hown
        have eL : sixT xs (sixN k) = sixL xs := by unfold sixL; rw [hx]
        rw [eL] at hown
        rw [h3]
        clear hH hL h4 eN
        obtain ⟨p', c', hv⟩ := owns_form hown
        subst hv
        have g := text_of (P := Try.prog) (owns_in hown) (owns_len hown) c' 22 5 9 Try.underlying22 Try.underlying5 Try.underlying9
        go_wp2
        go_ret
        exact ⟨rfl, hbel⟩
      · obtain ⟨hd, eN⟩ := end2 hH.out hx h4
        obtain ⟨hH0, hH1, _⟩ := hH.out
        have eL : sixT xs (8 * k / 6 + 1) = sixL xs := by unfold sixL; rw [hx, eN]
        have hm2 := sixAnd63 (H * 16)
        obtain ⟨hD0, hD1⟩ := sixD_lt hr (8 * k / 6)
        have e1 := sx_at (sixD xs (8 * k / 6)) hD0 hD1
        have HN : Hid (sixT xs (8 * k / 6) ++ [sx (sixD xs (8 * k / 6))] = sixL xs) := (sixT_step xs _).trans eL
        obtain ⟨t, ht⟩ : ∃ t, 8 * k / 6 = t := ⟨_, rfl⟩
        rw [ht] at hd HN e1 hD0 hD1 hown
        rw [h3]
        have ht1 : t ≤ 1099511627776 := by omega
        clear hH hL h4 eN eL ht
        go_wp2_with (at_builtin; refine list_push hi hz0 hz1 hz2 (.tmp 42) (.tmp 50) 22 Try.underlying22 _ hown ht1 hsz (by rfl) (by rfl) (by rfl) (by rfl) ?_; intro g cap w1 ho1 hb1; rw [HN.out] at ho1; have ge := text_of (P := Try.prog) (owns_in ho1) (owns_len ho1) cap 22 5 9 Try.underlying22 Try.underlying5 Try.underlying9)
        go_ret
        exact ⟨rfl, hbel.trans hb1⟩
      · obtain ⟨hd, eN⟩ := end4 hH.out hx h4
        obtain ⟨hH0, hH1, _⟩ := hH.out
        have eL : sixT xs (8 * k / 6 + 1) = sixL xs := by unfold sixL; rw [hx, eN]
        have hm2 := sixAnd63 (H * 4)
        obtain ⟨hD0, hD1⟩ := sixD_lt hr (8 * k / 6)
        have e1 := sx_at (sixD xs (8 * k / 6)) hD0 hD1
        have HN : Hid (sixT xs (8 * k / 6) ++ [sx (sixD xs (8 * k / 6))] = sixL xs) := (sixT_step xs _).trans eL
        obtain ⟨t, ht⟩ : ∃ t, 8 * k / 6 = t := ⟨_, rfl⟩
        rw [ht] at hd HN e1 hD0 hD1 hown
        rw [h3]
        have ht1 : t ≤ 1099511627776 := by omega
        clear hH hL h4 eN eL ht
        go_wp2_with (at_builtin; refine list_push hi hz0 hz1 hz2 (.tmp 42) (.tmp 50) 22 Try.underlying22 _ hown ht1 hsz (by rfl) (by rfl) (by rfl) (by rfl) ?_; intro g cap w1 ho1 hb1; rw [HN.out] at ho1; have ge := text_of (P := Try.prog) (owns_in ho1) (owns_len ho1) cap 22 5 9 Try.underlying22 Try.underlying5 Try.underlying9)
        go_ret
        exact ⟨rfl, hbel.trans hb1⟩

end Go.Proofs.Ytkkaipeklbhliaa
