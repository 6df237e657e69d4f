/-
  What the laws' helpers that mark ints do: markIntS lays its marksI, heldIntS finds them; conditions: at most 2^40 ints, marksI from 0 to 2^40.
-/
import Derived.Test.YtcmbglelllcbdalInfoI
namespace Go.Proofs.Ytcmbglelllcbdal
open Go.RowKit

set_option maxHeartbeats 1000000 in
theorem markIntS_any (base : Nat) (p : Option Addr) (n c : Nat) (xs : List Int) (k : Int) (w : World) (hn : n ≤ 1099511627776) (hk : 0 ≤ k) (hk2 : k ≤ 1099511627776)
    (h : w.ownsRow base 3 1 (.slice p n c) n (xs.map (Value.int .i64))) :
    Calls Try.prog 8 #[.slice p n c, .int .i64 k] w fun e w' => e = .returned (.int .i64 (k + n)) ∧
      w'.ownsRow base 3 1 (.slice p n c) n ((marksI k n).map (Value.int .i64)) ∧ w.grownBy w' (Value.ownBlock (.slice p n c)) := by
  have hx := owns_lenI h
  go_enter Try.func8, Try.ntmps8
  go_wp2
  go_loopw [1, 5] (fun q i wr => ∃ j : Nat, j ≤ n ∧ i = .int .i64 j ∧ q = .int .i64 (k + j) ∧ wr.ownsRow base 3 1 (.slice p n c) n ((marksI k j ++ xs.drop j).map (Value.int .i64)) ∧ w.grownBy wr (Value.ownBlock (.slice p n c)))
    (fun _ i _ => n - (intOf i).toNat)
  case atStart => exact ⟨0, Nat.zero_le _, rfl, by simp, by simpa [marksI] using h, World.grownBy.refl _ _⟩
  case round =>
    clear h
    obtain ⟨j, hj, rfl, rfl, hown, hgr⟩ := hrel
    by_cases hlt : j < n
    · obtain ⟨g, rfl⟩ := owns_at hown (by omega)
      obtain ⟨v, hv⟩ := marksI_old k xs n j hlt hx
      have hold : wr.cell? ⟨g, j, none⟩ = some (.int .i64 v) := by
        rw [hown.cellAt j (by omega)]; exact hv
      have hfz := hown.frozenAt j
      clear hv
      have hst := hown.stored j (.int .i64 ((k + (j : Int))))
      rw [marksI_step k xs n j _ rfl hlt hx] at hst
      go_wp2
      go_roundw
      case rel => exact ⟨j + 1, by omega, by go_num, by go_num, hst.1, grown_trans hgr hst.2⟩
      case measure => simp [intOf]; omega
    · have hjn : j = n := by omega
      subst hjn
      rw [marksI_end k xs j hx] at hown
      go_wp2
      go_ret
      exact ⟨rfl, hown, hgr⟩

theorem markIntS_own (lo hi : Nat) (p : Option Addr) (n c : Nat) (xs : List Int) (k : Int) (w : World) (hn : n ≤ 1099511627776) (hk : 0 ≤ k) (hk2 : k ≤ 1099511627776)
    (h : OwnI 3 w lo hi (.slice p n c) n xs) :
    Calls Try.prog 8 #[.slice p n c, .int .i64 k] w fun e w' => e = .returned (.int .i64 (k + n)) ∧
      OwnI 3 w' lo hi (.slice p n c) n (marksI k n) ∧ w.grownBy w' (Value.ownBlock (.slice p n c)) :=
  (markIntS_any lo p n c xs k w hn hk hk2 h.1).mono fun _ _ ⟨h1, h2, h3⟩ => ⟨h1, ⟨h2, h.2⟩, h3⟩

end Go.Proofs.Ytcmbglelllcbdal
