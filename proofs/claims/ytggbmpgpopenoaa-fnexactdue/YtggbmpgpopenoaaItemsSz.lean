/-
  The size of a list of items, as the laws reckon it. Conditions: items that lie there, lengths that there can be.
-/
import Derived.Test.YtggbmpgpopenoaaItemsEq
namespace Go.Proofs.Ytggbmpgpopenoaa
open Go.RowKit
set_option maxRecDepth 100000

/-- How much the items hold. -/
def totI (its : List ItA) : Nat := (its.map fun x => x.s.size + x.n).sum
theorem totI_step (its : List ItA) (k : Nat) (h : k < its.length) : totI (its.take (k + 1)) = totI (its.take k) + ((its.getD k default).s.size + (its.getD k default).n) := by
  unfold totI
  rw [take_getD h, List.map_append, List.sum_append]
  simp
theorem totI_le (its : List ItA) (k : Nat) : totI (its.take k) ≤ totI its := by
  unfold totI
  have e := congrArg (fun l => (l.map fun (x : ItA) => x.s.size + x.n).sum) (List.take_append_drop k its)
  simp only [List.map_append, List.sum_append] at e
  omega
theorem totI_mem (its : List ItA) (x : ItA) (h : x ∈ its) : x.s.size + x.n ≤ totI its := by
  induction its with
  | nil => simp at h
  | cons y r ih =>
    have e : totI (y :: r) = y.s.size + y.n + totI r := by simp [totI]
    rcases List.mem_cons.1 h with rfl | h
    · omega
    · have := ih h
      omega

set_option maxHeartbeats 4000000 in
theorem szItemS_any (p : Option Addr) (n c : Nat) (its : List ItA) (l : Int) (w : World) (hn : n ≤ 9223372036854775807) (hl : its.length = n) (h : ItemsIn w p n its) (hb : ∀ x ∈ its, x.s.size ≤ 9223372036854775807 ∧ x.n ≤ 9223372036854775807) (hl0 : 0 ≤ l ∧ l ≤ 1048576) :
    Calls Try.prog 33 #[.slice p n c, .int .i64 l] w fun e w' => e = .returned (.int .i64 (if (n : Int) + totI its ≤ l then l - n - totI its else -1)) ∧ Below w.heap.size w w' := by
  obtain ⟨R, hR⟩ : ∃ R : Int, R = if (n : Int) + totI its ≤ l then l - n - totI its else -1 := ⟨_, rfl⟩
  rw [← hR]
  replace hR : Hid (R = if (n : Int) + totI its ≤ l then l - n - totI its else -1) := hR
  by_cases hnl : (n : Int) ≤ l
  · obtain ⟨l1, hl1⟩ : ∃ l1 : Int, l1 = l - n := ⟨_, rfl⟩
    have hl2 : 0 ≤ l1 ∧ l1 ≤ 1048576 := by omega
    have hl3 : ¬ l1 < 0 := by omega
    have hl4 : l - (n : Int) = l1 := hl1.symm
    replace hR : Hid (R = if (totI its : Int) ≤ l1 then l1 - totI its else -1) := by
      rw [Hid, hR.out]
      by_cases e : (totI its : Int) ≤ l1
      · rw [if_pos e, if_pos (by omega)]; omega
      · rw [if_neg e, if_neg (by omega)]
    clear hl1
    go_enter Try.func33, Try.ntmps33
    go_wp2_with (fail)
    go_loopw [1, 5] (fun a i wr => ∃ k : Nat, k ≤ n ∧ i = .int .i64 k ∧ (∃ m : Int, a = .int .i64 m ∧ 0 ≤ m ∧ m ≤ 1048576 ∧ Hid (m = l1 - totI (its.take k))) ∧ Below w.heap.size w wr) (fun _ i _ => n - (intOf i).toNat)
    case atStart => exact ⟨0, Nat.zero_le _, rfl, ⟨l1, rfl, hl2.1, hl2.2, by simp [Hid, totI]⟩, Below.refl _ _⟩
    case round =>
      obtain ⟨k, hk, rfl, ⟨m, rfl, hm0, hm1, hm⟩, hbel⟩ := hrel
      by_cases hlt : k < n
      · obtain ⟨b, o, rfl, hc⟩ := itemsIn_on h hbel (by omega)
        obtain ⟨x, hx⟩ : ∃ x, its.getD k default = x := ⟨_, rfl⟩
        obtain ⟨c0, c1, c2, c3⟩ := ItemsIn.at hc hlt hx
        have hbx := hb x (hx ▸ getD_mem (by omega))
        have hst := totI_step its k (by omega)
        have hle := totI_le its (k + 1)
        rw [hx] at hst
        obtain ⟨s, t, d, xp, xn, xc, xs⟩ := x
        dsimp only at c0 c1 c2 c3 hbx hst
        have C := fun X => szItem_any s t d xp xn xc m X hbx.1 hbx.2 ⟨hm0, hm1⟩
        clear hc h hx hb
        by_cases hfit : (s.size : Int) + xn ≤ m
        · have e : szI s xn m = m - s.size - xn := by unfold szI; rw [if_pos hfit]
          rw [e] at C
          obtain ⟨m2, hm2⟩ : ∃ m2 : Int, m2 = m - s.size - xn := ⟨_, rfl⟩
          rw [← hm2] at C
          have hm3 : 0 ≤ m2 ∧ m2 ≤ 1048576 := by omega
          have hm4 : ¬ m2 < 0 := by omega
          have hnew : Hid (m2 = l1 - totI (its.take (k + 1))) := by have := hm.out; rw [Hid]; omega
          clear hm2 e hm hst hle hfit hbx
          go_wp2_with (fail)
          refine (C _).mono ?_
          rintro z w2 ⟨rfl, b2⟩
          have hbel2 := below_on hbel b2
          clear b2 hbel
          go_wp2_with (fail)
          go_roundw
          case rel => exact ⟨k + 1, by omega, by go_num, ⟨m2, rfl, hm3.1, hm3.2, hnew⟩, hbel2⟩
          case measure => simp [intOf]; omega
        · have e : szI s xn m = -1 := by unfold szI; rw [if_neg hfit]
          rw [e] at C
          have hr : R = -1 := by
            rw [hR.out, if_neg]
            have := hm.out
            omega
          subst hr
          clear e hm hst hle hfit hbx hR
          go_wp2_with (fail)
          refine (C _).mono ?_
          rintro z w2 ⟨rfl, b2⟩
          have hbel2 := below_on hbel b2
          clear b2 hbel
          go_wp2_with (fail)
          go_ret
          exact ⟨rfl, hbel2⟩
      · have hkn : k = n := by omega
        subst hkn
        have hr : R = m := by
          have e := hm.out
          rw [← hl, List.take_length] at e
          rw [hR.out, if_pos (by omega)]
          omega
        subst hr
        clear hR hm
        go_wp2_with (fail)
        go_ret
        exact ⟨rfl, hbel⟩
  · have hr : R = -1 := by rw [hR.out, if_neg (by omega)]
    subst hr
    obtain ⟨l1, hl1⟩ : ∃ l1 : Int, l1 = l - n := ⟨_, rfl⟩
    have hl3 : l1 < 0 := by omega
    have hl4 : l - (n : Int) = l1 := hl1.symm
    have hl5 : -9223372036854775808 ≤ l1 := by omega
    clear hR hl1
    go_enter Try.func33, Try.ntmps33
    go_wp2_with (fail)
    go_ret
    exact ⟨rfl, .refl _ _⟩

end Go.Proofs.Ytggbmpgpopenoaa
