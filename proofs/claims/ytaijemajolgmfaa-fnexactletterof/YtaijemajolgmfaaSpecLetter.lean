/-
  What the specification answers of letters: whether one is right, its bytes; conditions: bytes that lie there.
-/
import Derived.Test.YtaijemajolgmfaaLetter
import Derived.Test.YtaijemajolgmfaaGreat
namespace Go.Proofs.Ytaijemajolgmfaa
open Go.RowKit

/-- What a right letter is. -/
def letOk (e : Int) (n m : Nat) : Prop := 0 ≤ e ∧ e ≤ 65535 ∧ n = 32 ∧ 16 ≤ m ∧ m ≤ 1516
instance (e : Int) (n m : Nat) : Decidable (letOk e n m) := by unfold letOk; infer_instance

theorem in_yes (x lo hi : Int) (X : World) (h : lo ≤ x ∧ x ≤ hi) : Calls Try.prog 43 #[.int .i64 x, .int .i64 lo, .int .i64 hi] X fun e w' => e = .returned (.bool true) ∧ w' = X := by
  have h1 := h.1
  have h2 := h.2
  go_enter Try.func43, Try.ntmps43
  go_wp2_with (fail)
  go_ret
  exact ⟨rfl, rfl⟩
theorem in_no (x lo hi : Int) (X : World) (h : ¬ (lo ≤ x ∧ x ≤ hi)) : Calls Try.prog 43 #[.int .i64 x, .int .i64 lo, .int .i64 hi] X fun e w' => e = .returned (.bool false) ∧ w' = X := by
  by_cases h1 : lo ≤ x
  · have h2 : ¬ x ≤ hi := fun k => h ⟨h1, k⟩
    clear h
    go_enter Try.func43, Try.ntmps43
    go_wp2_with (fail)
    go_ret
    exact ⟨by simp, rfl⟩
  · clear h
    go_enter Try.func43, Try.ntmps43
    go_wp2_with (fail)
    go_ret
    exact ⟨by simp, rfl⟩

set_option maxHeartbeats 2000000 in
theorem specLetterOk_any (e : Int) (p q : Option Addr) (n c m d : Nat) (w : World) (hm : m ≤ 9223372036854775807) :
    Calls Try.prog 21 #[.agg #[.int .i64 e, .slice p n c, .slice q m d]] w fun z w' => z = .returned (.bool (decide (letOk e n m))) ∧ Below w.heap.size w w' := by
  have kA : ∀ o, Below w.heap.size w (w.alloc o) := fun o => made_below _ _ (Below.refl _ _)
  obtain ⟨R, hR⟩ : ∃ R : Bool, R = decide (letOk e n m) := ⟨_, rfl⟩
  rw [← hR]
  replace hR : Hid (R = decide (letOk e n m)) := hR
  by_cases h1 : 0 ≤ e ∧ e ≤ 65535
  · by_cases h2 : n = 32
    · subst h2
      by_cases h3 : (16 : Int) ≤ (m : Int) ∧ (m : Int) ≤ 1516
      · have hr : R = true := by rw [hR.out]; exact decide_eq_true ⟨h1.1, h1.2, rfl, by omega, by omega⟩
        clear hR
        go_enter Try.func21, Try.ntmps21
        go_wp2_with (fail)
        refine (in_yes e 0 65535 _ h1).mono ?_
        rintro z w1 ⟨rfl, rfl⟩
        go_wp2_with (fail)
        refine (in_yes m 16 1516 _ h3).mono ?_
        rintro z w1 ⟨rfl, rfl⟩
        go_wp2_with (fail)
        go_ret
        exact ⟨by rw [hr]; rfl, kA _⟩
      · have hr : R = false := by rw [hR.out]; exact decide_eq_false fun k => h3 ⟨by have := k.2.2.2.1; omega, by have := k.2.2.2.2; omega⟩
        clear hR
        go_enter Try.func21, Try.ntmps21
        go_wp2_with (fail)
        refine (in_yes e 0 65535 _ h1).mono ?_
        rintro z w1 ⟨rfl, rfl⟩
        go_wp2_with (fail)
        refine (in_no m 16 1516 _ h3).mono ?_
        rintro z w1 ⟨rfl, rfl⟩
        go_wp2_with (fail)
        go_ret
        exact ⟨by rw [hr]; rfl, kA _⟩
    · have hr : R = false := by rw [hR.out]; exact decide_eq_false fun k => h2 k.2.2.1
      have h2' : ((n : Int) == 32) = false := by simp; omega
      clear hR h2
      go_enter Try.func21, Try.ntmps21
      go_wp2_with (fail)
      refine (in_yes e 0 65535 _ h1).mono ?_
      rintro z w1 ⟨rfl, rfl⟩
      go_wp2_with (fail)
      go_ret
      exact ⟨by rw [hr]; rfl, kA _⟩
  · have hr : R = false := by rw [hR.out]; exact decide_eq_false fun k => h1 ⟨k.1, k.2.1⟩
    clear hR
    go_enter Try.func21, Try.ntmps21
    go_wp2_with (fail)
    refine (in_no e 0 65535 _ h1).mono ?_
    rintro z w1 ⟨rfl, rfl⟩
    go_wp2_with (fail)
    go_ret
    exact ⟨by rw [hr]; rfl, kA _⟩

end Go.Proofs.Ytaijemajolgmfaa
