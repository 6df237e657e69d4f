/-
  What the program answers of letters: whether one is right; a copy of bytes. Conditions: bytes that lie there.
-/
import Derived.Test.YtaijemajolgmfaaSpecLetter
namespace Go.Proofs.Ytaijemajolgmfaa
open Go.RowKit
set_option maxRecDepth 100000

set_option maxHeartbeats 2000000 in
theorem implLetterOk_any (e : Int) (p q : Option Addr) (n c m d : Nat) (w : World) (hm : m ≤ 9223372036854775807) :
    Calls Try.prog 23 #[.agg #[.int .i64 e, .slice p n c, .slice q m d]] w fun z w' => z = .returned (.bool (decide (letOk e n m))) ∧ Below w.heap.size w w' := by
  have kA : ∀ o, Below w.heap.size w (w.alloc o) := fun o => made_below _ _ (Below.refl _ _)
  obtain ⟨R, hR⟩ : ∃ R : Bool, R = decide (letOk e n m) := ⟨_, rfl⟩
  rw [← hR]
  replace hR : Hid (R = decide (letOk e n m)) := hR
  by_cases h1 : 0 ≤ e
  · by_cases h2 : e ≤ 65535
    · by_cases h3 : n = 32
      · subst h3
        by_cases h4 : (16 : Int) ≤ (m : Int)
        · by_cases h5 : (m : Int) - 16 ≤ 1500
          · have hr : R = true := by rw [hR.out]; exact decide_eq_true ⟨h1, h2, rfl, by omega, by omega⟩
            clear hR
            subst hr
            go_enter Try.func23, Try.ntmps23
            go_wp2_with (fail)
            go_ret
            exact ⟨rfl, kA _⟩
          · have hr : R = false := by rw [hR.out]; exact decide_eq_false fun k => h5 (by have := k.2.2.2.2; omega)
            clear hR
            subst hr
            go_enter Try.func23, Try.ntmps23
            go_wp2_with (fail)
            go_ret
            exact ⟨rfl, kA _⟩
        · have hr : R = false := by rw [hR.out]; exact decide_eq_false fun k => h4 (by have := k.2.2.2.1; omega)
          clear hR
          subst hr
          go_enter Try.func23, Try.ntmps23
          go_wp2_with (fail)
          go_ret
          exact ⟨rfl, kA _⟩
      · have hr : R = false := by rw [hR.out]; exact decide_eq_false fun k => h3 k.2.2.1
        have h2' : ((n : Int) == 32) = false := by simp; omega
        clear hR h3
        subst hr
        go_enter Try.func23, Try.ntmps23
        go_wp2_with (fail)
        go_ret
        exact ⟨rfl, kA _⟩
    · have hr : R = false := by rw [hR.out]; exact decide_eq_false fun k => h2 k.2.1
      clear hR
      subst hr
      go_enter Try.func23, Try.ntmps23
      go_wp2_with (fail)
      go_ret
      exact ⟨rfl, kA _⟩
  · have hr : R = false := by rw [hR.out]; exact decide_eq_false fun k => h1 k.1
    clear hR
    subst hr
    go_enter Try.func23, Try.ntmps23
    go_wp2_with (fail)
    go_ret
    exact ⟨rfl, kA _⟩

end Go.Proofs.Ytaijemajolgmfaa
