/-
  The laws' own functions of a line: its size, a copy, whether two are the same; conditions: bytes that lie there.
-/
import Derived.Test.YtelfejgpphoifaaDoorItem
namespace Go.Proofs.YtelfejgpphoifaaDoor
open Go.RowKit
set_option maxRecDepth 100000

set_option maxHeartbeats 2000000 in
theorem eqLine_any (kd kd' : Int) (s s' : ByteArray) (t t' d d' : Int) (p p' : Option Addr) (n c n' c' : Nat) (xs xs' : List Int) (w : World) (hn : n ≤ 9223372036854775807) (hx : xs.length = n) (hx' : xs'.length = n') (h1 : BytesIn w p n xs) (h2 : BytesIn w p' n' xs') :
    Calls Tryd.prog 7 #[.agg #[.int .i64 kd, .string s, .int .i64 t, .int .i64 d, .slice p n c], .agg #[.int .i64 kd', .string s', .int .i64 t', .int .i64 d', .slice p' n' c']] w fun z w' => z = .returned (.bool (decide (kd = kd' ∧ s = s' ∧ t = t' ∧ d = d' ∧ xs = xs'))) ∧ Below w.heap.size w w' := by
  have kA : ∀ o1 o2, Below w.heap.size w ((w.alloc o1).alloc o2) := fun o1 o2 => made_below _ _ (made_below _ _ (Below.refl _ _))
  obtain ⟨R, hR⟩ : ∃ R : Bool, R = decide (kd = kd' ∧ s = s' ∧ t = t' ∧ d = d' ∧ xs = xs') := ⟨_, rfl⟩
  rw [← hR]
  replace hR : Hid (R = decide (kd = kd' ∧ s = s' ∧ t = t' ∧ d = d' ∧ xs = xs')) := hR
  by_cases hk : kd = kd'
  · subst hk
    by_cases hs : s = s'
    · subst hs
      by_cases ht : t = t'
      · subst ht
        by_cases hd : d = d'
        · subst hd
          go_enter Tryd.func7, Tryd.ntmps7
          go_wp2_with (fail)
          refine (eqByteS_any p p' n n' c c' xs xs' _ hn hx hx' (in_below h1 (kA _ _)) (in_below h2 (kA _ _))).mono ?_
          rintro z w1 ⟨rfl, b1⟩
          have k1 := made_below _ _ (made_below _ _ b1)
          clear b1 kA
          by_cases hxx : xs = xs'
          · rw [decide_eq_true hxx]
            have hr : R = true := by rw [hR.out]; simp [hxx]
            subst hr
            clear hR hxx
            go_wp2_with (fail)
            go_ret
            exact ⟨rfl, k1⟩
          · rw [decide_eq_false hxx]
            have hr : R = false := by rw [hR.out]; exact decide_eq_false fun k => hxx k.2.2.2.2
            subst hr
            clear hR hxx
            go_wp2_with (fail)
            go_ret
            exact ⟨rfl, k1⟩
        · have hr : R = false := by rw [hR.out]; exact decide_eq_false fun k => hd k.2.2.2.1
          subst hr
          have hd' : (d != d') = true := by simp [hd]
          clear hR hd
          go_enter Tryd.func7, Tryd.ntmps7
          go_wp2_with (fail)
          go_ret
          exact ⟨rfl, kA _ _⟩
      · have hr : R = false := by rw [hR.out]; exact decide_eq_false fun k => ht k.2.2.1
        subst hr
        have ht' : (t != t') = true := by simp [ht]
        clear hR ht
        go_enter Tryd.func7, Tryd.ntmps7
        go_wp2_with (fail)
        go_ret
        exact ⟨rfl, kA _ _⟩
    · have hr : R = false := by rw [hR.out]; exact decide_eq_false fun k => hs k.2.1
      subst hr
      have hs' : (s.toList == s'.toList) = false := str_ne hs
      clear hR hs
      go_enter Tryd.func7, Tryd.ntmps7
      go_wp2_with (fail)
      go_ret
      exact ⟨rfl, kA _ _⟩
  · have hr : R = false := by rw [hR.out]; exact decide_eq_false fun k => hk k.1
    subst hr
    have hk' : (kd != kd') = true := by simp [hk]
    clear hR hk
    go_enter Tryd.func7, Tryd.ntmps7
    go_wp2_with (fail)
    go_ret
    exact ⟨rfl, kA _ _⟩

end Go.Proofs.YtelfejgpphoifaaDoor
