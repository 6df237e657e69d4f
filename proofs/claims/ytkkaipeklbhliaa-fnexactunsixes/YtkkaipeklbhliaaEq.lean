/-
  What the laws' helper eqByteS does, whatever bytes it is given: it compares; no condition but that a length is an int's.
-/
import Derived.Test.YtkkaipeklbhliaaInfo
namespace Go.Proofs.Ytkkaipeklbhliaa
open Go.RowKit
set_option maxRecDepth 100000

/-- eqByteS: are the two lists one? -/
theorem eq_len (p q : Option Addr) (n m c d : Nat) (w : World) (hne : n ≠ m) :
    Calls Try.prog 10 #[.slice p n c, .slice q m d] w fun e w' => e = .returned (.bool false) ∧ Below w.heap.size w w' := by
  have hd : ((n : Int) != (m : Int)) = true := by simp; omega
  go_enter Try.func10, Try.ntmps10
  go_wp2
  go_ret
  exact ⟨rfl, Below.refl _ _⟩

set_option maxHeartbeats 1000000 in
theorem eq_same (p q : Option Addr) (n c d : Nat) (xs ys : List Int) (w : World) (hn : n ≤ 9223372036854775807) (hx : xs.length = n) (hy : ys.length = n) (h : BytesIn w p n xs) (h' : BytesIn w q n ys) :
    Calls Try.prog 10 #[.slice p n c, .slice q n d] w fun e w' => e = .returned (.bool (decide (xs = ys))) ∧ Below w.heap.size w w' := by
  have hd : ((n : Int) != (n : Int)) = false := by simp
  go_enter Try.func10, Try.ntmps10
  go_wp2
  go_loopw [5] (fun i wr => ∃ k : Nat, k ≤ n ∧ i = .int .i64 k ∧ Hid (xs.take k = ys.take k) ∧ ∃ m, wr = w.drewN m) (fun i _ => n - (intOf i).toNat)
  case atStart => exact ⟨0, Nat.zero_le _, rfl, by simp [Hid], 0, rfl⟩
  case round =>
    obtain ⟨k, hk, rfl, hsame, m, rfl⟩ := hrel
    by_cases hlt : k < n
    · obtain ⟨b, o, rfl, hc⟩ := h (by omega)
      obtain ⟨b', o', rfl, hc'⟩ := h' (by omega)
      have h1 := hc k hlt
      have h2 := hc' k hlt
      obtain ⟨u, hu⟩ : ∃ u, u = xs.getD k 0 := ⟨_, rfl⟩
      obtain ⟨v, hv⟩ : ∃ v, v = ys.getD k 0 := ⟨_, rfl⟩
      rw [← hu] at h1
      rw [← hv] at h2
      clear hc hc' h h'
      by_cases huv : u = v
      · subst huv
        have hd2 : (u != u) = false := by simp
        have hmore : Hid (xs.take (k + 1) = ys.take (k + 1)) := take_more hx hy hlt hsame (by rw [← hu, ← hv])
        clear hu hv hsame
        go_wp2
        go_quiet (fail)
        go_wp2
        go_roundw
        case rel => exact ⟨k + 1, by omega, by go_num, hmore, _, rfl⟩
        case measure => simp [intOf]; omega
      · have hd2 : (u != v) = true := by simpa using huv
        have hne : Hid (decide (xs = ys) = false) := by have := take_less (k := k) (xs := xs) (ys := ys) (by rw [← hu, ← hv]; exact huv); simpa [Hid] using this
        clear hu hv hsame huv
        go_wp2
        go_quiet (fail)
        go_wp2
        go_ret
        rw [hne.out, World.drewN_drewN]
        exact ⟨rfl, below_drewN (Below.refl _ _) _⟩
    · have hkn : k = n := by omega
      subst hkn
      have hall : Hid (decide (xs = ys) = true) := by simpa [Hid] using take_all hx hy hsame
      clear hsame
      go_wp2
      go_ret
      rw [hall.out]
      exact ⟨rfl, below_drewN (Below.refl _ _) _⟩

theorem eqByteS_any (p q : Option Addr) (n m c d : Nat) (xs ys : List Int) (w : World) (hn : n ≤ 9223372036854775807) (hx : xs.length = n) (hy : ys.length = m) (h : BytesIn w p n xs) (h' : BytesIn w q m ys) :
    Calls Try.prog 10 #[.slice p n c, .slice q m d] w fun e w' => e = .returned (.bool (decide (xs = ys))) ∧ Below w.heap.size w w' := by
  by_cases hnm : n = m
  · subst hnm
    exact eq_same p q n c d xs ys w hn hx hy h h'
  · have : decide (xs = ys) = false := by
      simp only [decide_eq_false_iff_not]
      intro e
      subst e
      omega
    rw [this]
    exact eq_len p q n m c d w hnm

end Go.Proofs.Ytkkaipeklbhliaa
