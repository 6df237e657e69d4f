/-
  What the laws' helper sameInts does, whatever ints it is given: it compares; and its helper words: the word of each; conditions: a length is an int's; at most 1048576 ints.
-/
import Derived.Test.YtafdcfeaedihiaeInfoI
import Derived.Test.YtafdcfeaedihiaeWord
namespace Go.Proofs.Ytafdcfeaedihiae
open Go.RowKit

/-- sameInts: are the two lists one? -/
theorem smI_len (p q : Option Addr) (n m c d : Nat) (w : World) (hne : n ≠ m) :
    Calls Try.prog 15 #[.slice p n c, .slice q m d] w fun e w' => e = .returned (.bool false) ∧ Below w.heap.size w w' := by
  have hd : ((n : Int) != (m : Int)) = true := by simp; omega
  go_enter Try.func15, Try.ntmps15
  go_wp2
  go_ret
  exact ⟨rfl, Below.refl _ _⟩

set_option maxHeartbeats 1000000 in
theorem smI_same (p q : Option Addr) (n c d : Nat) (xs ys : List Int) (w : World) (hn : n ≤ 9223372036854775807) (hx : xs.length = n) (hy : ys.length = n) (h : IntsIn w p n xs) (h' : IntsIn w q n ys) :
    Calls Try.prog 15 #[.slice p n c, .slice q n d] w fun e w' => e = .returned (.bool (decide (xs = ys))) ∧ Below w.heap.size w w' := by
  have hd : ((n : Int) != (n : Int)) = false := by simp
  go_enter Try.func15, Try.ntmps15
  go_wp2
  go_loopw [5] (fun i wr => ∃ k : Nat, k ≤ n ∧ i = .int .i64 k ∧ Hid (xs.take k = ys.take k) ∧ ∃ m, wr = w.drewN m) (fun i _ => n - (intOf i).toNat)
  case atStart => exact ⟨0, Nat.zero_le _, rfl, by simp [Hid], 0, rfl⟩
  case round =>
    obtain ⟨k, hk, rfl, hsame, m, rfl⟩ := hrel
    by_cases hlt : k < n
    · obtain ⟨b, o, rfl, hc⟩ := h (by omega)
      obtain ⟨b', o', rfl, hc'⟩ := h' (by omega)
      have h1 := hc k hlt
      have h2 := hc' k hlt
      obtain ⟨u, hu⟩ : ∃ u, u = xs.getD k 0 := ⟨_, rfl⟩
      obtain ⟨v, hv⟩ : ∃ v, v = ys.getD k 0 := ⟨_, rfl⟩
      rw [← hu] at h1
      rw [← hv] at h2
      clear hc hc' h h'
      by_cases huv : u = v
      · subst huv
        have hd2 : (u != u) = false := by simp
        have hmore : Hid (xs.take (k + 1) = ys.take (k + 1)) := take_more hx hy hlt hsame (by rw [← hu, ← hv])
        clear hu hv hsame
        go_wp2
        go_quiet (fail)
        go_wp2
        go_roundw
        case rel => exact ⟨k + 1, by omega, by go_num, hmore, _, rfl⟩
        case measure => simp [intOf]; omega
      · have hd2 : (u != v) = true := by simpa using huv
        have hne : Hid (decide (xs = ys) = false) := by have := take_less (k := k) (xs := xs) (ys := ys) (by rw [← hu, ← hv]; exact huv); simpa [Hid] using this
        clear hu hv hsame huv
        go_wp2
        go_quiet (fail)
        go_wp2
        go_ret
        rw [hne.out, World.drewN_drewN]
        exact ⟨rfl, below_drewN (Below.refl _ _) _⟩
    · have hkn : k = n := by omega
      subst hkn
      have hall : Hid (decide (xs = ys) = true) := by simpa [Hid] using take_all hx hy hsame
      clear hsame
      go_wp2
      go_ret
      rw [hall.out]
      exact ⟨rfl, below_drewN (Below.refl _ _) _⟩

theorem sameInts_any (p q : Option Addr) (n m c d : Nat) (xs ys : List Int) (w : World) (hn : n ≤ 9223372036854775807) (hx : xs.length = n) (hy : ys.length = m) (h : IntsIn w p n xs) (h' : IntsIn w q m ys) :
    Calls Try.prog 15 #[.slice p n c, .slice q m d] w fun e w' => e = .returned (.bool (decide (xs = ys))) ∧ Below w.heap.size w w' := by
  by_cases hnm : n = m
  · subst hnm
    exact smI_same p q n c d xs ys w hn hx hy h h'
  · have : decide (xs = ys) = false := by
      simp only [decide_eq_false_iff_not]
      intro e
      subst e
      omega
    rw [this]
    exact smI_len p q n m c d w hnm

/-- What words answers. -/
def modL (xs : List Int) : List Int := xs.map fun x => x % 4294967296
theorem modL_step (xs : List Int) (k : Nat) (hk : k < xs.length) : modL (xs.take k) ++ [xs.getD k 0 % 4294967296] = modL (xs.take (k + 1)) := by
  rw [List.take_succ_eq_append_getElem hk]
  simp only [modL, List.map_append, List.map_cons, List.map_nil, List.getD_eq_getElem?_getD, List.getElem?_eq_getElem hk, Option.getD_some]

set_option maxHeartbeats 1000000 in
theorem words_any (p : Option Addr) (n c : Nat) (xs : List Int) (w : World) (hn : n ≤ 1048576) (hx : xs.length = n) (h : IntsIn w p n xs) :
    Calls Try.prog 20 #[.slice p n c] w fun e w' => ∃ p' c', e = .returned (.slice p' n c') ∧ OwnI 3 w' w.heap.size w'.heap.size (.slice p' n c') n (modL xs) ∧ Below w.heap.size w w' := by
  obtain ⟨i0, hi, hz0, hz1, hz2⟩ := info_parts infoInt
  go_enter Try.func20, Try.ntmps20
  go_wp2
  go_loopw [3, 4] (fun v i wr => ∃ k : Nat, k ≤ n ∧ i = .int .i64 k ∧ wr.ownsRow w.heap.size 3 1 v k ((modL (xs.take k)).map (Value.int .i64)) ∧ Below w.heap.size w wr)
    (fun _ i _ => n - (intOf i).toNat)
  case atStart => exact ⟨0, Nat.zero_le _, rfl, World.ownsRow_made w #[] 0 (Nat.le_refl _) (by unfold maxLen; omega) rfl, (Below.refl _ _).alloc (Nat.le_refl _) _⟩
  case round =>
    obtain ⟨k, hk, rfl, hown, hbel⟩ := hrel
    have hsz := hbel.size
    by_cases hlt : k < n
    · obtain ⟨b, o, rfl, hcell⟩ := h (by omega)
      have HN : Hid (modL (xs.take k) ++ [xs.getD k 0 % 4294967296] = modL (xs.take (k + 1))) := modL_step _ _ (by omega)
      have hc := hcell k hlt
      have c0 : wr.cell? ⟨b, o + k, none⟩ = some (.int .i64 (xs.getD k 0)) := by
        rw [hbel.cell (p := ⟨b, o + k, none⟩) (World.block_lt_of_cell? w ⟨b, o + k, none⟩ hc)]
        exact hc
      clear hc hcell h
      generalize xs.getD k 0 = u at HN c0
      go_wp2_with (fail)
      refine (specWord_same u _).mono ?_
      rintro e w2 ⟨rfl, rfl⟩
      generalize u % 4294967296 = v at HN
      go_wp2_with (at_builtin; refine list_pushI hi hz0 hz1 hz2 (.tmp 12) (.tmp 18) 29 Try.underlying29 _ hown (by omega) hsz (by rfl) (by rfl) (by rfl) (by rfl) ?_; intro g cap w3 ho3 hb3; rw [HN.out] at ho3)
      go_roundw
      case rel => exact ⟨k + 1, by omega, by go_num, ho3, hbel.trans hb3⟩
      case measure => simp [intOf]; omega
    · have hkn : k = n := by omega
      subst hkn
      obtain ⟨p', c', hv⟩ := owns_form hown
      subst hv
      rw [List.take_of_length_le (by omega)] at hown
      clear h
      go_wp2
      go_ret
      exact ⟨_, _, rfl, .of hown, hbel⟩

end Go.Proofs.Ytafdcfeaedihiae
