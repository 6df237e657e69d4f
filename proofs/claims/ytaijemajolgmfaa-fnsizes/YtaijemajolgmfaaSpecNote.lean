/-
  What the specification's Padded answers at whatever bytes: what is as long as its size has it. No condition.
-/
import Derived.Test.YtaijemajolgmfaaGreat
import Derived.Test.YtaijemajolgmfaaConcat
import Derived.Test.YtaijemajolgmfaaSame
namespace Go.Proofs.Ytaijemajolgmfaa
open Go.RowKit
set_option maxRecDepth 100000

/-- How long a note of n bytes is, padded. -/
def noteM (n : Nat) : Nat := if n ≤ 94 then (n + 33) / 32 * 32 else (n + 97) / 96 * 96
def noteN (n : Nat) : Nat := if n ≤ 200 then noteM n else 0
def noteL (xs : List Int) : List Int := if xs.length ≤ 200 then [0, (xs.length : Int)] ++ xs ++ List.replicate (noteM xs.length - (xs.length + 2)) 0 else []
theorem noteM_le (n : Nat) : n + 2 ≤ noteM n ∧ noteM n ≤ n + 97 := by
  unfold noteM
  split <;> omega
theorem noteN_le (n : Nat) : noteN n ≤ 297 := by
  unfold noteN
  have := noteM_le n
  split <;> omega
theorem noteL_length (xs : List Int) : (noteL xs).length = noteN xs.length := by
  unfold noteL noteN
  have := noteM_le xs.length
  split
  · simp; omega
  · rfl
theorem noteL_byte {xs : List Int} (hb : ∀ x ∈ xs, 0 ≤ x ∧ x < 256) : ∀ x ∈ noteL xs, 0 ≤ x ∧ x < 256 := by
  unfold noteL
  split
  · intro x hx
    simp only [List.mem_append, List.mem_cons, List.not_mem_nil, or_false, List.mem_replicate] at hx
    rcases hx with ((h | h) | h) | h
    · omega
    · omega
    · exact hb x h
    · omega
  · intro x hx; cases hx
theorem great2 {n : Nat} (h : n ≤ 200) : fitN (n : Int) 2 = 2 ∧ (fitL (n : Int) 2).reverse = [0, (n : Int)] := by
  have e : fitN (n : Int) 2 = 2 := by rw [fit_yes ⟨by omega, by omega, by omega⟩]; rfl
  refine ⟨e, ?_⟩
  rw [fitL, e]
  simp [littleL, List.range, List.range.loop]
  omega

set_option maxHeartbeats 4000000 in
theorem specPadded_any (p : Option Addr) (n c : Nat) (xs : List Int) (w : World) (hn0 : n ≤ 9223372036854775807) (hx : xs.length = n) (h : BytesIn w p n xs) :
    Calls Try.prog 15 #[.slice p n c] w fun e w' => ∃ p' c', e = .returned (.slice p' (noteN n) c') ∧ Own 5 w' w.heap.size w'.heap.size (.slice p' (noteN n) c') (noteN n) (noteL xs) ∧ Below w.heap.size w w' := by
  obtain ⟨i0, hi, hz0, hz1, hz2⟩ := info_parts infoByte
  unfold noteN noteL
  rw [hx]
  by_cases hn : n ≤ 200
  · rw [if_pos hn, if_pos hn]
    have C := fun w => specGreat_any (n : Int) 2 w (by omega)
    rw [(great2 hn).1, (great2 hn).2] at C
    have c0 : ¬ (200 : Int) < (n : Int) := by omega
    have hM := noteM_le n
    obtain ⟨s, hs, hstep, hmod⟩ : ∃ s : Nat, (s = 32 ∨ s = 96) ∧ Hid ((n ≤ 94 ∧ s = 32) ∨ (¬ n ≤ 94 ∧ s = 96)) ∧ Hid (∀ j : Nat, n + 2 ≤ j → j ≤ noteM n → (j % s = 0 ↔ j = noteM n)) := by
      unfold noteM
      by_cases h94 : n ≤ 94
      · refine ⟨32, .inl rfl, .inl ⟨h94, rfl⟩, fun j h1 h2 => ?_⟩
        rw [if_pos h94] at h2 ⊢
        omega
      · refine ⟨96, .inr rfl, .inr ⟨h94, rfl⟩, fun j h1 h2 => ?_⟩
        rw [if_neg h94] at h2 ⊢
        omega
    generalize noteM n = M at hM hmod ⊢
    clear hs
    go_enter Try.func15, Try.ntmps15
    go_wp2_with (fail)
    refine (C _).mono ?_
    rintro e w1 ⟨p1, c1, rfl, r1, b1⟩
    have h1 := in_below h b1
    have ho := r1.1
    have hz := b1.size
    clear C r1 h
    rcases hstep.out with ⟨h94, rfl⟩ | ⟨h94, rfl⟩
    · have g1 : ¬ (96 : Int) < ((2 + n : Nat) : Int) := by omega
      go_wp2_with (at_builtin; refine list_spreadA hi hz0 hz1 hz2 (.tmp 11) (.tmp 12) 22 Try.underlying22 ho h1 hx (by omega) (by omega) b1.size (by rfl) (by rfl) (by rfl) (by rfl) ?_; intro p2 cap2 w2 ho2 hb2; (try simp only [List.cons_append, List.nil_append] at ho2))
      have bel2 := b1.trans hb2
      clear h1 ho hb2 b1 hz g1
      go_loopw [3] (fun v wr => ∃ k m : Nat, Hid (m = n + 2 + k) ∧ m ≤ M ∧ wr.ownsRow w.heap.size 5 1 v m (([0, (n : Int)] ++ xs ++ List.replicate k 0).map (Value.int .u8)) ∧ Below w.heap.size w wr)
        (fun v _ => match v with | .slice _ m _ => M - m | _ => 0)
      case atStart => exact ⟨0, 2 + n, by unfold Hid; omega, by omega, by simpa using ho2, bel2⟩
      case round =>
        clear ho2 bel2
        obtain ⟨k, m, hm, hmM, hown, hbel⟩ := hrel
        have hsz := hbel.size
        obtain ⟨q, cq, hv⟩ := owns_form hown
        subst hv
        have hmb : m ≤ 5000 := by omega
        have hmk := hmod.out m (by have := hm.out; omega) hmM
        by_cases hlt : m < M
        · have d1 : ((m : Int) % 32 != 0) = true := by
            have : (m : Int) % 32 ≠ 0 := by omega
            simpa using this
          have HX : Hid ([0, (n : Int)] ++ xs ++ List.replicate k 0 ++ [0] = [0, (n : Int)] ++ xs ++ List.replicate (k + 1) 0) := by
            rw [Hid, List.append_assoc _ _ [0], ← List.replicate_succ']
          clear hmk
          go_wp2_with (at_builtin; refine list_push hi hz0 hz1 hz2 (.tmp 22) (.tmp 23) 22 Try.underlying22 _ hown (by omega) hsz (by rfl) (by rfl) (by rfl) (by rfl) ?_; intro g3 cap3 w3 ho3 hb3; rw [HX.out] at ho3)
          go_roundw
          case rel => exact ⟨k + 1, m + 1, by have := hm.out; rw [Hid]; omega, by omega, ho3, hbel.trans hb3⟩
          case measure => show M - (m + 1) < M - m; omega
        · obtain rfl : m = M := by omega
          have d1 : ((m : Int) % 32 != 0) = false := by
            have : (m : Int) % 32 = 0 := by omega
            simp [this]
          have ek : k = m - (n + 2) := by have := hm.out; omega
          clear hmk
          go_wp2
          go_ret
          rw [ek] at hown
          exact ⟨_, _, rfl, .of hown, hbel⟩
    · have g1 : (96 : Int) < ((2 + n : Nat) : Int) := by omega
      have g2 : decide ((96 : Int) < 2 + (n : Int)) = true := decide_eq_true (by omega)
      go_wp2_with (at_builtin; refine list_spreadA hi hz0 hz1 hz2 (.tmp 11) (.tmp 12) 22 Try.underlying22 ho h1 hx (by omega) (by omega) b1.size (by rfl) (by rfl) (by rfl) (by rfl) ?_; intro p2 cap2 w2 ho2 hb2; (try simp only [List.cons_append, List.nil_append] at ho2))
      have bel2 := b1.trans hb2
      clear h1 ho hb2 b1 hz g1
      go_loopw [3] (fun v wr => ∃ k m : Nat, Hid (m = n + 2 + k) ∧ m ≤ M ∧ wr.ownsRow w.heap.size 5 1 v m (([0, (n : Int)] ++ xs ++ List.replicate k 0).map (Value.int .u8)) ∧ Below w.heap.size w wr)
        (fun v _ => match v with | .slice _ m _ => M - m | _ => 0)
      case atStart => exact ⟨0, 2 + n, by unfold Hid; omega, by omega, by simpa using ho2, bel2⟩
      case round =>
        clear ho2 bel2
        obtain ⟨k, m, hm, hmM, hown, hbel⟩ := hrel
        have hsz := hbel.size
        obtain ⟨q, cq, hv⟩ := owns_form hown
        subst hv
        have hmb : m ≤ 5000 := by omega
        have hmk := hmod.out m (by have := hm.out; omega) hmM
        by_cases hlt : m < M
        · have d1 : ((m : Int) % 96 != 0) = true := by
            have : (m : Int) % 96 ≠ 0 := by omega
            simpa using this
          have HX : Hid ([0, (n : Int)] ++ xs ++ List.replicate k 0 ++ [0] = [0, (n : Int)] ++ xs ++ List.replicate (k + 1) 0) := by
            rw [Hid, List.append_assoc _ _ [0], ← List.replicate_succ']
          clear hmk
          go_wp2_with (at_builtin; refine list_push hi hz0 hz1 hz2 (.tmp 22) (.tmp 23) 22 Try.underlying22 _ hown (by omega) hsz (by rfl) (by rfl) (by rfl) (by rfl) ?_; intro g3 cap3 w3 ho3 hb3; rw [HX.out] at ho3)
          go_roundw
          case rel => exact ⟨k + 1, m + 1, by have := hm.out; rw [Hid]; omega, by omega, ho3, hbel.trans hb3⟩
          case measure => show M - (m + 1) < M - m; omega
        · obtain rfl : m = M := by omega
          have d1 : ((m : Int) % 96 != 0) = false := by
            have : (m : Int) % 96 = 0 := by omega
            simp [this]
          have ek : k = m - (n + 2) := by have := hm.out; omega
          clear hmk
          go_wp2
          go_ret
          rw [ek] at hown
          exact ⟨_, _, rfl, .of hown, hbel⟩
  · rw [if_neg hn, if_neg hn]
    have c1 : (200 : Int) < (n : Int) := by omega
    clear h hx
    go_enter Try.func15, Try.ntmps15
    go_wp2
    go_ret
    exact ⟨_, _, rfl, .of (World.ownsRow_made w #[] 0 (Nat.le_refl _) (by unfold maxLen; omega) rfl), (Below.refl _ _).alloc (Nat.le_refl _) _⟩

end Go.Proofs.Ytaijemajolgmfaa
