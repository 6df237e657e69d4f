/-
  What the program's HashBlock answers, whatever ints and bytes it is given: as the specification's; conditions: the bytes are bytes, a length is an int's; the table of the rounds' numbers is as its text says.
-/
import Derived.Test.YtdjdanpicbaieaaDoorNewHash
namespace Go.Proofs.YtdjdanpicbaieaaDoor
open Go.RowKit
set_option maxRecDepth 100000

theorem zeroL_byte : ∀ x ∈ zeroL, 0 ≤ x ∧ x < 256 := by
  intro x hx
  have := List.eq_of_mem_replicate hx
  omega
theorem zeroL_spread : spreadN (wsOf zeroL) = zero64 := by
  rw [show wsOf zeroL = List.replicate 16 0 by decide]
  exact spreadN_zero

theorem specHashBlock_no1 (p q : Option Addr) (n m c d : Nat) (w : World) (hn : n ≠ 8) :
    Calls Tryd.prog 74 #[.slice p n c, .slice q m d] w fun e w' => ∃ p' c', e = .returned (.slice p' 0 c') ∧ OwnI 3 w' w.heap.size w'.heap.size (.slice p' 0 c') 0 [] ∧ Below w.heap.size w w' := by
  have c1 : ((n : Int) != 8) = true := by simp; omega
  go_enter Tryd.func74, Tryd.ntmps74
  go_wp2
  go_ret
  exact ⟨_, _, rfl, .of (World.ownsRow_made w #[] 0 (Nat.le_refl _) (by unfold maxLen; omega) rfl), (Below.refl _ _).alloc (Nat.le_refl _) _⟩
theorem specHashBlock_no2 (p q : Option Addr) (m c d : Nat) (w : World) (hm : m ≠ 64) :
    Calls Tryd.prog 74 #[.slice p 8 c, .slice q m d] w fun e w' => ∃ p' c', e = .returned (.slice p' 0 c') ∧ OwnI 3 w' w.heap.size w'.heap.size (.slice p' 0 c') 0 [] ∧ Below w.heap.size w w' := by
  have c1 : ((m : Int) != 64) = true := by simp; omega
  go_enter Tryd.func74, Tryd.ntmps74
  go_wp2
  go_ret
  exact ⟨_, _, rfl, .of (World.ownsRow_made w #[] 0 (Nat.le_refl _) (by unfold maxLen; omega) rfl), (Below.refl _ _).alloc (Nat.le_refl _) _⟩
theorem specHashBlock_any (p q : Option Addr) (n m c d : Nat) (ys xs : List Int) (w : World) (hy : ys.length = n) (hx : xs.length = m) (h : IntsIn w p n ys) (h' : BytesIn w q m xs) (hb : ∀ x ∈ xs, 0 ≤ x ∧ x < 256) :
    Calls Tryd.prog 74 #[.slice p n c, .slice q m d] w fun e w' => ∃ p' c', e = .returned (.slice p' (hbN n m) c') ∧ OwnI 3 w' w.heap.size w'.heap.size (.slice p' (hbN n m) c') (hbN n m) (hbL ys xs) ∧ Below w.heap.size w w' := by
  unfold hbN hbL
  rw [hy, hx]
  by_cases h1 : n = 8
  · by_cases h2 : m = 64
    · subst h1
      subst h2
      simp only [and_self, if_true]
      exact specHashBlock_yes p q c d ys xs w hx h h' hb
    · subst h1
      rw [if_neg (fun e => h2 e.2), if_neg (fun e => h2 e.2)]
      exact specHashBlock_no2 p q m c d w h2
  · rw [if_neg (fun e => h1 e.1), if_neg (fun e => h1 e.1)]
    exact specHashBlock_no1 p q n m c d w h1

theorem hbN_le (n m : Nat) : hbN n m ≤ 8 := by unfold hbN; split <;> omega

end Go.Proofs.YtdjdanpicbaieaaDoor
