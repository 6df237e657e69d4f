/-
  What both sides' PublicOf answers at any bytes and any epoch. Conditions: bytes all; for the program the table of the rounds' numbers is as its text says.
-/
import Derived.Test.YtdjdanpicbaieaaGreatDoorParx17
import Derived.Test.YtdjdanpicbaieaaGreatDoorParx22
import Derived.Test.YtdjdanpicbaieaaGreatDoorParx27
namespace Go.Proofs.YtdjdanpicbaieaaGreatDoor
open Go.RowKit
set_option maxRecDepth 100000

def pubN (n : Nat) (e : Int) : Nat := oneN (secN n e)
def pubL (xs : List Int) (e : Int) : List Int := oneL (ptZ (secL xs e) baseL) (secN xs.length e)
theorem pubN_le (n : Nat) (e : Int) : pubN n e ≤ 32 := by unfold pubN oneN; split <;> omega
theorem pubL_length (xs : List Int) (e : Int) : (pubL xs e).length = pubN xs.length e := oneL_length _ _
theorem pubL_byte (xs : List Int) (e : Int) : ∀ x ∈ pubL xs e, 0 ≤ x ∧ x < 256 := oneL_byte _ _

theorem implPubOf_any (p : Option Addr) (n c : Nat) (xs : List Int) (e : Int) (w : World) (hx : xs.length = n) (h : BytesIn w p n xs) (hb : ∀ x ∈ xs, 0 ≤ x ∧ x < 256) (hK : KeysIs w) :
    Calls Tryz.prog 14 #[.slice p n c, .int .i64 e] w fun r w' => ∃ p' c', r = .returned (.slice p' (pubN n e) c') ∧ Own 5 w' w.heap.size w'.heap.size (.slice p' (pubN n e) c') (pubN n e) (pubL xs e) ∧ Below w.heap.size w w' := by
  have C1 := implSecret_any p n c xs e w hx h hb hK
  have hl : (secL xs e).length = secN n e := by rw [secL_length, hx]
  have hlb := secL_byte xs e
  unfold pubN pubL
  rw [hx]
  generalize secN n e = N at C1 hl ⊢
  generalize secL xs e = L at C1 hl hlb ⊢
  go_enter Tryz.func14, Tryz.ntmps14
  go_wp2_with (fail)
  refine C1.mono ?_
  rintro r w1 ⟨p1, c1, rfl, r1, b1⟩
  go_wp2_with (fail)
  refine (implPublic_any p1 N c1 L _ hl r1.bytes hlb).mono ?_
  rintro r w2 ⟨p2, c2, rfl, r2, b2⟩
  go_wp2
  go_ret
  exact ⟨_, _, rfl, ⟨owns_mono r2.1 b1.size, r2.2⟩, below_on b1 b2⟩

theorem specPubOf_any (p : Option Addr) (n c : Nat) (xs : List Int) (e : Int) (w : World) (hx : xs.length = n) (h : BytesIn w p n xs) (hb : ∀ x ∈ xs, 0 ≤ x ∧ x < 256) :
    Calls Tryz.prog 15 #[.slice p n c, .int .i64 e] w fun r w' => ∃ p' c', r = .returned (.slice p' (pubN n e) c') ∧ Own 5 w' w.heap.size w'.heap.size (.slice p' (pubN n e) c') (pubN n e) (pubL xs e) ∧ Below w.heap.size w w' := by
  have C1 := specSecret_any p n c xs e w hx h hb
  have hl : (secL xs e).length = secN n e := by rw [secL_length, hx]
  have hlb := secL_byte xs e
  unfold pubN pubL
  rw [hx]
  generalize secN n e = N at C1 hl ⊢
  generalize secL xs e = L at C1 hl hlb ⊢
  go_enter Tryz.func15, Tryz.ntmps15
  go_wp2_with (fail)
  refine C1.mono ?_
  rintro r w1 ⟨p1, c1, rfl, r1, b1⟩
  go_wp2_with (fail)
  refine (specPublic_any p1 N c1 L _ hl r1.bytes hlb).mono ?_
  rintro r w2 ⟨p2, c2, rfl, r2, b2⟩
  go_wp2
  go_ret
  exact ⟨_, _, rfl, ⟨owns_mono r2.1 b1.size, r2.2⟩, below_on b1 b2⟩

end Go.Proofs.YtdjdanpicbaieaaGreatDoor
