/-
  What both sides' Derive answers: Expand of Extract. Conditions: bytes all; for the program the table of the rounds' numbers is as its text says.
-/
import Derived.Test.YtdjdanpicbaieaaDoorExtract
import Derived.Test.YtdjdanpicbaieaaDoorExpand
import Derived.Test.YtdjdanpicbaieaaDoorSpecExpand
namespace Go.Proofs.YtdjdanpicbaieaaDoor
open Go.RowKit
set_option maxRecDepth 100000

def derN (n m l : Nat) (many : Int) : Nat := expN (extN n m) l many
def derL (xs ys zs : List Int) (many : Int) : List Int := expL (extL xs ys) zs many
theorem derN_le (n m l : Nat) (many : Int) : derN n m l many ≤ 8160 := expN_le _ _ _
theorem derL_length (xs ys zs : List Int) (many : Int) : (derL xs ys zs many).length = derN xs.length ys.length zs.length many := by rw [derL, expL_length, extL_length]; rfl

set_option maxHeartbeats 1000000 in
theorem implDerive_any (p q r : Option Addr) (n m l c d f : Nat) (many : Int) (xs ys zs : List Int) (w : World) (hx : xs.length = n) (hy : ys.length = m) (hz : zs.length = l) (h : BytesIn w p n xs) (h' : BytesIn w q m ys) (h'' : BytesIn w r l zs) (hb : ∀ x ∈ xs, 0 ≤ x ∧ x < 256) (hb' : ∀ x ∈ ys, 0 ≤ x ∧ x < 256) (hb'' : ∀ x ∈ zs, 0 ≤ x ∧ x < 256) (hK : KeysIs w) :
    Calls Tryd.prog 46 #[.slice p n c, .slice q m d, .slice r l f, .int .i64 many] w fun e w' => ∃ p' c', e = .returned (.slice p' (derN n m l many) c') ∧ Own 5 w' w.heap.size w'.heap.size (.slice p' (derN n m l many) c') (derN n m l many) (derL xs ys zs many) ∧ Below w.heap.size w w' := by
  unfold derN derL
  have C1 := implExtract_any p q n m c d xs ys w hx hy h h' hb hb' hK
  have hl : (extL xs ys).length = extN n m := by rw [extL_length, hx, hy]
  have hlb := extL_byte xs ys
  generalize extN n m = N at C1 hl ⊢
  generalize extL xs ys = E at C1 hl hlb ⊢
  go_enter Tryd.func46, Tryd.ntmps46
  go_wp2_with (fail)
  refine C1.mono ?_
  rintro e w1 ⟨p1, c1, rfl, r1, b1⟩
  clear C1
  go_wp2_with (fail)
  refine (implExpand_any p1 r N l _ _ many E zs _ hl hz r1.bytes (in_below h'' b1) hlb hb'' (keys_below hK b1)).mono ?_
  rintro e w2 ⟨p2, c2, rfl, r2, b2⟩
  go_wp2
  go_ret
  exact ⟨_, _, rfl, ⟨owns_mono r2.1 b1.size, r2.2⟩, below_on b1 b2⟩

set_option maxHeartbeats 1000000 in
theorem specDerive_any (p q r : Option Addr) (n m l c d f : Nat) (many : Int) (xs ys zs : List Int) (w : World) (hx : xs.length = n) (hy : ys.length = m) (hz : zs.length = l) (h : BytesIn w p n xs) (h' : BytesIn w q m ys) (h'' : BytesIn w r l zs) (hb : ∀ x ∈ xs, 0 ≤ x ∧ x < 256) (hb' : ∀ x ∈ ys, 0 ≤ x ∧ x < 256) (hb'' : ∀ x ∈ zs, 0 ≤ x ∧ x < 256) :
    Calls Tryd.prog 30 #[.slice p n c, .slice q m d, .slice r l f, .int .i64 many] w fun e w' => ∃ p' c', e = .returned (.slice p' (derN n m l many) c') ∧ Own 5 w' w.heap.size w'.heap.size (.slice p' (derN n m l many) c') (derN n m l many) (derL xs ys zs many) ∧ Below w.heap.size w w' := by
  unfold derN derL
  have C1 := specExtract_any p q n m c d xs ys w hx hy h h' hb hb'
  have hl : (extL xs ys).length = extN n m := by rw [extL_length, hx, hy]
  have hlb := extL_byte xs ys
  generalize extN n m = N at C1 hl ⊢
  generalize extL xs ys = E at C1 hl hlb ⊢
  go_enter Tryd.func30, Tryd.ntmps30
  go_wp2_with (fail)
  refine C1.mono ?_
  rintro e w1 ⟨p1, c1, rfl, r1, b1⟩
  clear C1
  go_wp2_with (fail)
  refine (specExpand_any p1 r N l _ _ many E zs _ hl hz r1.bytes (in_below h'' b1) hlb hb'').mono ?_
  rintro e w2 ⟨p2, c2, rfl, r2, b2⟩
  go_wp2
  go_ret
  exact ⟨_, _, rfl, ⟨owns_mono r2.1 b1.size, r2.2⟩, below_on b1 b2⟩

end Go.Proofs.YtdjdanpicbaieaaDoor
