/-
  What the program's Mac answers: the code by a key; nothing of more than 3936 bytes of either. Conditions: bytes all; the table of the rounds' numbers is as its text says.
-/
import Derived.Test.YtdjdanpicbaieaaDoorNewCode
namespace Go.Proofs.YtdjdanpicbaieaaDoor
open Go.RowKit
set_option maxRecDepth 100000

set_option maxHeartbeats 1000000 in
theorem implMac_yes (p q : Option Addr) (n m c d : Nat) (ks xs : List Int) (w : World) (hn : n ≤ 3936) (hm : m ≤ 3936) (hx : ks.length = n) (hy : xs.length = m) (h : BytesIn w p n ks) (h' : BytesIn w q m xs) (hb : ∀ x ∈ ks, 0 ≤ x ∧ x < 256) (hb' : ∀ x ∈ xs, 0 ≤ x ∧ x < 256) (hK : KeysIs w) :
    Calls Tryd.prog 37 #[.slice p n c, .slice q m d] w fun e w' => ∃ p' c', e = .returned (.slice p' 32 c') ∧ Own 5 w' w.heap.size w'.heap.size (.slice p' 32 c') 32 (ofL (kL ks) xs) ∧ Below w.heap.size w w' := by
  have d1 : ¬ (3936 : Int) < (n : Int) := by omega
  have d2 : ¬ (3936 : Int) < (m : Int) := by omega
  have CN := newCode_any p n c ks w (by omega) hx h hb hK
  have hkl := kL_length (key := ks) (by omega)
  have CO := fun X hX hKX => codeOf_any (kL ks) q m d xs X hkl hm hy hX hb' hKX
  generalize kL ks = kk at CN CO ⊢
  obtain ⟨Cs, hCs⟩ : ∃ Cs, Cs = (codeC kk).toArray := ⟨_, rfl⟩
  rw [← hCs] at CN CO
  clear hCs
  go_enter Tryd.func37, Tryd.ntmps37
  go_wp2_with (fail)
  refine CN.mono ?_
  rintro e w1 ⟨rfl, b1⟩
  clear CN
  go_wp2_with (fail)
  refine (CO _ (in_below h' b1) (keys_below hK b1)).mono ?_
  rintro e w2 ⟨p2, c2, rfl, r2, b2⟩
  go_wp2
  go_ret
  have hs := b1.size
  exact ⟨_, _, rfl, ⟨owns_mono r2.1 (by omega), r2.2⟩, below_on b1 b2⟩

theorem implMac_no (p q : Option Addr) (n m c d : Nat) (w : World) (hn : ¬ (n ≤ 3936 ∧ m ≤ 3936)) :
    Calls Tryd.prog 37 #[.slice p n c, .slice q m d] w fun e w' => ∃ p' c', e = .returned (.slice p' 0 c') ∧ Own 5 w' w.heap.size w'.heap.size (.slice p' 0 c') 0 [] ∧ Below w.heap.size w w' := by
  by_cases h1 : m ≤ 3936
  · have d1 : ¬ (3936 : Int) < (m : Int) := by omega
    have d2 : (3936 : Int) < (n : Int) := by omega
    go_enter Tryd.func37, Tryd.ntmps37
    go_wp2
    go_ret
    exact ⟨_, _, rfl, .of (World.ownsRow_nil _ _ _ _), Below.refl _ _⟩
  · have d1 : (3936 : Int) < (m : Int) := by omega
    go_enter Tryd.func37, Tryd.ntmps37
    go_wp2
    go_ret
    exact ⟨_, _, rfl, .of (World.ownsRow_nil _ _ _ _), Below.refl _ _⟩
theorem implMac_any (p q : Option Addr) (n m c d : Nat) (ks xs : List Int) (w : World) (hx : ks.length = n) (hy : xs.length = m) (h : BytesIn w p n ks) (h' : BytesIn w q m xs) (hb : ∀ x ∈ ks, 0 ≤ x ∧ x < 256) (hb' : ∀ x ∈ xs, 0 ≤ x ∧ x < 256) (hK : KeysIs w) :
    Calls Tryd.prog 37 #[.slice p n c, .slice q m d] w fun e w' => ∃ p' c', e = .returned (.slice p' (macN n m) c') ∧ Own 5 w' w.heap.size w'.heap.size (.slice p' (macN n m) c') (macN n m) (macL ks xs) ∧ Below w.heap.size w w' := by
  unfold macN macL
  rw [hx, hy]
  by_cases hn : n ≤ 3936 ∧ m ≤ 3936
  · rw [if_pos hn, if_pos hn]
    exact implMac_yes p q n m c d ks xs w hn.1 hn.2 hx hy h h' hb hb' hK
  · rw [if_neg hn, if_neg hn]
    exact implMac_no p q n m c d w hn

end Go.Proofs.YtdjdanpicbaieaaDoor
