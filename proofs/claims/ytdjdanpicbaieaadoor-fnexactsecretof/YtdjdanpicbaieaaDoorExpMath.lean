/-
  Plain laws of lists for Expand: the codes one behind the other.
-/
import Derived.Test.YtdjdanpicbaieaaDoorMacMath
namespace Go.Proofs.YtdjdanpicbaieaaDoor
set_option maxRecDepth 100000

/-- The i-th code (nothing ahead of the first one), by a key of at most 64 bytes. -/
def tL (k info : List Int) : Nat → List Int
  | 0 => []
  | i + 1 => ofL k (tL k info i ++ info ++ [((i + 1 : Nat) : Int)])
def allL (k info : List Int) : Nat → List Int
  | 0 => []
  | i + 1 => allL k info i ++ tL k info (i + 1)
section
variable {k info : List Int}
theorem tL_text (hk : k.length ≤ 64) (hi : info.length ≤ 400) : ∀ i, (tL k info i).length ≤ 32 ∧ (tL k info i ++ info ++ [((i + 1 : Nat) : Int)]).length ≤ 3936
  | 0 => by simp [tL]; omega
  | i + 1 => by
    have h := (tL_text hk hi i).2
    have e : (tL k info (i + 1)).length = 32 := ofL_length hk h
    refine ⟨by omega, ?_⟩
    simp only [List.length_append, e, List.length_singleton]
    omega
theorem tL_length (hk : k.length ≤ 64) (hi : info.length ≤ 400) (i : Nat) : (tL k info (i + 1)).length = 32 := ofL_length hk (tL_text hk hi i).2
theorem tL_byte : ∀ i, ∀ x ∈ tL k info i, 0 ≤ x ∧ x < 256
  | 0 => fun x hx => by simp [tL] at hx
  | i + 1 => ofL_byte _ _
theorem text_byte (hb : ∀ x ∈ info, 0 ≤ x ∧ x < 256) {i : Nat} (hi : i + 1 < 256) : ∀ x ∈ tL k info i ++ info ++ [((i + 1 : Nat) : Int)], 0 ≤ x ∧ x < 256 := by
  intro x hx
  simp only [List.mem_append, List.mem_singleton] at hx
  rcases hx with (h | h) | h
  · exact tL_byte i x h
  · exact hb x h
  · omega
theorem allL_length (hk : k.length ≤ 64) (hi : info.length ≤ 400) : ∀ i, (allL k info i).length = 32 * i
  | 0 => rfl
  | i + 1 => by rw [allL, List.length_append, allL_length hk hi i, tL_length hk hi]; omega
theorem allL_byte : ∀ i, ∀ x ∈ allL k info i, 0 ≤ x ∧ x < 256
  | 0 => fun x hx => by simp [allL] at hx
  | i + 1 => fun x hx => by
    rcases List.mem_append.1 hx with h | h
    · exact allL_byte i x h
    · exact tL_byte _ x h
theorem all_step (hk : k.length ≤ 64) (hi : info.length ≤ 400) {M i x : Nat} (h : 32 * i < M) (hx : x = min 32 (M - 32 * i)) : (allL k info i).take M ++ (tL k info (i + 1)).take x = (allL k info (i + 1)).take M := by
  have l1 := allL_length hk hi i
  have l2 := tL_length hk hi i
  rw [allL, List.take_append, List.take_of_length_le (show (allL k info i).length ≤ M by omega), l1]
  congr 1
  by_cases h32 : M - 32 * i ≤ 32
  · rw [show x = M - 32 * i by omega]
  · rw [List.take_of_length_le (show (tL k info (i + 1)).length ≤ x by omega), List.take_of_length_le (show (tL k info (i + 1)).length ≤ M - 32 * i by omega)]
theorem all_more (hk : k.length ≤ 64) (hi : info.length ≤ 400) {M i : Nat} (h : M ≤ 32 * i) : ∀ d, (allL k info (i + d)).take M = (allL k info i).take M
  | 0 => rfl
  | d + 1 => by
    have l1 := allL_length hk hi (i + d)
    rw [← Nat.add_assoc, allL, List.take_append_of_le_length (by omega), all_more hk hi h d]
theorem all_same (hk : k.length ≤ 64) (hi : info.length ≤ 400) {M i j : Nat} (h1 : M ≤ 32 * i) (h2 : M ≤ 32 * j) : (allL k info i).take M = (allL k info j).take M := by
  rcases Nat.le_total i j with h | h
  · obtain ⟨d, rfl⟩ := Nat.exists_eq_add_of_le h
    exact (all_more hk hi h1 d).symm
  · obtain ⟨d, rfl⟩ := Nat.exists_eq_add_of_le h
    exact all_more hk hi h2 d
end

/-- Is anything made of so many bytes of key and info, so many bytes asked for? -/
def expOk (n m : Nat) (many : Int) : Prop := 1 ≤ many ∧ many ≤ 8160 ∧ m ≤ 400 ∧ n ≤ 400
instance (n m : Nat) (many : Int) : Decidable (expOk n m many) := inferInstanceAs (Decidable (_ ∧ _ ∧ _ ∧ _))
def expN (n m : Nat) (many : Int) : Nat := if expOk n m many then many.toNat else 0
def expL (key info : List Int) (many : Int) : List Int := if expOk key.length info.length many then (allL (kL key) info ((many.toNat + 31) / 32)).take many.toNat else []
theorem expN_le (n m : Nat) (many : Int) : expN n m many ≤ 8160 := by
  unfold expN
  split
  · rename_i h
    obtain ⟨h1, h2, _⟩ := h
    omega
  · omega
theorem exp_yes {n m M : Nat} (h1 : 1 ≤ M) (h2 : M ≤ 8160) (hm : m ≤ 400) (hn : n ≤ 400) : expOk n m (M : Int) := ⟨by omega, by omega, hm, hn⟩
theorem exp_is {key info : List Int} {M i : Nat} (h1 : 1 ≤ M) (h2 : M ≤ 8160) (hm : info.length ≤ 400) (hn : key.length ≤ 400) (hi : M ≤ 32 * i) : expL key info (M : Int) = (allL (kL key) info i).take M := by
  unfold expL
  rw [if_pos (exp_yes h1 h2 hm hn), Int.toNat_natCast]
  exact all_same (kL_length (by omega)) hm (by omega) hi
theorem expN_is {n m M : Nat} (h1 : 1 ≤ M) (h2 : M ≤ 8160) (hm : m ≤ 400) (hn : n ≤ 400) : expN n m (M : Int) = M := by
  unfold expN
  rw [if_pos (exp_yes h1 h2 hm hn), Int.toNat_natCast]
theorem expL_length (key info : List Int) (many : Int) : (expL key info many).length = expN key.length info.length many := by
  unfold expL expN
  split
  · rename_i h
    obtain ⟨h1, h2, h3, h4⟩ := h
    rw [List.length_take, allL_length (kL_length (by omega)) h3]
    omega
  · rfl
theorem expL_byte (key info : List Int) (many : Int) : ∀ x ∈ expL key info many, 0 ≤ x ∧ x < 256 := by
  unfold expL
  split
  · exact fun x hx => allL_byte _ x (List.mem_of_mem_take hx)
  · intro x hx; simp at hx

end Go.Proofs.YtdjdanpicbaieaaDoor
