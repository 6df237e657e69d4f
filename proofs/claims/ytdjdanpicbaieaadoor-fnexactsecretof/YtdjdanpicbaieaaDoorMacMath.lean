/-
  Plain laws of lists for a code by a key: what a hash makes of a block and of what lies behind it.
-/
import Derived.Test.YtdjdanpicbaieaaDoorHash
import Derived.Test.YtdjdanpicbaieaaDoorMarked
namespace Go.Proofs.YtdjdanpicbaieaaDoor
set_option maxRecDepth 100000

def behindL (xs : List Int) : List Int := (padL (List.replicate 64 0 ++ xs)).drop 64
def behindN (n : Nat) : Nat := padN (64 + n) - 64
theorem pad_split {ys xs : List Int} (hy : ys.length = 64) (hx : xs.length ≤ 3936) : padL (ys ++ xs) = ys ++ behindL xs := by
  have h1 : (ys ++ xs).length = 64 + xs.length := by rw [List.length_append, hy]
  have h2 : (List.replicate 64 (0 : Int) ++ xs).length = 64 + xs.length := by rw [List.length_append, List.length_replicate]
  unfold behindL padL
  rw [h1, h2, if_pos (by omega), if_pos (by omega)]
  simp only [List.append_assoc]
  rw [List.drop_left' (by simp)]
theorem behindL_length {xs : List Int} : (behindL xs).length = behindN xs.length := by
  unfold behindL behindN
  rw [List.length_drop, padL_length, List.length_append, List.length_replicate]
theorem behindN_is {n : Nat} (h : n ≤ 3936) : padN (64 + n) = 64 + behindN n ∧ behindN n = 64 * (behindN n / 64) ∧ 64 ≤ behindN n ∧ behindN n ≤ 4096 := by
  have h1 := pad64 (n := 64 + n) (by omega)
  have h2 : padN (64 + n) = 64 + n + 1 + zerosN (64 + n) + 8 := if_pos (by omega)
  unfold behindN
  omega
theorem behindL_byte {xs : List Int} (hb : ∀ x ∈ xs, 0 ≤ x ∧ x < 256) : ∀ x ∈ behindL xs, 0 ≤ x ∧ x < 256 := by
  intro x hx
  refine padL_byte (xs := List.replicate 64 0 ++ xs) ?_ x (List.mem_of_mem_drop hx)
  intro y hy
  rcases List.mem_append.1 hy with h | h
  · have := List.eq_of_mem_replicate h
    omega
  · exact hb y h
theorem fold_head {ys : List Int} (hy : ys.length = 64) (S : List Nat) (zs : List Int) : ∀ k, foldF S (ys ++ zs) (k + 1) = foldF (blockN (wsOf ys) S) zs k
  | 0 => by
    show blockN (wsOf (((ys ++ zs).drop (64 * 0)).take 64)) S = _
    rw [Nat.mul_zero, List.drop_zero, List.take_left' hy]
    rfl
  | k + 1 => by
    show blockN (wsOf (((ys ++ zs).drop (64 * (k + 1))).take 64)) (foldF S (ys ++ zs) (k + 1)) = blockN (wsOf ((zs.drop (64 * k)).take 64)) (foldF (blockN (wsOf ys) S) zs k)
    rw [fold_head hy S zs k, show 64 * (k + 1) = 64 + 64 * k by omega, ← List.drop_drop, List.drop_left' hy]
theorem hash_behind {ys xs : List Int} (hy : ys.length = 64) (hx : xs.length ≤ 3936) : hashL (ys ++ xs) = bytesL true (natsL (foldF (blockN (wsOf ys) startN) (behindL xs) (behindN xs.length / 64))) := by
  have h1 : (ys ++ xs).length = 64 + xs.length := by rw [List.length_append, hy]
  have h2 := behindN_is hx
  unfold hashL
  rw [h1, if_pos (by omega), pad_split hy hx, h2.1, show (64 + behindN xs.length) / 64 = behindN xs.length / 64 + 1 by omega]
  unfold foldN
  rw [fold_head hy]

theorem hashL_length {xs : List Int} (h : xs.length ≤ 4000) : (hashL xs).length = 32 := by
  unfold hashL
  rw [if_pos h, bytesL_length, natsL_length, foldN_length]
theorem bytesL_byte {l : List Int} : ∀ x ∈ bytesL true l, 0 ≤ x ∧ x < 256 := by
  intro x hx
  unfold bytesL at hx
  obtain ⟨n, _, hx⟩ := List.mem_flatMap.1 hx
  simp only [fourL, littleL] at hx
  simp only [if_true, List.mem_reverse, List.mem_map] at hx
  obtain ⟨i, _, rfl⟩ := hx
  omega
theorem hashL_byte (xs : List Int) : ∀ x ∈ hashL xs, 0 ≤ x ∧ x < 256 := by
  unfold hashL
  split
  · exact bytesL_byte
  · intro x hx; simp at hx

/-- The key, or its hash. -/
def kL (key : List Int) : List Int := if 64 < key.length then hashL key else key
theorem kL_length {key : List Int} (h : key.length ≤ 4000) : (kL key).length ≤ 64 := by
  unfold kL
  split
  · rw [hashL_length h]; omega
  · omega
theorem kL_byte {key : List Int} (h : ∀ x ∈ key, 0 ≤ x ∧ x < 256) : ∀ x ∈ kL key, 0 ≤ x ∧ x < 256 := by
  unfold kL
  split
  · exact hashL_byte key
  · exact h
/-- What is made of a key of at most 64 bytes and a text. -/
def ofL (k b : List Int) : List Int := hashL (markL k 92 ++ hashL (markL k 54 ++ b))
def macN (n m : Nat) : Nat := if n ≤ 3936 ∧ m ≤ 3936 then 32 else 0
def macL (key b : List Int) : List Int := if key.length ≤ 3936 ∧ b.length ≤ 3936 then ofL (kL key) b else []
theorem macN_le (n m : Nat) : macN n m ≤ 32 := by unfold macN; split <;> omega
theorem ofL_length {k b : List Int} (hk : k.length ≤ 64) (hb : b.length ≤ 3936) : (ofL k b).length = 32 := by
  unfold ofL
  rw [hashL_length]
  rw [List.length_append, markL_length hk, hashL_length (by rw [List.length_append, markL_length hk]; omega)]
  omega
theorem macL_length (key b : List Int) : (macL key b).length = macN key.length b.length := by
  unfold macL macN
  split
  · rename_i h
    exact ofL_length (kL_length (by omega)) h.2
  · rfl
theorem ofL_byte (k b : List Int) : ∀ x ∈ ofL k b, 0 ≤ x ∧ x < 256 := hashL_byte _
theorem macL_byte (key b : List Int) : ∀ x ∈ macL key b, 0 ≤ x ∧ x < 256 := by
  unfold macL
  split
  · exact ofL_byte _ _
  · intro x hx; simp at hx
theorem xor_byte (u v : Int) : 0 ≤ bits BinOp.xor IntKind.u8 u v ∧ bits BinOp.xor IntKind.u8 u v < 256 := by
  have : bits BinOp.xor IntKind.u8 u v = IntKind.u8.wrap ((BitVec.ofInt 8 u ^^^ BitVec.ofInt 8 v).toNat : Int) := rfl
  rw [this, IntKind.wrap_u8]
  omega
theorem markL_byte (k : List Int) (m : Int) : ∀ x ∈ markL k m, 0 ≤ x ∧ x < 256 := by
  intro x hx
  unfold markL xorL at hx
  obtain ⟨i, hi, rfl⟩ := List.getElem_of_mem hx
  rw [List.getElem_zipWith]
  exact xor_byte _ _

end Go.Proofs.YtdjdanpicbaieaaDoor
