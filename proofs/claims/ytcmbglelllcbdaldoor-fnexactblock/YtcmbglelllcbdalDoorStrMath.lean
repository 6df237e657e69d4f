/-
  Plain laws of lists for the program's block of a stream: words as natural numbers, quarter rounds at the table's places, held against the specification's.
-/
import Derived.Test.YtcmbglelllcbdalDoorNewStream
import Derived.Test.YtcmbglelllcbdalDoorQuarterW
namespace Go.Proofs.YtcmbglelllcbdalDoor

def castL (S : List Nat) : List Int := S.map fun (n : Nat) => (n : Int)
theorem castL_length (S : List Nat) : (castL S).length = S.length := by simp [castL]
theorem castL_getD (S : List Nat) (k : Nat) : (castL S).getD k 0 = ((S.getD k 0 : Nat) : Int) := by
  simp only [castL, List.getD_eq_getElem?_getD, List.getElem?_map]
  cases S[k]? <;> rfl
theorem castL_set (S : List Nat) (k n : Nat) : (castL S).set k (n : Int) = castL (S.set k n) := by simp [castL, List.map_set]
def lowS (S : List Nat) : Prop := ∀ x ∈ S, x < 4294967296
theorem lowS.get {S : List Nat} (h : lowS S) (k : Nat) : S.getD k 0 < 4294967296 := by
  rw [List.getD_eq_getElem?_getD]
  cases hk : S[k]? with
  | none => decide
  | some x => exact h x (List.mem_of_getElem? hk)
theorem lowS.set {S : List Nat} (h : lowS S) (k : Nat) {n : Nat} (hn : n < 4294967296) : lowS (S.set k n) := by
  intro x hx
  rcases List.mem_or_eq_of_mem_set hx with h1 | h1
  · exact h x h1
  · rw [h1]; exact hn
theorem quarterN_low {a b c d : Nat} (hb : b < 4294967296) (hd : d < 4294967296) : (quarterN a b c d).1 < 4294967296 ∧ (quarterN a b c d).2.1 < 4294967296 ∧ (quarterN a b c d).2.2.1 < 4294967296 ∧ (quarterN a b c d).2.2.2 < 4294967296 := by
  simp only [quarterN]
  exact ⟨mod_lt32 _, turn_lt (xor_lt32 (turn_lt (xor_lt32 hb (mod_lt32 _)) (by decide)) (mod_lt32 _)) (by decide), mod_lt32 _, turn_lt (xor_lt32 (turn_lt (xor_lt32 hd (mod_lt32 _)) (by decide)) (mod_lt32 _)) (by decide)⟩
/-- A quarter round of words at four places. -/
def quarterS (S : List Nat) (a b c d : Nat) : List Nat :=
  let q := quarterN (S.getD a 0) (S.getD b 0) (S.getD c 0) (S.getD d 0)
  (((S.set a q.1).set b q.2.1).set c q.2.2.1).set d q.2.2.2
theorem quarterS_length (S : List Nat) (a b c d : Nat) : (quarterS S a b c d).length = S.length := by simp [quarterS]
theorem quarterS_low {S : List Nat} (h : lowS S) (a b c d : Nat) : lowS (quarterS S a b c d) := by
  have q := quarterN_low (a := S.getD a 0) (c := S.getD c 0) (h.get b) (h.get d)
  exact (((h.set a q.1).set b q.2.1).set c q.2.2.1).set d q.2.2.2
theorem quarterL_cast {S : List Nat} (h : lowS S) (a b c d : Nat) : quarterL (castL S) a b c d = castL (quarterS S a b c d) := by
  simp only [quarterL, setQ, castL_getD, wordN_nat (h.get _), castL_set, quarterS]
def placesL : List (List Nat) := [[0, 4, 8, 12], [1, 5, 9, 13], [2, 6, 10, 14], [3, 7, 11, 15], [0, 5, 10, 15], [1, 6, 11, 12], [2, 7, 8, 13], [3, 4, 9, 14]]
def placeN (k i : Nat) : Nat := (placesL.getD k []).getD i 0
/-- The first k of the eight quarter rounds. -/
def eightS (S : List Nat) : Nat → List Nat
  | 0 => S
  | k + 1 => quarterS (eightS S k) (placeN k 0) (placeN k 1) (placeN k 2) (placeN k 3)
theorem eightS_length (S : List Nat) : ∀ k, (eightS S k).length = S.length
  | 0 => rfl
  | k + 1 => by rw [eightS, quarterS_length, eightS_length S k]
theorem eightS_low {S : List Nat} (h : lowS S) : ∀ k, lowS (eightS S k)
  | 0 => h
  | k + 1 => quarterS_low (eightS_low h k) _ _ _ _
theorem doubleL_cast {S : List Nat} (h : lowS S) : doubleL (castL S) = castL (eightS S 8) := by
  have c : ∀ k, k ≤ 4 → colsL (castL S) k = castL (eightS S k) := by
    intro k
    induction k with
    | zero => intro _; rfl
    | succ k ih =>
      intro hk
      rw [colsL, ih (by omega), quarterL_cast (eightS_low h k)]
      have h4 : k = 0 ∨ k = 1 ∨ k = 2 ∨ k = 3 := by omega
      rcases h4 with rfl | rfl | rfl | rfl <;> rfl
  have d : ∀ k, k ≤ 4 → diasL (castL (eightS S 4)) k = castL (eightS S (4 + k)) := by
    intro k
    induction k with
    | zero => intro _; rfl
    | succ k ih =>
      intro hk
      rw [diasL, ih (by omega), quarterL_cast (eightS_low h _)]
      have h4 : k = 0 ∨ k = 1 ∨ k = 2 ∨ k = 3 := by omega
      rcases h4 with rfl | rfl | rfl | rfl <;> rfl
  rw [doubleL, c 4 (by decide), d 4 (by decide)]
def tenS (S : List Nat) : Nat → List Nat
  | 0 => S
  | k + 1 => eightS (tenS S k) 8
theorem tenS_length (S : List Nat) : ∀ k, (tenS S k).length = S.length
  | 0 => rfl
  | k + 1 => by rw [tenS, eightS_length, tenS_length S k]
theorem tenS_low {S : List Nat} (h : lowS S) : ∀ k, lowS (tenS S k)
  | 0 => h
  | k + 1 => eightS_low (tenS_low h k) _
theorem tenL_cast {S : List Nat} (h : lowS S) : ∀ k, tenL (castL S) k = castL (tenS S k)
  | 0 => rfl
  | k + 1 => by rw [tenL, tenL_cast h k, doubleL_cast (tenS_low h k), tenS]
/-- The words, each with what it was first. -/
def sumS (S F : List Nat) : List Int := (List.range 16).map fun i => (((S.getD i 0 + F.getD i 0) % 4294967296 : Nat) : Int)
theorem sumS_length (S F : List Nat) : (sumS S F).length = 16 := by simp [sumS]
theorem sumS_getD (S F : List Nat) (k : Nat) (hk : k < 16) : (sumS S F).getD k 0 = (((S.getD k 0 + F.getD k 0) % 4294967296 : Nat) : Int) := by simp [sumS, hk]
theorem sumsL_cast {S F : List Nat} (hS : lowS S) (hF : lowS F) (hl : S.length = 16) : sumsL (castL S) (castL F) 16 = sumS S F := by
  rw [sumsL, List.drop_of_length_le (by rw [castL_length]; omega), List.append_nil]
  apply List.map_congr_left
  intro i _
  rw [castL_getD, castL_getD, wordN_nat (hS.get i), wordN_nat (hF.get i)]
theorem blkB_cast {F : List Nat} (hF : lowS F) (hl : F.length = 16) {ks ns : List Int} {count : Int} (h : firstL ks count ns = castL F) : blkB ks count ns = bytesL false (sumS (tenS F 10) F) := by
  rw [blkB, h, tenL_cast hF, sumsL_cast (tenS_low hF _) hF (by rw [tenS_length, hl])]
/-- A stream's words with this count. -/
theorem firstN_set (ks ns : List Int) (count : Int) : (firstN ks 0 ns).set 12 (wordN count) = firstN ks count ns := by
  have e : firstL ks count ns = (firstL ks 0 ns).set 12 count := by
    simp only [firstL]
    rw [List.set_append_left _ _ (by simp [wordsL]), List.set_append_right _ _ (by simp [wordsL])]
    simp [wordsL]
  rw [firstN, firstN, e, List.map_set]
theorem firstL_cast (ks ns : List Int) (count : Int) (hc : 0 ≤ count ∧ count ≤ 4294967295) (hw : ∀ x ∈ wordsL false ks 8, 0 ≤ x ∧ x < 4294967296) (hv : ∀ x ∈ wordsL false ns 3, 0 ≤ x ∧ x < 4294967296) : firstL ks count ns = castL (firstN ks count ns) ∧ lowS (firstN ks count ns) := by
  have hall : ∀ x ∈ firstL ks count ns, 0 ≤ x ∧ x < 4294967296 := by
    intro x hx
    simp only [firstL, List.mem_append, List.mem_cons, List.not_mem_nil, or_false] at hx
    rcases hx with (((rfl | rfl | rfl | rfl) | h) | rfl) | h
    · decide
    · decide
    · decide
    · decide
    · exact hw x h
    · omega
    · exact hv x h
  refine ⟨?_, fun x hx => ?_⟩
  · rw [firstN, castL, List.map_map]
    conv => lhs; rw [← List.map_id (firstL ks count ns)]
    apply List.map_congr_left
    intro x hx
    have := hall x hx
    simp only [id, Function.comp, wordN]
    omega
  · simp only [firstN, List.mem_map] at hx
    obtain ⟨y, _, rfl⟩ := hx
    exact wordN_lt y

end Go.Proofs.YtcmbglelllcbdalDoor
