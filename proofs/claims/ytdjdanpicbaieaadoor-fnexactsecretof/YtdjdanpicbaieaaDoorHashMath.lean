/-
  Numbers for a hash: the mixes of a word, the choice and the majority as and, or and xor tell them, a round of the eight words, the words that a block is spread to; each at its own bounds.
-/
import Derived.Test.YtdjdanpicbaieaaDoorWordMath
namespace Go.Proofs.YtdjdanpicbaieaaDoor
open Go.RowKit

theorem u32_xor (a b : Nat) (h1 : a < 4294967296) (h2 : b < 4294967296) : bits .xor .u32 (a : Int) (b : Int) = ((a ^^^ b : Nat) : Int) := by
  have hlt : (a ^^^ b) < 2 ^ 32 := Nat.xor_lt_two_pow h1 h2
  have : (BitVec.ofInt 32 (a : Int) ^^^ BitVec.ofInt 32 (b : Int)).toNat = (a ^^^ b) := by rw [BitVec.toNat_xor, bv32_nat h1, bv32_nat h2]
  show IntKind.u32.wrap ((BitVec.ofInt 32 (a : Int) ^^^ BitVec.ofInt 32 (b : Int)).toNat : Int) = _
  rw [this, IntKind.wrap_u32]
  omega

theorem u32_and (a b : Nat) (h1 : a < 4294967296) (h2 : b < 4294967296) : bits .and .u32 (a : Int) (b : Int) = ((a &&& b : Nat) : Int) := by
  have hlt : (a &&& b) < 2 ^ 32 := Nat.and_lt_two_pow _ h2
  have : (BitVec.ofInt 32 (a : Int) &&& BitVec.ofInt 32 (b : Int)).toNat = (a &&& b) := by rw [BitVec.toNat_and, bv32_nat h1, bv32_nat h2]
  show IntKind.u32.wrap ((BitVec.ofInt 32 (a : Int) &&& BitVec.ofInt 32 (b : Int)).toNat : Int) = _
  rw [this, IntKind.wrap_u32]
  omega

theorem i64_xor (a b : Nat) (h1 : a < 4294967296) (h2 : b < 4294967296) : bits .xor .i64 (a : Int) (b : Int) = ((a ^^^ b : Nat) : Int) := by
  have hlt : (a ^^^ b) < 2 ^ 32 := Nat.xor_lt_two_pow h1 h2
  have : (BitVec.ofInt 64 (a : Int) ^^^ BitVec.ofInt 64 (b : Int)).toNat = (a ^^^ b) := by rw [BitVec.toNat_xor, bv64_nat (by omega), bv64_nat (by omega)]
  show IntKind.i64.wrap ((BitVec.ofInt 64 (a : Int) ^^^ BitVec.ofInt 64 (b : Int)).toNat : Int) = _
  rw [this, IntKind.wrap_i64]
  omega

theorem i64_and (a b : Nat) (h1 : a < 4294967296) (h2 : b < 4294967296) : bits .and .i64 (a : Int) (b : Int) = ((a &&& b : Nat) : Int) := by
  have hlt : (a &&& b) < 2 ^ 32 := Nat.and_lt_two_pow _ h2
  have : (BitVec.ofInt 64 (a : Int) &&& BitVec.ofInt 64 (b : Int)).toNat = (a &&& b) := by rw [BitVec.toNat_and, bv64_nat (by omega), bv64_nat (by omega)]
  show IntKind.i64.wrap ((BitVec.ofInt 64 (a : Int) &&& BitVec.ofInt 64 (b : Int)).toNat : Int) = _
  rw [this, IntKind.wrap_i64]
  omega

theorem xor_lt {a b : Nat} (h1 : a < 4294967296) (h2 : b < 4294967296) : a ^^^ b < 4294967296 := Nat.xor_lt_two_pow (n := 32) h1 h2
theorem and_lt {a b : Nat} (h2 : b < 4294967296) : a &&& b < 4294967296 := Nat.and_lt_two_pow (n := 32) _ h2
theorem or_lt {a b : Nat} (h1 : a < 4294967296) (h2 : b < 4294967296) : a ||| b < 4294967296 := Nat.or_lt_two_pow (n := 32) h1 h2

/-- The mixes: turned right by a, b and c; by a and b, and shifted by c. -/
def greatN (x a b c : Nat) : Nat := turnN x (32 - a) ^^^ turnN x (32 - b) ^^^ turnN x (32 - c)
def smallN (x a b c : Nat) : Nat := turnN x (32 - a) ^^^ turnN x (32 - b) ^^^ x / 2 ^ c
theorem greatN_lt {x a b c : Nat} (hx : x < 4294967296) (ha : 0 < a) (hb : 0 < b) (hc : 0 < c) : greatN x a b c < 4294967296 :=
  xor_lt (xor_lt (turn_lt hx (by omega)) (turn_lt hx (by omega))) (turn_lt hx (by omega))
theorem smallN_lt {x a b c : Nat} (hx : x < 4294967296) (ha : 0 < a) (hb : 0 < b) : smallN x a b c < 4294967296 :=
  xor_lt (xor_lt (turn_lt hx (by omega)) (turn_lt hx (by omega))) (Nat.lt_of_le_of_lt (Nat.div_le_self _ _) hx)

theorem u32_xor3 (a b c : Nat) (h1 : a < 4294967296) (h2 : b < 4294967296) (h3 : c < 4294967296) : bits .xor .u32 (bits .xor .u32 (a : Int) (b : Int)) (c : Int) = ((a ^^^ b ^^^ c : Nat) : Int) := by
  rw [u32_xor a b h1 h2, u32_xor _ c (xor_lt h1 h2) h3]
theorem i64_xor3 (a b c : Nat) (h1 : a < 4294967296) (h2 : b < 4294967296) (h3 : c < 4294967296) : bits .xor .i64 (bits .xor .i64 (a : Int) (b : Int)) (c : Int) = ((a ^^^ b ^^^ c : Nat) : Int) := by
  rw [i64_xor a b h1 h2, i64_xor _ c (xor_lt h1 h2) h3]

/-- The choice and the majority. -/
def chN (e f g : Nat) : Nat := (e &&& f) ^^^ ((4294967295 ^^^ e) &&& g)
def majN (a b c : Nat) : Nat := (a &&& b) ^^^ (a &&& c) ^^^ (b &&& c)
theorem chN_lt {e f g : Nat} (hf : f < 4294967296) (hg : g < 4294967296) : chN e f g < 4294967296 := xor_lt (and_lt hf) (and_lt hg)
theorem majN_lt {a b c : Nat} (hb : b < 4294967296) (hc : c < 4294967296) : majN a b c < 4294967296 := xor_lt (xor_lt (and_lt hb) (and_lt hc)) (and_lt hc)

theorem ch_or {e f g : Nat} (he : e < 4294967296) : (e &&& f ||| (4294967295 ^^^ e) &&& g) = chN e f g := by
  unfold chN
  apply Nat.eq_of_testBit_eq
  intro i
  have hk : (4294967295 : Nat).testBit i = decide (i < 32) := by
    rw [show (4294967295 : Nat) = 2 ^ 32 - 1 from rfl, Nat.testBit_two_pow_sub_one]
  simp only [Nat.testBit_or, Nat.testBit_xor, Nat.testBit_and, hk]
  by_cases hi : i < 32
  · simp only [hi, decide_true]
    cases e.testBit i <;> cases f.testBit i <;> cases g.testBit i <;> rfl
  · have : e.testBit i = false := Nat.testBit_lt_two_pow (Nat.lt_of_lt_of_le (show e < 2 ^ 32 from he) (Nat.pow_le_pow_right (by decide) (by omega)))
    rw [this]
    simp

theorem maj_or (a b c : Nat) : (a &&& b ||| a &&& c ||| b &&& c) = majN a b c := by
  unfold majN
  apply Nat.eq_of_testBit_eq
  intro i
  simp only [Nat.testBit_or, Nat.testBit_xor, Nat.testBit_and]
  cases a.testBit i <;> cases b.testBit i <;> cases c.testBit i <;> rfl

theorem u32_maj {a b c : Nat} (ha : a < 4294967296) (hb : b < 4294967296) (hc : c < 4294967296) :
    bits .or .u32 (bits .or .u32 (bits .and .u32 (a : Int) (b : Int)) (bits .and .u32 (a : Int) (c : Int))) (bits .and .u32 (b : Int) (c : Int)) = ((majN a b c : Nat) : Int) := by
  rw [u32_and a b ha hb, u32_and a c ha hc, u32_and b c hb hc, u32_or _ _ (and_lt hb) (and_lt hc), u32_or _ _ (or_lt (and_lt hb) (and_lt hc)) (and_lt hc), maj_or]
theorem i64_maj {a b c : Nat} (ha : a < 4294967296) (hb : b < 4294967296) (hc : c < 4294967296) :
    bits .xor .i64 (bits .xor .i64 (bits .and .i64 (a : Int) (b : Int)) (bits .and .i64 (a : Int) (c : Int))) (bits .and .i64 (b : Int) (c : Int)) = ((majN a b c : Nat) : Int) := by
  rw [i64_and a b ha hb, i64_and a c ha hc, i64_and b c hb hc, i64_xor _ _ (and_lt hb) (and_lt hc), i64_xor _ _ (xor_lt (and_lt hb) (and_lt hc)) (and_lt hc), majN]
theorem u32_ch {e f g : Nat} (he : e < 4294967296) (hf : f < 4294967296) (hg : g < 4294967296) :
    bits .or .u32 (bits .and .u32 (e : Int) (f : Int)) (bits .and .u32 (bits .xor .u32 IntKind.u32.max (e : Int)) (g : Int)) = ((chN e f g : Nat) : Int) := by
  have h0 : bits .xor .u32 IntKind.u32.max (e : Int) = ((4294967295 ^^^ e : Nat) : Int) := u32_xor 4294967295 e (by decide) he
  rw [h0, u32_and e f he hf, u32_and _ g (xor_lt (by decide) he) hg, u32_or _ _ (and_lt hf) (and_lt hg), ch_or he]
theorem i64_ch {e f g : Nat} (he : e < 4294967296) (hf : f < 4294967296) (hg : g < 4294967296) :
    bits .xor .i64 (bits .and .i64 (e : Int) (f : Int)) (bits .and .i64 (bits .xor .i64 4294967295 (e : Int)) (g : Int)) = ((chN e f g : Nat) : Int) := by
  have h0 : bits .xor .i64 4294967295 (e : Int) = ((4294967295 ^^^ e : Nat) : Int) := i64_xor 4294967295 e (by decide) he
  rw [h0, i64_and e f he hf, i64_and _ g (xor_lt (by decide) he) hg, i64_xor _ _ (and_lt hf) (and_lt hg), chN]

/-- The eight words. -/
structure St where
  a : Nat
  b : Nat
  c : Nat
  d : Nat
  e : Nat
  f : Nat
  g : Nat
  h : Nat
def St.ok (s : St) : Prop := s.a < 4294967296 ∧ s.b < 4294967296 ∧ s.c < 4294967296 ∧ s.d < 4294967296 ∧ s.e < 4294967296 ∧ s.f < 4294967296 ∧ s.g < 4294967296 ∧ s.h < 4294967296
def St.list (s : St) : List Nat := [s.a, s.b, s.c, s.d, s.e, s.f, s.g, s.h]
def t1N (s : St) (k w : Nat) : Nat := s.h + greatN s.e 6 11 25 + chN s.e s.f s.g + k + w
def t2N (s : St) : Nat := greatN s.a 2 13 22 + majN s.a s.b s.c
def stepN (s : St) (k w : Nat) : St := ⟨(t1N s k w + t2N s) % 4294967296, s.a, s.b, s.c, (s.d + t1N s k w) % 4294967296, s.e, s.f, s.g⟩
theorem stepN_ok {s : St} (h : s.ok) (k w : Nat) : (stepN s k w).ok := by
  obtain ⟨h1, h2, h3, h4, h5, h6, h7, h8⟩ := h
  exact ⟨Nat.mod_lt _ (by decide), h1, h2, h3, Nat.mod_lt _ (by decide), h5, h6, h7⟩

/-- The numbers of the rounds. -/
def keysL : List Nat := [0x428a2f98, 0x71374491, 0xb5c0fbcf, 0xe9b5dba5, 0x3956c25b, 0x59f111f1, 0x923f82a4, 0xab1c5ed5,
  0xd807aa98, 0x12835b01, 0x243185be, 0x550c7dc3, 0x72be5d74, 0x80deb1fe, 0x9bdc06a7, 0xc19bf174,
  0xe49b69c1, 0xefbe4786, 0x0fc19dc6, 0x240ca1cc, 0x2de92c6f, 0x4a7484aa, 0x5cb0a9dc, 0x76f988da,
  0x983e5152, 0xa831c66d, 0xb00327c8, 0xbf597fc7, 0xc6e00bf3, 0xd5a79147, 0x06ca6351, 0x14292967,
  0x27b70a85, 0x2e1b2138, 0x4d2c6dfc, 0x53380d13, 0x650a7354, 0x766a0abb, 0x81c2c92e, 0x92722c85,
  0xa2bfe8a1, 0xa81a664b, 0xc24b8b70, 0xc76c51a3, 0xd192e819, 0xd6990624, 0xf40e3585, 0x106aa070,
  0x19a4c116, 0x1e376c08, 0x2748774c, 0x34b0bcb5, 0x391c0cb3, 0x4ed8aa4a, 0x5b9cca4f, 0x682e6ff3,
  0x748f82ee, 0x78a5636f, 0x84c87814, 0x8cc70208, 0x90befffa, 0xa4506ceb, 0xbef9a3f7, 0xc67178f2]
theorem keysL_length : keysL.length = 64 := rfl
theorem keysL_lt : ∀ k ∈ keysL, k < 4294967296 := by decide
theorem getD_lt {l : List Nat} {B : Nat} (h : ∀ k ∈ l, k < B) (hB : 0 < B) (i : Nat) : l.getD i 0 < B := by
  rw [List.getD_eq_getElem?_getD]
  cases e : l[i]? with
  | none => exact hB
  | some v => exact h v (List.mem_of_getElem? e)

def roundsN (W : List Nat) (s : St) : Nat → St
  | 0 => s
  | t + 1 => stepN (roundsN W s t) (keysL.getD t 0) (W.getD t 0)
theorem roundsN_ok (W : List Nat) {s : St} (h : s.ok) : ∀ t, (roundsN W s t).ok
  | 0 => h
  | t + 1 => stepN_ok (roundsN_ok W h t) _ _

/-- What is told behind the rounds: word by word together. -/
def addL (xs ys : List Nat) : List Nat := (List.range 8).map fun i => (xs.getD i 0 + ys.getD i 0) % 4294967296
theorem addL_length (xs ys : List Nat) : (addL xs ys).length = 8 := by simp [addL]
theorem addL_lt (xs ys : List Nat) : ∀ x ∈ addL xs ys, x < 4294967296 := by
  intro x hx
  simp only [addL, List.mem_map] at hx
  obtain ⟨i, _, rfl⟩ := hx
  exact Nat.mod_lt _ (by decide)
def stOf (l : List Nat) : St := ⟨l.getD 0 0, l.getD 1 0, l.getD 2 0, l.getD 3 0, l.getD 4 0, l.getD 5 0, l.getD 6 0, l.getD 7 0⟩
theorem stOf_list {l : List Nat} (h : l.length = 8) : (stOf l).list = l := by
  match l, h with
  | [a, b, c, d, e, f, g, h], _ => rfl
theorem stOf_ok {l : List Nat} (h : ∀ x ∈ l, x < 4294967296) : (stOf l).ok :=
  ⟨getD_lt h (by decide) _, getD_lt h (by decide) _, getD_lt h (by decide) _, getD_lt h (by decide) _, getD_lt h (by decide) _, getD_lt h (by decide) _, getD_lt h (by decide) _, getD_lt h (by decide) _⟩

/-- The 64 words of a block: n more behind its sixteen. -/
def nextN (l : List Nat) (t : Nat) : Nat := (smallN (l.getD (t - 2) 0) 17 19 10 + l.getD (t - 7) 0 + smallN (l.getD (t - 15) 0) 7 18 3 + l.getD (t - 16) 0) % 4294967296
def moreN (l : List Nat) : Nat → List Nat
  | 0 => l
  | n + 1 => moreN l n ++ [nextN (moreN l n) (16 + n)]
theorem moreN_length (l : List Nat) (n : Nat) : (moreN l n).length = l.length + n := by
  induction n with
  | zero => rfl
  | succ n ih => simp [moreN, ih]; omega
theorem moreN_lt {l : List Nat} (h : ∀ x ∈ l, x < 4294967296) (n : Nat) : ∀ x ∈ moreN l n, x < 4294967296 := by
  induction n with
  | zero => exact h
  | succ n ih =>
    intro x hx
    simp only [moreN, List.mem_append, List.mem_singleton] at hx
    rcases hx with hx | rfl
    · exact ih x hx
    · exact Nat.mod_lt _ (by decide)
theorem moreN_getD (l : List Nat) (n m i : Nat) (hl : l.length = 16) (hi : i < 16 + n) (hn : n ≤ m) : (moreN l m).getD i 0 = (moreN l n).getD i 0 := by
  induction m with
  | zero => rw [show n = 0 by omega]
  | succ m ih =>
    by_cases e : n = m + 1
    · rw [e]
    · rw [← ih (by omega)]
      have := moreN_length l m
      simp only [moreN, List.getD_eq_getElem?_getD]
      rw [List.getElem?_append_left (by omega)]
/-- The whole of them, as each is told by those ahead of it. -/
def spreadN (l : List Nat) : List Nat := moreN l 48
theorem spreadN_length {l : List Nat} (hl : l.length = 16) : (spreadN l).length = 64 := by rw [spreadN, moreN_length, hl]
theorem spreadN_lt {l : List Nat} (h : ∀ x ∈ l, x < 4294967296) : ∀ x ∈ spreadN l, x < 4294967296 := moreN_lt h _
theorem spreadN_first {l : List Nat} (hl : l.length = 16) (t : Nat) (ht : t < 16) : (spreadN l).getD t 0 = l.getD t 0 := moreN_getD l 0 48 t hl (by omega) (by omega)
theorem spreadN_next {l : List Nat} (hl : l.length = 16) (t : Nat) (h1 : 16 ≤ t) (h2 : t < 64) : (spreadN l).getD t 0 = nextN (spreadN l) t := by
  obtain ⟨n, rfl⟩ : ∃ n, t = 16 + n := ⟨t - 16, by omega⟩
  have e : ∀ i, i < 16 + n → (spreadN l).getD i 0 = (moreN l n).getD i 0 := fun i hi => moreN_getD l n 48 i hl hi (by omega)
  have hlen := moreN_length l n
  rw [show (spreadN l).getD (16 + n) 0 = (moreN l (n + 1)).getD (16 + n) 0 from moreN_getD l (n + 1) 48 (16 + n) hl (by omega) (by omega)]
  unfold nextN
  rw [e _ (by omega), e _ (by omega), e _ (by omega), e _ (by omega)]
  simp only [moreN, List.getD_eq_getElem?_getD]
  rw [List.getElem?_append_right (by omega), show 16 + n - (moreN l n).length = 0 by omega]
  simp [nextN, List.getD_eq_getElem?_getD]
theorem spreadN_zero : spreadN (List.replicate 16 0) = List.replicate 64 0 := by decide

/-- What a block makes of eight words. -/
def blockN (ws s : List Nat) : List Nat := addL s (roundsN (spreadN ws) (stOf s) 64).list
theorem blockN_length (ws s : List Nat) : (blockN ws s).length = 8 := addL_length _ _
theorem blockN_lt (ws s : List Nat) : ∀ x ∈ blockN ws s, x < 4294967296 := addL_lt _ _

end Go.Proofs.YtdjdanpicbaieaaDoor
