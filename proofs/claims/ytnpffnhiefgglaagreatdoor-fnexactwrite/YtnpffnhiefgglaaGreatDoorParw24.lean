/-
  A part of the proof.
-/
import Derived.Test.YtnpffnhiefgglaaGreatDoorParw23
import Derived.WideShapes
import GoSem.Claims
import Derived.Test.YtnpffnhiefgglaaGreatDoorParw14
import Derived.Deep.RegionHeld3
import Derived.Deep.MidRow
import Derived.BigRegion
import Derived.Test.YtnpffnhiefgglaaGreatDoorParw16
namespace Go.Proofs.YtnpffnhiefgglaaGreatDoor
open Go Go.Conc Go.RowKit
set_option maxRecDepth 100000
theorem arg_bytes {W : World} {base : Nat} {a : Option Addr} {len cap : Nat} {zs : List Int} (hok : Value.okWide Tryz.prog W .any base 22 (.slice a len cap))
    (h : (a = none ∧ len = 0 ∧ cap = 0 ∧ zs = []) ∨ ∃ x, a = some x ∧ len ≤ cap ∧ cap ≤ maxLen ∧ zs.length = cap ∧ (∀ i, i < zs.length → W.cell? (x.add i) = some (.int .u8 (zs.getD i 0))) ∧ ∀ n ∈ zs, (Lit.int .u8 n).wf = true) :
    BytesT W a len cap (zs.take len) := by
  rcases h with ⟨rfl, rfl, rfl, rfl⟩ | ⟨x, rfl, hl, hm, hz, hcell, hwz⟩
  · exact ⟨rfl, Nat.le_refl _, fun x hx => (by cases hx), fun h => absurd h (Nat.lt_irrefl 0)⟩
  · have hs : x.spot = none := by
      simp only [Value.okWide, Tryz.underlying22, Cell.okWide, Cell.ok] at hok
      obtain ⟨_, _, _, h1, _⟩ := hok
      exact h1
    obtain ⟨b, o, sp⟩ := x
    obtain rfl : sp = none := hs
    refine ⟨by simp; omega, hl, fun y hy => ?_, fun _ => ⟨b, o, rfl, fun j u hu => ?_⟩⟩
    · have := bounds_u8 (hwz y (List.mem_of_mem_take hy))
      omega
    · have hj := (List.getElem?_eq_some_iff.1 hu).1
      rw [List.length_take] at hj
      have := hcell j (by omega)
      rw [Addr.add_lit] at this
      rw [this]
      rw [List.getElem?_take, if_pos (by omega)] at hu
      rw [List.getD_eq_getElem?_getD, hu]
      rfl
theorem gr_of {W : World} (hsh : W.ShapedOpen Tryz.prog) (hP : PlacesIs W) : ∃ C e, Gr C e W := by
  have h1 : (((begin Tryz.prog (fun _ _ => 0) default).world.heap[1]?).bind Obj.row?).map (fun x => x.1.size) = some 32 := by kernel_rfl
  have hall : ((List.range Tryz.prog.globals.size).all fun b => (((begin Tryz.prog (fun _ _ => 0) default).world.heap[b]?).bind Obj.row?).isSome) = true := by kernel_rfl
  have tabG : 1 < Tryz.prog.globals.size := of_decide_eq_true (by kernel_rfl)
  obtain ⟨⟨zero, t⟩, h2, h3⟩ := Option.map_eq_some_iff.1 h1
  obtain ⟨cs, h4, h5, _⟩ := hsh.1 1 zero t tabG h2
  have hsz : cs.size = 32 := h5.trans h3
  have hcell : ∀ (j : Nat) v, placesC[j]? = some v → cs[j]? = some v := fun j v hv => by
    have := hP j v hv
    simpa only [World.cell?, h4, Option.isSome_none, Bool.false_eq_true, if_false, Nat.zero_add] using this
  have hps : placesC.toArray.size = 32 := by kernel_rfl
  have hfl : placesC.all flatC = true := by kernel_rfl
  refine ⟨cs, t, ⟨0, 0, h4, fun i _ h => absurd h (Nat.not_lt_zero _)⟩, fun v hv => ?_, hcell, fun b hb => ?_⟩
  · obtain ⟨j, hj, rfl⟩ := Array.mem_iff_getElem.1 hv
    have hj' : j < placesC.length := by
      have : placesC.length = 32 := by simpa using hps
      omega
    have := hcell j placesC[j] (List.getElem?_eq_getElem hj')
    rw [Array.getElem?_eq_getElem hj] at this
    rw [Option.some.inj this]
    exact List.all_eq_true.1 hfl _ (List.getElem_mem _)
  · have h := List.all_eq_true.1 hall b (List.mem_range.2 hb)
    obtain ⟨⟨z, t'⟩, h⟩ := Option.isSome_iff_exists.1 h
    obtain ⟨cs', h', _, _⟩ := hsh.1 b z t' hb h
    exact ⟨_, h', rfl⟩
end Go.Proofs.YtnpffnhiefgglaaGreatDoor
namespace Go.Proofs.YtnpffnhiefgglaaGreatDoor
open Go.RowKit
set_option maxRecDepth 100000
theorem u32_xor (a b : Nat) (h1 : a < 4294967296) (h2 : b < 4294967296) : bits .xor .u32 (a : Int) (b : Int) = ((a ^^^ b : Nat) : Int) := by
  have hlt : (a ^^^ b) < 2 ^ 32 := Nat.xor_lt_two_pow h1 h2
  have : (BitVec.ofInt 32 (a : Int) ^^^ BitVec.ofInt 32 (b : Int)).toNat = (a ^^^ b) := by rw [BitVec.toNat_xor, bv32_nat h1, bv32_nat h2]
  show IntKind.u32.wrap ((BitVec.ofInt 32 (a : Int) ^^^ BitVec.ofInt 32 (b : Int)).toNat : Int) = _
  rw [this, IntKind.wrap_u32]
  omega
theorem u32_and (a b : Nat) (h1 : a < 4294967296) (h2 : b < 4294967296) : bits .and .u32 (a : Int) (b : Int) = ((a &&& b : Nat) : Int) := by
  have hlt : (a &&& b) < 2 ^ 32 := Nat.and_lt_two_pow _ h2
  have : (BitVec.ofInt 32 (a : Int) &&& BitVec.ofInt 32 (b : Int)).toNat = (a &&& b) := by rw [BitVec.toNat_and, bv32_nat h1, bv32_nat h2]
  show IntKind.u32.wrap ((BitVec.ofInt 32 (a : Int) &&& BitVec.ofInt 32 (b : Int)).toNat : Int) = _
  rw [this, IntKind.wrap_u32]
  omega
theorem i64_xor (a b : Nat) (h1 : a < 4294967296) (h2 : b < 4294967296) : bits .xor .i64 (a : Int) (b : Int) = ((a ^^^ b : Nat) : Int) := by
  have hlt : (a ^^^ b) < 2 ^ 32 := Nat.xor_lt_two_pow h1 h2
  have : (BitVec.ofInt 64 (a : Int) ^^^ BitVec.ofInt 64 (b : Int)).toNat = (a ^^^ b) := by rw [BitVec.toNat_xor, bv64_nat (by omega), bv64_nat (by omega)]
  show IntKind.i64.wrap ((BitVec.ofInt 64 (a : Int) ^^^ BitVec.ofInt 64 (b : Int)).toNat : Int) = _
  rw [this, IntKind.wrap_i64]
  omega
theorem i64_and (a b : Nat) (h1 : a < 4294967296) (h2 : b < 4294967296) : bits .and .i64 (a : Int) (b : Int) = ((a &&& b : Nat) : Int) := by
  have hlt : (a &&& b) < 2 ^ 32 := Nat.and_lt_two_pow _ h2
  have : (BitVec.ofInt 64 (a : Int) &&& BitVec.ofInt 64 (b : Int)).toNat = (a &&& b) := by rw [BitVec.toNat_and, bv64_nat (by omega), bv64_nat (by omega)]
  show IntKind.i64.wrap ((BitVec.ofInt 64 (a : Int) &&& BitVec.ofInt 64 (b : Int)).toNat : Int) = _
  rw [this, IntKind.wrap_i64]
  omega
theorem xor_lt {a b : Nat} (h1 : a < 4294967296) (h2 : b < 4294967296) : a ^^^ b < 4294967296 := Nat.xor_lt_two_pow (n := 32) h1 h2
theorem and_lt {a b : Nat} (h2 : b < 4294967296) : a &&& b < 4294967296 := Nat.and_lt_two_pow (n := 32) _ h2
theorem or_lt {a b : Nat} (h1 : a < 4294967296) (h2 : b < 4294967296) : a ||| b < 4294967296 := Nat.or_lt_two_pow (n := 32) h1 h2
def greatN (x a b c : Nat) : Nat := turnN x (32 - a) ^^^ turnN x (32 - b) ^^^ turnN x (32 - c)
def smallN (x a b c : Nat) : Nat := turnN x (32 - a) ^^^ turnN x (32 - b) ^^^ x / 2 ^ c
theorem greatN_lt {x a b c : Nat} (hx : x < 4294967296) (ha : 0 < a) (hb : 0 < b) (hc : 0 < c) : greatN x a b c < 4294967296 :=
  xor_lt (xor_lt (turn_lt hx (by omega)) (turn_lt hx (by omega))) (turn_lt hx (by omega))
theorem smallN_lt {x a b c : Nat} (hx : x < 4294967296) (ha : 0 < a) (hb : 0 < b) : smallN x a b c < 4294967296 :=
  xor_lt (xor_lt (turn_lt hx (by omega)) (turn_lt hx (by omega))) (Nat.lt_of_le_of_lt (Nat.div_le_self _ _) hx)
theorem u32_xor3 (a b c : Nat) (h1 : a < 4294967296) (h2 : b < 4294967296) (h3 : c < 4294967296) : bits .xor .u32 (bits .xor .u32 (a : Int) (b : Int)) (c : Int) = ((a ^^^ b ^^^ c : Nat) : Int) := by
  rw [u32_xor a b h1 h2, u32_xor _ c (xor_lt h1 h2) h3]
theorem i64_xor3 (a b c : Nat) (h1 : a < 4294967296) (h2 : b < 4294967296) (h3 : c < 4294967296) : bits .xor .i64 (bits .xor .i64 (a : Int) (b : Int)) (c : Int) = ((a ^^^ b ^^^ c : Nat) : Int) := by
  rw [i64_xor a b h1 h2, i64_xor _ c (xor_lt h1 h2) h3]
def chN (e f g : Nat) : Nat := (e &&& f) ^^^ ((4294967295 ^^^ e) &&& g)
def majN (a b c : Nat) : Nat := (a &&& b) ^^^ (a &&& c) ^^^ (b &&& c)
theorem chN_lt {e f g : Nat} (hf : f < 4294967296) (hg : g < 4294967296) : chN e f g < 4294967296 := xor_lt (and_lt hf) (and_lt hg)
theorem majN_lt {a b c : Nat} (hb : b < 4294967296) (hc : c < 4294967296) : majN a b c < 4294967296 := xor_lt (xor_lt (and_lt hb) (and_lt hc)) (and_lt hc)
theorem ch_or {e f g : Nat} (he : e < 4294967296) : (e &&& f ||| (4294967295 ^^^ e) &&& g) = chN e f g := by
  unfold chN
  apply Nat.eq_of_testBit_eq
  intro i
  have hk : (4294967295 : Nat).testBit i = decide (i < 32) := by
    rw [show (4294967295 : Nat) = 2 ^ 32 - 1 from rfl, Nat.testBit_two_pow_sub_one]
  simp only [Nat.testBit_or, Nat.testBit_xor, Nat.testBit_and, hk]
  by_cases hi : i < 32
  · simp only [hi, decide_true]
    cases e.testBit i <;> cases f.testBit i <;> cases g.testBit i <;> rfl
  · have : e.testBit i = false := Nat.testBit_lt_two_pow (Nat.lt_of_lt_of_le (show e < 2 ^ 32 from he) (Nat.pow_le_pow_right (by decide) (by omega)))
    rw [this]
    simp
theorem maj_or (a b c : Nat) : (a &&& b ||| a &&& c ||| b &&& c) = majN a b c := by
  unfold majN
  apply Nat.eq_of_testBit_eq
  intro i
  simp only [Nat.testBit_or, Nat.testBit_xor, Nat.testBit_and]
  cases a.testBit i <;> cases b.testBit i <;> cases c.testBit i <;> rfl
theorem u32_maj {a b c : Nat} (ha : a < 4294967296) (hb : b < 4294967296) (hc : c < 4294967296) :
    bits .or .u32 (bits .or .u32 (bits .and .u32 (a : Int) (b : Int)) (bits .and .u32 (a : Int) (c : Int))) (bits .and .u32 (b : Int) (c : Int)) = ((majN a b c : Nat) : Int) := by
  rw [u32_and a b ha hb, u32_and a c ha hc, u32_and b c hb hc, u32_or _ _ (and_lt hb) (and_lt hc), u32_or _ _ (or_lt (and_lt hb) (and_lt hc)) (and_lt hc), maj_or]
theorem i64_maj {a b c : Nat} (ha : a < 4294967296) (hb : b < 4294967296) (hc : c < 4294967296) :
    bits .xor .i64 (bits .xor .i64 (bits .and .i64 (a : Int) (b : Int)) (bits .and .i64 (a : Int) (c : Int))) (bits .and .i64 (b : Int) (c : Int)) = ((majN a b c : Nat) : Int) := by
  rw [i64_and a b ha hb, i64_and a c ha hc, i64_and b c hb hc, i64_xor _ _ (and_lt hb) (and_lt hc), i64_xor _ _ (xor_lt (and_lt hb) (and_lt hc)) (and_lt hc), majN]
theorem u32_ch {e f g : Nat} (he : e < 4294967296) (hf : f < 4294967296) (hg : g < 4294967296) :
    bits .or .u32 (bits .and .u32 (e : Int) (f : Int)) (bits .and .u32 (bits .xor .u32 IntKind.u32.max (e : Int)) (g : Int)) = ((chN e f g : Nat) : Int) := by
  have h0 : bits .xor .u32 IntKind.u32.max (e : Int) = ((4294967295 ^^^ e : Nat) : Int) := u32_xor 4294967295 e (by decide) he
  rw [h0, u32_and e f he hf, u32_and _ g (xor_lt (by decide) he) hg, u32_or _ _ (and_lt hf) (and_lt hg), ch_or he]
theorem i64_ch {e f g : Nat} (he : e < 4294967296) (hf : f < 4294967296) (hg : g < 4294967296) :
    bits .xor .i64 (bits .and .i64 (e : Int) (f : Int)) (bits .and .i64 (bits .xor .i64 4294967295 (e : Int)) (g : Int)) = ((chN e f g : Nat) : Int) := by
  have h0 : bits .xor .i64 4294967295 (e : Int) = ((4294967295 ^^^ e : Nat) : Int) := i64_xor 4294967295 e (by decide) he
  rw [h0, i64_and e f he hf, i64_and _ g (xor_lt (by decide) he) hg, i64_xor _ _ (and_lt hf) (and_lt hg), chN]
structure HSt where
  a : Nat
  b : Nat
  c : Nat
  d : Nat
  e : Nat
  f : Nat
  g : Nat
  h : Nat
def HSt.ok (s : HSt) : Prop := s.a < 4294967296 ∧ s.b < 4294967296 ∧ s.c < 4294967296 ∧ s.d < 4294967296 ∧ s.e < 4294967296 ∧ s.f < 4294967296 ∧ s.g < 4294967296 ∧ s.h < 4294967296
def HSt.list (s : HSt) : List Nat := [s.a, s.b, s.c, s.d, s.e, s.f, s.g, s.h]
def t1N (s : HSt) (k w : Nat) : Nat := s.h + greatN s.e 6 11 25 + chN s.e s.f s.g + k + w
def t2N (s : HSt) : Nat := greatN s.a 2 13 22 + majN s.a s.b s.c
def stepN (s : HSt) (k w : Nat) : HSt := ⟨(t1N s k w + t2N s) % 4294967296, s.a, s.b, s.c, (s.d + t1N s k w) % 4294967296, s.e, s.f, s.g⟩
theorem stepN_ok {s : HSt} (h : s.ok) (k w : Nat) : (stepN s k w).ok := by
  obtain ⟨h1, h2, h3, h4, h5, h6, h7, h8⟩ := h
  exact ⟨Nat.mod_lt _ (by decide), h1, h2, h3, Nat.mod_lt _ (by decide), h5, h6, h7⟩
def keysL : List Nat := [0x428a2f98, 0x71374491, 0xb5c0fbcf, 0xe9b5dba5, 0x3956c25b, 0x59f111f1, 0x923f82a4, 0xab1c5ed5,
  0xd807aa98, 0x12835b01, 0x243185be, 0x550c7dc3, 0x72be5d74, 0x80deb1fe, 0x9bdc06a7, 0xc19bf174,
  0xe49b69c1, 0xefbe4786, 0x0fc19dc6, 0x240ca1cc, 0x2de92c6f, 0x4a7484aa, 0x5cb0a9dc, 0x76f988da,
  0x983e5152, 0xa831c66d, 0xb00327c8, 0xbf597fc7, 0xc6e00bf3, 0xd5a79147, 0x06ca6351, 0x14292967,
  0x27b70a85, 0x2e1b2138, 0x4d2c6dfc, 0x53380d13, 0x650a7354, 0x766a0abb, 0x81c2c92e, 0x92722c85,
  0xa2bfe8a1, 0xa81a664b, 0xc24b8b70, 0xc76c51a3, 0xd192e819, 0xd6990624, 0xf40e3585, 0x106aa070,
  0x19a4c116, 0x1e376c08, 0x2748774c, 0x34b0bcb5, 0x391c0cb3, 0x4ed8aa4a, 0x5b9cca4f, 0x682e6ff3,
  0x748f82ee, 0x78a5636f, 0x84c87814, 0x8cc70208, 0x90befffa, 0xa4506ceb, 0xbef9a3f7, 0xc67178f2]
theorem keysL_lt : ∀ k ∈ keysL, k < 4294967296 := by decide
theorem getD_lt {l : List Nat} {B : Nat} (h : ∀ k ∈ l, k < B) (hB : 0 < B) (i : Nat) : l.getD i 0 < B := by
  rw [List.getD_eq_getElem?_getD]
  cases e : l[i]? with
  | none => exact hB
  | some v => exact h v (List.mem_of_getElem? e)
def roundsN (W : List Nat) (s : HSt) : Nat → HSt
  | 0 => s
  | t + 1 => stepN (roundsN W s t) (keysL.getD t 0) (W.getD t 0)
theorem roundsN_ok (W : List Nat) {s : HSt} (h : s.ok) : ∀ t, (roundsN W s t).ok
  | 0 => h
  | t + 1 => stepN_ok (roundsN_ok W h t) _ _
def addL (xs ys : List Nat) : List Nat := (List.range 8).map fun i => (xs.getD i 0 + ys.getD i 0) % 4294967296
theorem addL_length (xs ys : List Nat) : (addL xs ys).length = 8 := by simp [addL]
theorem addL_lt (xs ys : List Nat) : ∀ x ∈ addL xs ys, x < 4294967296 := by
  intro x hx
  simp only [addL, List.mem_map] at hx
  obtain ⟨i, _, rfl⟩ := hx
  exact Nat.mod_lt _ (by decide)
def stOf (l : List Nat) : HSt := ⟨l.getD 0 0, l.getD 1 0, l.getD 2 0, l.getD 3 0, l.getD 4 0, l.getD 5 0, l.getD 6 0, l.getD 7 0⟩
theorem stOf_list {l : List Nat} (h : l.length = 8) : (stOf l).list = l := by
  match l, h with
  | [a, b, c, d, e, f, g, h], _ => rfl
theorem stOf_ok {l : List Nat} (h : ∀ x ∈ l, x < 4294967296) : (stOf l).ok :=
  ⟨getD_lt h (by decide) _, getD_lt h (by decide) _, getD_lt h (by decide) _, getD_lt h (by decide) _, getD_lt h (by decide) _, getD_lt h (by decide) _, getD_lt h (by decide) _, getD_lt h (by decide) _⟩
def nextN (l : List Nat) (t : Nat) : Nat := (smallN (l.getD (t - 2) 0) 17 19 10 + l.getD (t - 7) 0 + smallN (l.getD (t - 15) 0) 7 18 3 + l.getD (t - 16) 0) % 4294967296
def moreN (l : List Nat) : Nat → List Nat
  | 0 => l
  | n + 1 => moreN l n ++ [nextN (moreN l n) (16 + n)]
theorem moreN_length (l : List Nat) (n : Nat) : (moreN l n).length = l.length + n := by
  induction n with
  | zero => rfl
  | succ n ih => simp [moreN, ih]; omega
theorem moreN_lt {l : List Nat} (h : ∀ x ∈ l, x < 4294967296) (n : Nat) : ∀ x ∈ moreN l n, x < 4294967296 := by
  induction n with
  | zero => exact h
  | succ n ih =>
    intro x hx
    simp only [moreN, List.mem_append, List.mem_singleton] at hx
    rcases hx with hx | rfl
    · exact ih x hx
    · exact Nat.mod_lt _ (by decide)
theorem moreN_getD (l : List Nat) (n m i : Nat) (hl : l.length = 16) (hi : i < 16 + n) (hn : n ≤ m) : (moreN l m).getD i 0 = (moreN l n).getD i 0 := by
  induction m with
  | zero => rw [show n = 0 by omega]
  | succ m ih =>
    by_cases e : n = m + 1
    · rw [e]
    · rw [← ih (by omega)]
      have := moreN_length l m
      simp only [moreN, List.getD_eq_getElem?_getD]
      rw [List.getElem?_append_left (by omega)]
def spreadN (l : List Nat) : List Nat := moreN l 48
theorem spreadN_length {l : List Nat} (hl : l.length = 16) : (spreadN l).length = 64 := by rw [spreadN, moreN_length, hl]
theorem spreadN_lt {l : List Nat} (h : ∀ x ∈ l, x < 4294967296) : ∀ x ∈ spreadN l, x < 4294967296 := moreN_lt h _
theorem spreadN_first {l : List Nat} (hl : l.length = 16) (t : Nat) (ht : t < 16) : (spreadN l).getD t 0 = l.getD t 0 := moreN_getD l 0 48 t hl (by omega) (by omega)
theorem spreadN_next {l : List Nat} (hl : l.length = 16) (t : Nat) (h1 : 16 ≤ t) (h2 : t < 64) : (spreadN l).getD t 0 = nextN (spreadN l) t := by
  obtain ⟨n, rfl⟩ : ∃ n, t = 16 + n := ⟨t - 16, by omega⟩
  have e : ∀ i, i < 16 + n → (spreadN l).getD i 0 = (moreN l n).getD i 0 := fun i hi => moreN_getD l n 48 i hl hi (by omega)
  have hlen := moreN_length l n
  rw [show (spreadN l).getD (16 + n) 0 = (moreN l (n + 1)).getD (16 + n) 0 from moreN_getD l (n + 1) 48 (16 + n) hl (by omega) (by omega)]
  unfold nextN
  rw [e _ (by omega), e _ (by omega), e _ (by omega), e _ (by omega)]
  simp only [moreN, List.getD_eq_getElem?_getD]
  rw [List.getElem?_append_right (by omega), show 16 + n - (moreN l n).length = 0 by omega]
  simp [nextN, List.getD_eq_getElem?_getD]
theorem spreadN_zero : spreadN (List.replicate 16 0) = List.replicate 64 0 := by decide
def blockN (ws s : List Nat) : List Nat := addL s (roundsN (spreadN ws) (stOf s) 64).list
theorem blockN_length (ws s : List Nat) : (blockN ws s).length = 8 := addL_length _ _
theorem blockN_lt (ws s : List Nat) : ∀ x ∈ blockN ws s, x < 4294967296 := addL_lt _ _
theorem turned_right (x : Nat) (k : Int) (m : Nat) (w : World) (hx : x < 4294967296) (hm : countN k = m) :
    Calls Tryz.prog 213 #[.int .u32 x, .int .i64 k] w fun e w' => e = .returned (.int .u32 ((turnN x m : Nat) : Int)) ∧ w' = w := by
  subst hm
  exact turned_same x k w hx
theorem greatMix1_same (x : Nat) (w : World) (hx : x < 4294967296) :
    Calls Tryz.prog 221 #[.int .u32 x] w fun e w' => e = .returned (.int .u32 ((greatN x 6 11 25 : Nat) : Int)) ∧ w' = w := by
  have c1 := fun w => turned_right x (-6) 26 w hx rfl
  have c2 := fun w => turned_right x (-11) 21 w hx rfl
  have c3 := fun w => turned_right x (-25) 7 w hx rfl
  have l1 := turn_lt (m := 26) hx (by decide)
  have l2 := turn_lt (m := 21) hx (by decide)
  have l3 := turn_lt (m := 7) hx (by decide)
  simp only [greatN, Nat.reduceSub]
  generalize turnN x 26 = r1 at c1 l1 ⊢
  generalize turnN x 21 = r2 at c2 l2 ⊢
  generalize turnN x 7 = r3 at c3 l3 ⊢
  have ho := u32_xor3 r1 r2 r3 l1 l2 l3
  go_enter Tryz.func221, Tryz.ntmps221
  go_wp2_with (fail)
  refine (c1 _).mono ?_
  rintro e w1 ⟨rfl, rfl⟩
  go_wp2_with (fail)
  refine (c2 _).mono ?_
  rintro e w1 ⟨rfl, rfl⟩
  go_wp2_with (fail)
  refine (c3 _).mono ?_
  rintro e w1 ⟨rfl, rfl⟩
  go_wp2
  go_ret
  exact ⟨rfl, rfl⟩
theorem greatMix0_same (x : Nat) (w : World) (hx : x < 4294967296) :
    Calls Tryz.prog 223 #[.int .u32 x] w fun e w' => e = .returned (.int .u32 ((greatN x 2 13 22 : Nat) : Int)) ∧ w' = w := by
  have c1 := fun w => turned_right x (-2) 30 w hx rfl
  have c2 := fun w => turned_right x (-13) 19 w hx rfl
  have c3 := fun w => turned_right x (-22) 10 w hx rfl
  have l1 := turn_lt (m := 30) hx (by decide)
  have l2 := turn_lt (m := 19) hx (by decide)
  have l3 := turn_lt (m := 10) hx (by decide)
  simp only [greatN, Nat.reduceSub]
  generalize turnN x 30 = r1 at c1 l1 ⊢
  generalize turnN x 19 = r2 at c2 l2 ⊢
  generalize turnN x 10 = r3 at c3 l3 ⊢
  have ho := u32_xor3 r1 r2 r3 l1 l2 l3
  go_enter Tryz.func223, Tryz.ntmps223
  go_wp2_with (fail)
  refine (c1 _).mono ?_
  rintro e w1 ⟨rfl, rfl⟩
  go_wp2_with (fail)
  refine (c2 _).mono ?_
  rintro e w1 ⟨rfl, rfl⟩
  go_wp2_with (fail)
  refine (c3 _).mono ?_
  rintro e w1 ⟨rfl, rfl⟩
  go_wp2
  go_ret
  exact ⟨rfl, rfl⟩
theorem smallMix1_same (x : Nat) (w : World) (hx : x < 4294967296) :
    Calls Tryz.prog 219 #[.int .u32 x] w fun e w' => e = .returned (.int .u32 ((smallN x 17 19 10 : Nat) : Int)) ∧ w' = w := by
  have c1 := fun w => turned_right x (-17) 15 w hx rfl
  have c2 := fun w => turned_right x (-19) 13 w hx rfl
  have l1 := turn_lt (m := 15) hx (by decide)
  have l2 := turn_lt (m := 13) hx (by decide)
  simp only [smallN, Nat.reduceSub, Nat.reducePow]
  generalize turnN x 15 = r1 at c1 l1 ⊢
  generalize turnN x 13 = r2 at c2 l2 ⊢
  have ho := u32_xor3 r1 r2 (x / 1024) l1 l2 (by omega)
  simp only [Int.natCast_ediv, Int.cast_ofNat_Int] at ho
  go_enter Tryz.func219, Tryz.ntmps219
  go_wp2_with (fail)
  refine (c1 _).mono ?_
  rintro e w1 ⟨rfl, rfl⟩
  go_wp2_with (fail)
  refine (c2 _).mono ?_
  rintro e w1 ⟨rfl, rfl⟩
  go_wp2
  go_ret
  exact ⟨rfl, rfl⟩
theorem smallMix0_same (x : Nat) (w : World) (hx : x < 4294967296) :
    Calls Tryz.prog 220 #[.int .u32 x] w fun e w' => e = .returned (.int .u32 ((smallN x 7 18 3 : Nat) : Int)) ∧ w' = w := by
  have c1 := fun w => turned_right x (-7) 25 w hx rfl
  have c2 := fun w => turned_right x (-18) 14 w hx rfl
  have l1 := turn_lt (m := 25) hx (by decide)
  have l2 := turn_lt (m := 14) hx (by decide)
  simp only [smallN, Nat.reduceSub, Nat.reducePow]
  generalize turnN x 25 = r1 at c1 l1 ⊢
  generalize turnN x 14 = r2 at c2 l2 ⊢
  have ho := u32_xor3 r1 r2 (x / 8) l1 l2 (by omega)
  simp only [Int.natCast_ediv, Int.cast_ofNat_Int] at ho
  go_enter Tryz.func220, Tryz.ntmps220
  go_wp2_with (fail)
  refine (c1 _).mono ?_
  rintro e w1 ⟨rfl, rfl⟩
  go_wp2_with (fail)
  refine (c2 _).mono ?_
  rintro e w1 ⟨rfl, rfl⟩
  go_wp2
  go_ret
  exact ⟨rfl, rfl⟩
theorem majority_same (a b c : Nat) (w : World) (ha : a < 4294967296) (hb : b < 4294967296) (hc : c < 4294967296) :
    Calls Tryz.prog 224 #[.int .u32 a, .int .u32 b, .int .u32 c] w fun e w' => e = .returned (.int .u32 ((majN a b c : Nat) : Int)) ∧ w' = w := by
  have ho := u32_maj ha hb hc
  generalize majN a b c = r at ho ⊢
  go_enter Tryz.func224, Tryz.ntmps224
  go_wp2
  go_ret
  exact ⟨rfl, rfl⟩
theorem choice_same (a b c : Nat) (w : World) (ha : a < 4294967296) (hb : b < 4294967296) (hc : c < 4294967296) :
    Calls Tryz.prog 222 #[.int .u32 a, .int .u32 b, .int .u32 c] w fun e w' => e = .returned (.int .u32 ((chN a b c : Nat) : Int)) ∧ w' = w := by
  have ho := u32_ch ha hb hc
  generalize chN a b c = r at ho ⊢
  go_enter Tryz.func222, Tryz.ntmps222
  go_wp2
  go_ret
  exact ⟨rfl, rfl⟩
def u32L (l : List Nat) : List Value := l.map fun (n : Nat) => Value.int .u32 (n : Int)
def u8L (l : List Int) : List Value := l.map (Value.int .u8)
def hashC (S : List Nat) (L : List Int) (W : List Nat) : List Value := u32L S ++ (u8L L ++ u32L W)
def HashIn (ty n o : Nat) (A B : List Value) (w : World) (lo g : Nat) (S : List Nat) (L : List Int) (W : List Nat) : Prop :=
  S.length = 8 ∧ L.length = 64 ∧ W.length = 64 ∧ A.length = o ∧ w.ownsRow lo ty 1 (.slice (some ⟨g, 0, none⟩) n n) n (A ++ (hashC S L W ++ B))
abbrev HashIs (w : World) (lo g : Nat) (S : List Nat) (L : List Int) (W : List Nat) : Prop := HashIn 168 136 0 [] [] w lo g S L W
def KeysIs (w : World) : Prop := ∀ t, t < 64 → w.cell? ⟨2, t, none⟩ = some (.int .u32 ((keysL.getD t 0 : Nat) : Int))
theorem u32L_getElem? (l : List Nat) (i : Nat) (h : i < l.length) : (u32L l)[i]? = some (.int .u32 ((l.getD i 0 : Nat) : Int)) := by
  simp [u32L, List.getElem?_eq_getElem h]
section
variable {ty n o : Nat} {A B : List Value} {w w' : World} {lo g : Nat} {S : List Nat} {L : List Int} {W : List Nat}
theorem hashC_length (h1 : S.length = 8) (h2 : L.length = 64) (h3 : W.length = 64) : (hashC S L W).length = 136 := by simp [hashC, u32L, u8L, h1, h2, h3]
theorem HashIn.fits (h : HashIn ty n o A B w lo g S L W) : o + 136 ≤ n := by
  obtain ⟨h1, h2, h3, h5, h4⟩ := h
  have hl := h4.1
  simp only [List.length_append, hashC_length h1 h2 h3, Nat.mul_one] at hl
  omega
theorem HashIn.cell (h : HashIn ty n o A B w lo g S L W) (i : Nat) (hi : i < 136) : w.cell? ⟨g, o + i, none⟩ = (hashC S L W)[i]? := by
  have hf := h.fits
  obtain ⟨h1, h2, h3, h5, h4⟩ := h
  rw [h4.cellAt (o + i) (by omega), List.getElem?_append_right (by omega), List.getElem?_append_left (by rw [hashC_length h1 h2 h3]; omega), show o + i - A.length = i by omega]
theorem HashIn.state (h : HashIn ty n o A B w lo g S L W) (i : Nat) (hi : i < 8) : w.cell? ⟨g, o + i, none⟩ = some (.int .u32 ((S.getD i 0 : Nat) : Int)) := by
  have h1 := h.1
  rw [h.cell i (by omega), hashC, List.getElem?_append_left (by simp [u32L]; omega), u32L_getElem? _ _ (by omega)]
theorem HashIn.spread (h : HashIn ty n o A B w lo g S L W) (i : Nat) (hi : i < 64) : w.cell? ⟨g, o + 72 + i, none⟩ = some (.int .u32 ((W.getD i 0 : Nat) : Int)) := by
  have hc := h.cell (72 + i) (by omega)
  obtain ⟨h1, h2, h3, h5, h4⟩ := h
  rw [Nat.add_assoc, hc, hashC, List.getElem?_append_right (by simp [u32L]; omega), List.getElem?_append_right (by simp [u32L, u8L]; omega), show 72 + i - (u32L S).length - (u8L L).length = i by simp [u32L, u8L]; omega, u32L_getElem? _ _ (by omega)]
theorem HashIn.lt (h : HashIn ty n o A B w lo g S L W) : lo ≤ g ∧ g < w.heap.size := h.2.2.2.2.lt g rfl
theorem HashIn.below (h : HashIn ty n o A B w lo g S L W) (hb : Below w.heap.size w w') : HashIn ty n o A B w' lo g S L W := ⟨h.1, h.2.1, h.2.2.1, h.2.2.2.1, owns_below h.2.2.2.2 hb⟩
theorem HashIn.frozen (h : HashIn ty n o A B w lo g S L W) (j : Nat) : w.frozen? ⟨g, j, none⟩ = false := h.2.2.2.2.frozenAt j
theorem hashC_set (S : List Nat) (L : List Int) (W : List Nat) (k u : Nat) (h : k < S.length) : (hashC S L W).set k (.int .u32 (u : Int)) = hashC (S.set k u) L W := by
  rw [hashC, hashC, List.set_append_left _ _ (by simp [u32L]; exact h)]
  simp [u32L, List.map_set]
theorem winC_set (hA : A.length = o) (S : List Nat) (L : List Int) (W : List Nat) (k u : Nat) (h : k < S.length) : (A ++ (hashC S L W ++ B)).set (o + k) (.int .u32 (u : Int)) = A ++ (hashC (S.set k u) L W ++ B) := by
  rw [List.set_append_right _ _ (by omega), List.set_append_left _ _ (by simp [hashC, u32L]; omega), show o + k - A.length = k by omega, hashC_set _ _ _ _ _ h]
end
theorem below_grown {a w : World} {r : Option Nat} (h : Below a.heap.size a w) : a.grownBy w r := ⟨h.os, h.tape, h.output, h.size, fun k hk _ => h.block k hk⟩
def mixS (T S : List Nat) (k : Nat) : List Nat := T.take k ++ S.drop k
theorem mixS_length {T S : List Nat} (hT : T.length = 8) (hS : S.length = 8) (k : Nat) : (mixS T S k).length = 8 := by simp [mixS, hT, hS]; omega
theorem mixS_getD {T S : List Nat} (hT : T.length = 8) (k : Nat) (hk : k < 8) : (mixS T S k).getD k 0 = S.getD k 0 := by
  simp only [mixS, List.getD_eq_getElem?_getD]
  rw [List.getElem?_append_right (by simp; omega)]
  simp [hT, Nat.min_eq_left (show k ≤ 8 by omega)]
theorem mixS_set {T S : List Nat} (hT : T.length = 8) (hS : S.length = 8) (k : Nat) (hk : k < 8) (u : Nat) (hu : u = T.getD k 0) : (mixS T S k).set k u = mixS T S (k + 1) := by
  subst hu
  have e : S.drop k = S[k]'(by omega) :: S.drop (k + 1) := List.drop_eq_getElem_cons (by omega)
  simp only [mixS]
  have hk0 : k - (T.take k).length = 0 := by simp [hT]; omega
  rw [e, List.set_append_right _ _ (by rw [List.length_take]; omega), hk0, List.set_cons_zero, List.take_succ_eq_append_getElem (by omega), List.append_assoc, List.getD_eq_getElem?_getD, List.getElem?_eq_getElem (by omega)]
  rfl
set_option maxHeartbeats 16000000 in
theorem mix_any (ty n o : Nat) (A B : List Value) (lo g : Nat) (S : List Nat) (L : List Int) (W : List Nat) (w : World) (hS : ∀ x ∈ S, x < 4294967296) (hW : ∀ x ∈ W, x < 4294967296) (h : HashIn ty n o A B w lo g S L W) (hK : KeysIs w) (hlo : 2 < lo) :
    Calls Tryz.prog 210 #[.pointer (some ⟨g, o, none⟩)] w fun e w' => e = .returned (.tuple #[]) ∧ HashIn ty n o A B w' lo g (addL S (roundsN W (stOf S) 64).list) L W ∧ w.grownBy w' (some g) := by
  have c0 : w.cell? ⟨g, o, none⟩ = _ := h.state 0 (by omega)
  have c1 := h.state 1 (by omega)
  have c2 := h.state 2 (by omega)
  have c3 := h.state 3 (by omega)
  have c4 := h.state 4 (by omega)
  have c5 := h.state 5 (by omega)
  have c6 := h.state 6 (by omega)
  have c7 := h.state 7 (by omega)
  have hglt := h.lt
  have hst : Hid (stOf S = ⟨S.getD 0 0, S.getD 1 0, S.getD 2 0, S.getD 3 0, S.getD 4 0, S.getD 5 0, S.getD 6 0, S.getD 7 0⟩) := rfl
  generalize S.getD 0 0 = s0 at c0 hst
  generalize S.getD 1 0 = s1 at c1 hst
  generalize S.getD 2 0 = s2 at c2 hst
  generalize S.getD 3 0 = s3 at c3 hst
  generalize S.getD 4 0 = s4 at c4 hst
  generalize S.getD 5 0 = s5 at c5 hst
  generalize S.getD 6 0 = s6 at c6 hst
  generalize S.getD 7 0 = s7 at c7 hst
  go_enter Tryz.func210, Tryz.ntmps210
  go_wp2_with (fail)
  have hown0 : (w.alloc (.cells #[.int .u32 (s0 : Int), .int .u32 (s1 : Int), .int .u32 (s2 : Int), .int .u32 (s3 : Int), .int .u32 (s4 : Int), .int .u32 (s5 : Int), .int .u32 (s6 : Int), .int .u32 (s7 : Int)] 163)).ownsRow w.heap.size 163 1 (.slice (some ⟨w.heap.size, 0, none⟩) 8 8) 8 (u32L [s0, s1, s2, s3, s4, s5, s6, s7]) :=
    ⟨rfl, .inr ⟨w.heap.size, 8, _, rfl, Nat.le_refl _, heap_alloc_new w _, Nat.le_refl _, by unfold maxLen; omega, rfl, rfl⟩⟩
  have hr0 : Hid (roundsN W (stOf S) 0 = ⟨s0, s1, s2, s3, s4, s5, s6, s7⟩) := hst.out
  have hrok : ∀ t, (roundsN W (stOf S) t).ok := roundsN_ok W (stOf_ok hS)
  have HG : Hid (∀ wX, Below w.heap.size w wX → HashIn ty n o A B wX lo g S L W ∧ KeysIs wX) := fun wX hX => ⟨h.below hX, fun t ht => (hX.cell (p := ⟨2, t, none⟩) (show 2 < w.heap.size by omega)).trans (hK t ht)⟩
  clear hst c0 c1 c2 c3 c4 c5 c6 c7 h hK
  go_loopw [11] (fun i wr => ∃ (t : Nat) (va vb vc vd ve vf vg vh : Nat), t ≤ 64 ∧ i = .int .i64 t ∧ Hid (roundsN W (stOf S) t = ⟨va, vb, vc, vd, ve, vf, vg, vh⟩) ∧ wr.ownsRow w.heap.size 163 1 (.slice (some ⟨w.heap.size, 0, none⟩) 8 8) 8 (u32L [va, vb, vc, vd, ve, vf, vg, vh]) ∧ Below w.heap.size w wr)
    (fun i _ => 64 - (intOf i).toNat)
  case atStart => exact ⟨0, s0, s1, s2, s3, s4, s5, s6, s7, by omega, rfl, hr0, hown0, (Below.refl _ _).alloc (Nat.le_refl _) _⟩
  case round =>
    clear hr0 hown0
    obtain ⟨t, va, vb, vc, vd, ve, vf, vg, vh, ht, rfl, hr, hs, hb⟩ := hrel
    have hok := hrok t
    rw [hr.out] at hok
    obtain ⟨o1, o2, o3, o4, o5, o6, o7, o8⟩ := hok
    simp only at o1 o2 o3 o4 o5 o6 o7 o8
    by_cases hlt : t < 64
    · have kl := getD_lt keysL_lt (by decide) t
      have wl := getD_lt hW (by decide) t
      have HR : Hid (roundsN W (stOf S) (t + 1) = stepN ⟨va, vb, vc, vd, ve, vf, vg, vh⟩ (keysL.getD t 0) (W.getD t 0)) := by rw [Hid, ← hr.out]; rfl
      simp only [stepN, t1N, t2N] at HR
      have F0 : ∀ wX, wX.ownsRow w.heap.size 163 1 (.slice (some ⟨w.heap.size, 0, none⟩) 8 8) 8 (u32L [va, vb, vc, vd, ve, vf, vg, vh]) → Below w.heap.size w wX → wX.cell? ⟨w.heap.size, 0, none⟩ = some (.int .u32 (va : Int)) ∧ wX.cell? ⟨w.heap.size, 1, none⟩ = some (.int .u32 (vb : Int)) ∧ wX.cell? ⟨w.heap.size, 2, none⟩ = some (.int .u32 (vc : Int)) ∧ wX.cell? ⟨w.heap.size, 3, none⟩ = some (.int .u32 (vd : Int)) ∧ wX.cell? ⟨w.heap.size, 4, none⟩ = some (.int .u32 (ve : Int)) ∧ wX.cell? ⟨w.heap.size, 5, none⟩ = some (.int .u32 (vf : Int)) ∧ wX.cell? ⟨w.heap.size, 6, none⟩ = some (.int .u32 (vg : Int)) ∧ wX.cell? ⟨w.heap.size, 7, none⟩ = some (.int .u32 (vh : Int)) ∧ wX.cell? ⟨2, t, none⟩ = some (.int .u32 ((keysL.getD t 0 : Nat) : Int)) ∧ wX.cell? ⟨g, o + 72 + t, none⟩ = some (.int .u32 ((W.getD t 0 : Nat) : Int)) := by
        intro wX hX hbX
        obtain ⟨hI, hKX⟩ := HG.out wX hbX
        exact ⟨hX.cellAt 0 (by omega), hX.cellAt 1 (by omega), hX.cellAt 2 (by omega), hX.cellAt 3 (by omega), hX.cellAt 4 (by omega), hX.cellAt 5 (by omega), hX.cellAt 6 (by omega), hX.cellAt 7 (by omega), hKX t hlt, hI.spread t hlt⟩
      generalize keysL.getD t 0 = kt at kl HR F0
      generalize W.getD t 0 = wt at wl HR F0
      replace F0 : Hid (∀ wX, wX.ownsRow w.heap.size 163 1 (.slice (some ⟨w.heap.size, 0, none⟩) 8 8) 8 (u32L [va, vb, vc, vd, ve, vf, vg, vh]) → Below w.heap.size w wX → wX.cell? ⟨w.heap.size, 0, none⟩ = some (.int .u32 (va : Int)) ∧ wX.cell? ⟨w.heap.size, 1, none⟩ = some (.int .u32 (vb : Int)) ∧ wX.cell? ⟨w.heap.size, 2, none⟩ = some (.int .u32 (vc : Int)) ∧ wX.cell? ⟨w.heap.size, 3, none⟩ = some (.int .u32 (vd : Int)) ∧ wX.cell? ⟨w.heap.size, 4, none⟩ = some (.int .u32 (ve : Int)) ∧ wX.cell? ⟨w.heap.size, 5, none⟩ = some (.int .u32 (vf : Int)) ∧ wX.cell? ⟨w.heap.size, 6, none⟩ = some (.int .u32 (vg : Int)) ∧ wX.cell? ⟨w.heap.size, 7, none⟩ = some (.int .u32 (vh : Int)) ∧ wX.cell? ⟨2, t, none⟩ = some (.int .u32 (kt : Int)) ∧ wX.cell? ⟨g, o + 72 + t, none⟩ = some (.int .u32 (wt : Int))) := F0
      have lch := chN_lt (e := ve) o6 o7
      have lmj := majN_lt (a := va) o2 o3
      have C1 := fun w => greatMix1_same ve w o5
      have C0 := fun w => greatMix0_same va w o1
      have CC := fun w => choice_same ve vf vg w o5 o6 o7
      have CM := fun w => majority_same va vb vc w o1 o2 o3
      have n1 := greatN_lt (a := 6) (b := 11) (c := 25) o5 (by decide) (by decide) (by decide)
      have n0 := greatN_lt (a := 2) (b := 13) (c := 22) o1 (by decide) (by decide) (by decide)
      generalize chN ve vf vg = ch at CC lch HR
      generalize majN va vb vc = mj at CM lmj HR
      generalize greatN ve 6 11 25 = r1 at C1 n1 HR
      generalize greatN va 2 13 22 = r0 at C0 n0 HR
      obtain ⟨x1, hx1⟩ : ∃ x1 : Nat, x1 = (vh + r1) % 4294967296 := ⟨_, rfl⟩
      have mx1 : ((vh : Int) + (r1 : Int)) % 4294967296 = (x1 : Int) := by omega
      have wx1 : IntKind.u32.wrap ((vh : Int) + (r1 : Int)) = (x1 : Int) := by rw [IntKind.wrap_u32]; exact mx1
      have nx1 : x1 < 4294967296 := by omega
      obtain ⟨x2, hx2⟩ : ∃ x2 : Nat, x2 = (x1 + ch) % 4294967296 := ⟨_, rfl⟩
      have mx2 : ((x1 : Int) + (ch : Int)) % 4294967296 = (x2 : Int) := by omega
      have wx2 : IntKind.u32.wrap ((x1 : Int) + (ch : Int)) = (x2 : Int) := by rw [IntKind.wrap_u32]; exact mx2
      have nx2 : x2 < 4294967296 := by omega
      obtain ⟨x3, hx3⟩ : ∃ x3 : Nat, x3 = (x2 + kt) % 4294967296 := ⟨_, rfl⟩
      have mx3 : ((x2 : Int) + (kt : Int)) % 4294967296 = (x3 : Int) := by omega
      have wx3 : IntKind.u32.wrap ((x2 : Int) + (kt : Int)) = (x3 : Int) := by rw [IntKind.wrap_u32]; exact mx3
      have nx3 : x3 < 4294967296 := by omega
      obtain ⟨T1, hT1⟩ : ∃ T1 : Nat, T1 = (x3 + wt) % 4294967296 := ⟨_, rfl⟩
      have mT1 : ((x3 : Int) + (wt : Int)) % 4294967296 = (T1 : Int) := by omega
      have wT1 : IntKind.u32.wrap ((x3 : Int) + (wt : Int)) = (T1 : Int) := by rw [IntKind.wrap_u32]; exact mT1
      have nT1 : T1 < 4294967296 := by omega
      obtain ⟨T2, hT2⟩ : ∃ T2 : Nat, T2 = (r0 + mj) % 4294967296 := ⟨_, rfl⟩
      have mT2 : ((r0 : Int) + (mj : Int)) % 4294967296 = (T2 : Int) := by omega
      have wT2 : IntKind.u32.wrap ((r0 : Int) + (mj : Int)) = (T2 : Int) := by rw [IntKind.wrap_u32]; exact mT2
      have nT2 : T2 < 4294967296 := by omega
      obtain ⟨A, hA⟩ : ∃ A : Nat, A = (T1 + T2) % 4294967296 := ⟨_, rfl⟩
      have mA : ((T1 : Int) + (T2 : Int)) % 4294967296 = (A : Int) := by omega
      have wA : IntKind.u32.wrap ((T1 : Int) + (T2 : Int)) = (A : Int) := by rw [IntKind.wrap_u32]; exact mA
      have nA : A < 4294967296 := by omega
      obtain ⟨E, hE⟩ : ∃ E : Nat, E = (vd + T1) % 4294967296 := ⟨_, rfl⟩
      have mE : ((vd : Int) + (T1 : Int)) % 4294967296 = (E : Int) := by omega
      have wE : IntKind.u32.wrap ((vd : Int) + (T1 : Int)) = (E : Int) := by rw [IntKind.wrap_u32]; exact mE
      have nE : E < 4294967296 := by omega
      have hA2 : (vh + r1 + ch + kt + wt + (r0 + mj)) % 4294967296 = A := by omega
      have hE2 : (vd + (vh + r1 + ch + kt + wt)) % 4294967296 = E := by omega
      rw [hA2, hE2] at HR
      clear hx1 hx2 hx3 hT1 hT2 hA hE hA2 hE2 hr
      have hgw : o + 72 + t < o + 136 := by omega
      obtain ⟨e0, e1, e2, e3, e4, e5, e6, e7, ek, ew⟩ := F0.out wr hs hb
      go_wp2_with (fail)
      go_quiet (first | (go_at_call 221; exact Calls.quiet_of_same (C1 _)) | (go_at_call 222; exact Calls.quiet_of_same (CC _)))
      obtain ⟨w5, hw5⟩ : ∃ w5, w5 = wr.drewN nq := ⟨_, rfl⟩
      rw [← hw5]
      have b5 : Below wr.heap.size wr w5 := by rw [hw5]; exact below_drewN (Below.refl _ _) _
      clear hw5 e0 e1 e2 e3 e4 e5 e6 e7 ek ew
      replace hs := owns_below hs b5
      replace hb := below_on hb b5
      obtain ⟨e0, e1, e2, e3, e4, e5, e6, e7, ek, ew⟩ := F0.out w5 hs hb
      go_wp2_with (fail)
      go_quiet (first | (go_at_call 223; exact Calls.quiet_of_same (C0 _)) | (go_at_call 224; exact Calls.quiet_of_same (CM _)))
      obtain ⟨w6, hw6⟩ : ∃ w6, w6 = w5.drewN nq := ⟨_, rfl⟩
      rw [← hw6]
      have b6 : Below w5.heap.size w5 w6 := by rw [hw6]; exact below_drewN (Below.refl _ _) _
      clear hw6 e0 e1 e2 e3 e4 e5 e6 e7 ek ew
      replace hs := owns_below hs b6
      replace hb := below_on hb b6
      obtain ⟨e0, e1, e2, e3, e4, e5, e6, e7, ek, ew⟩ := F0.out w6 hs hb
      have z0 := hs.stored 0 (.int .u32 (A : Int))
      have z1 := z0.1.stored 1 (.int .u32 (va : Int))
      have z2 := z1.1.stored 2 (.int .u32 (vb : Int))
      have z3 := z2.1.stored 3 (.int .u32 (vc : Int))
      have z4 := z3.1.stored 4 (.int .u32 (E : Int))
      have z5 := z4.1.stored 5 (.int .u32 (ve : Int))
      have z6 := z5.1.stored 6 (.int .u32 (vf : Int))
      have z7 := z6.1.stored 7 (.int .u32 (vg : Int))
      have hfr := hs.frozenAt
      have f0 := hfr 0
      have f1 := hfr 1
      have f2 := hfr 2
      have f3 := hfr 3
      have f4 := hfr 4
      have f5 := hfr 5
      have f6 := hfr 6
      have f7 := hfr 7
      have HG8 : Hid (w6.grownBy _ (some w.heap.size)) := grown_trans z0.2 (grown_trans z1.2 (grown_trans z2.2 (grown_trans z3.2 (grown_trans z4.2 (grown_trans z5.2 (grown_trans z6.2 z7.2))))))
      have hs8 := z7.1
      clear z0 z1 z2 z3 z4 z5 z6 z7 hfr hs
      have hb8 := hb.grown HG8.out hb.size (fun k hk => by cases hk; exact Nat.le_refl _)
      clear HG8
      go_wp2
      go_roundw
      case rel => exact ⟨t + 1, A, va, vb, vc, E, ve, vf, vg, by omega, by go_num, HR, hs8, hb8⟩
      case measure => simp [intOf]; omega
    · have e64 : t = 64 := by omega
      rw [e64] at hr
      clear e64
      obtain ⟨hI, _⟩ := HG.out wr hb
      have hl1 := hI.1
      have hT : Hid (addL S (roundsN W (stOf S) 64).list = addL S [va, vb, vc, vd, ve, vf, vg, vh]) := by rw [hr.out]; rfl
      have hnl : ∀ x ∈ [va, vb, vc, vd, ve, vf, vg, vh], x < 4294967296 := by
        intro x hx
        simp only [List.mem_cons, List.not_mem_nil, or_false] at hx
        omega
      have hn8 : [va, vb, vc, vd, ve, vf, vg, vh].length = 8 := rfl
      have hgr0 : w.grownBy wr (some g) := below_grown hb
      have hne : g ≠ w.heap.size := by omega
      generalize [va, vb, vc, vd, ve, vf, vg, vh] = now at hs hT hnl hn8
      have hTl := addL_length S now
      have HTD : Hid (∀ k, k < 8 → (addL S now).getD k 0 = (S.getD k 0 + now.getD k 0) % 4294967296) := fun k hk => by simp [addL, hk]
      generalize addL S now = T at hT hTl HTD
      clear hr hrok HG o1 o2 o3 o4 o5 o6 o7 o8 hb
      go_wp2_with (fail)
      go_loopw [71] (fun i wX => ∃ k : Nat, k ≤ 8 ∧ i = .int .i64 k ∧ HashIn ty n o A B wX lo g (mixS T S k) L W ∧ wX.ownsRow w.heap.size 163 1 (.slice (some ⟨w.heap.size, 0, none⟩) 8 8) 8 (u32L now) ∧ w.grownBy wX (some g))
        (fun i _ => 8 - (intOf i).toNat)
      case atStart => exact ⟨0, by omega, rfl, by simpa [mixS] using hI, hs, hgr0⟩
      case round =>
        clear hI hs hgr0
        obtain ⟨k, hk, rfl, hI, hs, hgr⟩ := hrel
        by_cases hlt8 : k < 8
        · have hml := mixS_length hTl hl1 k
          have cs := hI.state k hlt8
          rw [mixS_getD hTl k hlt8] at cs
          have cn : wr.cell? ⟨w.heap.size, k, none⟩ = some (.int .u32 ((now.getD k 0 : Nat) : Int)) := by rw [hs.cellAt k (by omega), u32L_getElem? _ _ (by omega)]
          have la := getD_lt hS (by decide) k
          have lb := getD_lt hnl (by decide) k
          have hTk := HTD.out k hlt8
          have hfr := hI.frozen (o + k)
          generalize S.getD k 0 = a at cs la hTk
          generalize now.getD k 0 = b at cn lb hTk
          obtain ⟨u, hu⟩ : ∃ u : Nat, u = (a + b) % 4294967296 := ⟨_, rfl⟩
          have mu : ((a : Int) + (b : Int)) % 4294967296 = (u : Int) := by omega
          have wu : IntKind.u32.wrap ((a : Int) + (b : Int)) = (u : Int) := by rw [IntKind.wrap_u32]; exact mu
          obtain ⟨k1, k2, k3, k5, k4⟩ := hI
          have st := k4.stored (o + k) (.int .u32 (u : Int))
          rw [winC_set k5 _ _ _ _ _ (by omega), mixS_set hTl hl1 k hlt8 u (by rw [hTk, hu])] at st
          have hs' := hs.kept st.2 (.inr (by simp [Value.ownBlock]; omega))
          have hgr' := grown_trans hgr st.2
          have hml2 := mixS_length hTl hl1 (k + 1)
          have st' : HashIn ty n o A B _ lo g (mixS T S (k + 1)) L W := ⟨hml2, k2, k3, k5, st.1⟩
          clear k1 k2 k3 k4 k5 hml2 hs hgr st hu hTk hml
          go_wp2_with (fail)
          go_region
          all_goals
            go_wp2
            go_roundw
            case rel => exact ⟨k + 1, by omega, by go_num, st', hs', ⟨hgr'.os, hgr'.tape, hgr'.output, hgr'.size, hgr'.block⟩⟩
            case measure => simp [intOf]; omega
        · have hk8 : k = 8 := by omega
          have hfin : mixS T S k = T := by simp [mixS, hk8, List.take_of_length_le (show T.length ≤ 8 by omega), List.drop_of_length_le (show S.length ≤ 8 by omega)]
          rw [hfin] at hI
          clear hfin hk8
          go_wp2
          go_end0
          rw [hT.out]
          exact ⟨rfl, hI, hgr⟩
theorem specTurn_drew (x : Nat) (k : Int) (m : Nat) (w : World) (hx : x < 4294967296) (hm0 : countN k = m) :
    Calls Tryz.prog 218 #[.int .i64 x, .int .i64 k] w fun e w' => e = .returned (.int .i64 ((turnN x m : Nat) : Int)) ∧ ∃ n, w' = w.drewN n := by
  have he : (x : Int) % 4294967296 = (x : Int) := by omega
  have hm := (i64_mask31 k).trans (countN_eq k).symm
  have hlt := countN_lt k
  subst hm0
  generalize countN k = m at hm hlt ⊢
  have ho := turn_i64 hx hlt
  have hs := shl_small hx hlt
  generalize turnN x m = r at ho ⊢
  have c1 := fun w => specWord_same (x : Int) w
  rw [he] at c1
  clear he
  go_enter Tryz.func218, Tryz.ntmps218
  go_wp2_with (fail)
  refine (c1 _).mono ?_
  rintro e w1 ⟨rfl, rfl⟩
  clear c1
  go_wp2_with (fail)
  go_quiet ((go_at_call 157; exact Calls.quiet_of_same (specWord_same _ _)))
  go_wp2
  go_ret
  rw [ho]
  exact ⟨rfl, _, rfl⟩
theorem l3Mix_s1 (x : Nat) (w : World) (hx : x < 4294967296) :
    Calls Tryz.prog 230 #[.int .i64 x, .int .i64 17, .int .i64 19, .int .i64 10, .bool true] w fun e w' => e = .returned (.int .i64 ((smallN x 17 19 10 : Nat) : Int)) ∧ ∃ n, w' = w.drewN n := by
  have c0 := fun w => specTurn_drew x 22 22 w hx rfl
  have c1 := fun w => specTurn_drew x 15 15 w hx rfl
  have c2 := fun w => specTurn_drew x 13 13 w hx rfl
  have l0 := turn_lt (m := 22) hx (by decide)
  have l1 := turn_lt (m := 15) hx (by decide)
  have l2 := turn_lt (m := 13) hx (by decide)
  simp only [smallN, Nat.reduceSub, Nat.reducePow]
  generalize turnN x 22 = r0 at c0 l0
  generalize turnN x 15 = r1 at c1 l1 ⊢
  generalize turnN x 13 = r2 at c2 l2 ⊢
  have ho := i64_xor3 r1 r2 (x / 1024) l1 l2 (by omega)
  simp only [Int.natCast_ediv, Int.cast_ofNat_Int] at ho
  have he : (x : Int) % 4294967296 = (x : Int) := by omega
  have cw := fun w => specWord_same (x : Int) w
  rw [he] at cw
  clear he
  go_enter Tryz.func230, Tryz.ntmps230
  go_wp2_with (fail)
  refine (c0 _).mono ?_
  rintro e w1 ⟨rfl, n1, rfl⟩
  go_wp2_with (fail)
  refine (cw _).mono ?_
  rintro e w1 ⟨rfl, rfl⟩
  go_wp2_with (fail)
  refine (c1 _).mono ?_
  rintro e w1 ⟨rfl, n2, rfl⟩
  go_wp2_with (fail)
  refine (c2 _).mono ?_
  rintro e w1 ⟨rfl, n3, rfl⟩
  go_wp2
  go_ret
  exact ⟨rfl, _, rfl⟩
theorem l3Mix_s0 (x : Nat) (w : World) (hx : x < 4294967296) :
    Calls Tryz.prog 230 #[.int .i64 x, .int .i64 7, .int .i64 18, .int .i64 3, .bool true] w fun e w' => e = .returned (.int .i64 ((smallN x 7 18 3 : Nat) : Int)) ∧ ∃ n, w' = w.drewN n := by
  have c0 := fun w => specTurn_drew x 29 29 w hx rfl
  have c1 := fun w => specTurn_drew x 25 25 w hx rfl
  have c2 := fun w => specTurn_drew x 14 14 w hx rfl
  have l0 := turn_lt (m := 29) hx (by decide)
  have l1 := turn_lt (m := 25) hx (by decide)
  have l2 := turn_lt (m := 14) hx (by decide)
  simp only [smallN, Nat.reduceSub, Nat.reducePow]
  generalize turnN x 29 = r0 at c0 l0
  generalize turnN x 25 = r1 at c1 l1 ⊢
  generalize turnN x 14 = r2 at c2 l2 ⊢
  have ho := i64_xor3 r1 r2 (x / 8) l1 l2 (by omega)
  simp only [Int.natCast_ediv, Int.cast_ofNat_Int] at ho
  have he : (x : Int) % 4294967296 = (x : Int) := by omega
  have cw := fun w => specWord_same (x : Int) w
  rw [he] at cw
  clear he
  go_enter Tryz.func230, Tryz.ntmps230
  go_wp2_with (fail)
  refine (c0 _).mono ?_
  rintro e w1 ⟨rfl, n1, rfl⟩
  go_wp2_with (fail)
  refine (cw _).mono ?_
  rintro e w1 ⟨rfl, rfl⟩
  go_wp2_with (fail)
  refine (c1 _).mono ?_
  rintro e w1 ⟨rfl, n2, rfl⟩
  go_wp2_with (fail)
  refine (c2 _).mono ?_
  rintro e w1 ⟨rfl, n3, rfl⟩
  go_wp2
  go_ret
  exact ⟨rfl, _, rfl⟩
theorem l3Mix_S1 (x : Nat) (w : World) (hx : x < 4294967296) :
    Calls Tryz.prog 230 #[.int .i64 x, .int .i64 6, .int .i64 11, .int .i64 25, .bool false] w fun e w' => e = .returned (.int .i64 ((greatN x 6 11 25 : Nat) : Int)) ∧ ∃ n, w' = w.drewN n := by
  have c0 := fun w => specTurn_drew x 7 7 w hx rfl
  have c1 := fun w => specTurn_drew x 26 26 w hx rfl
  have c2 := fun w => specTurn_drew x 21 21 w hx rfl
  have l0 := turn_lt (m := 7) hx (by decide)
  have l1 := turn_lt (m := 26) hx (by decide)
  have l2 := turn_lt (m := 21) hx (by decide)
  simp only [greatN, Nat.reduceSub]
  generalize turnN x 7 = r0 at c0 l0 ⊢
  generalize turnN x 26 = r1 at c1 l1 ⊢
  generalize turnN x 21 = r2 at c2 l2 ⊢
  have ho := i64_xor3 r1 r2 r0 l1 l2 l0
  go_enter Tryz.func230, Tryz.ntmps230
  go_wp2_with (fail)
  refine (c0 _).mono ?_
  rintro e w1 ⟨rfl, n1, rfl⟩
  go_wp2_with (fail)
  refine (c1 _).mono ?_
  rintro e w1 ⟨rfl, n2, rfl⟩
  go_wp2_with (fail)
  refine (c2 _).mono ?_
  rintro e w1 ⟨rfl, n3, rfl⟩
  go_wp2
  go_ret
  exact ⟨rfl, _, rfl⟩
theorem l3Mix_S0 (x : Nat) (w : World) (hx : x < 4294967296) :
    Calls Tryz.prog 230 #[.int .i64 x, .int .i64 2, .int .i64 13, .int .i64 22, .bool false] w fun e w' => e = .returned (.int .i64 ((greatN x 2 13 22 : Nat) : Int)) ∧ ∃ n, w' = w.drewN n := by
  have c0 := fun w => specTurn_drew x 10 10 w hx rfl
  have c1 := fun w => specTurn_drew x 30 30 w hx rfl
  have c2 := fun w => specTurn_drew x 19 19 w hx rfl
  have l0 := turn_lt (m := 10) hx (by decide)
  have l1 := turn_lt (m := 30) hx (by decide)
  have l2 := turn_lt (m := 19) hx (by decide)
  simp only [greatN, Nat.reduceSub]
  generalize turnN x 10 = r0 at c0 l0 ⊢
  generalize turnN x 30 = r1 at c1 l1 ⊢
  generalize turnN x 19 = r2 at c2 l2 ⊢
  have ho := i64_xor3 r1 r2 r0 l1 l2 l0
  go_enter Tryz.func230, Tryz.ntmps230
  go_wp2_with (fail)
  refine (c0 _).mono ?_
  rintro e w1 ⟨rfl, n1, rfl⟩
  go_wp2_with (fail)
  refine (c1 _).mono ?_
  rintro e w1 ⟨rfl, n2, rfl⟩
  go_wp2_with (fail)
  refine (c2 _).mono ?_
  rintro e w1 ⟨rfl, n3, rfl⟩
  go_wp2
  go_ret
  exact ⟨rfl, _, rfl⟩
theorem append_keeps {P : Program} (w : World) (t ty e : TypeId) (i : TypeInfo) (z : Value) (base : Nat) (ht : P.underlying t = some (.slice e)) (hi : P.info? e = some i) (hz : i.zero = some z) (hsize : i.size = 1) (hzs : z.cells.size = 1)
    (g0 n cap0 : Nat) (xs : List Value) (hown : w.ownsRow base e 1 (.slice (some ⟨g0, 0, none⟩) n cap0) n xs)
    (ad : Addr) (m c : Nat) (news : List Value) (hl : news.length = m) (hnews : ∀ j u, news[j]? = some u → w.cell? (ad.add j) = some u) (h1 : ∀ u ∈ news, u.oneCell' = true)
    (h63 : n + m ≤ maxLen) (hbytes : (n + m) * i.bytes ≤ 140737488355328) (hbase : base ≤ w.heap.size) :
    ∃ g cap w', (Builtin.append_ #[t, t] ty #[.slice (some ⟨g0, 0, none⟩) n cap0, .slice (some ad) m c]).run P w = .ok (.slice (some ⟨g, 0, none⟩) (n + m) cap) w' ∧
      w'.ownsRow base e 1 (.slice (some ⟨g, 0, none⟩) (n + m) cap) (n + m) (xs ++ news) ∧ w.grownBy w' (some g0) ∧ ∀ j, j < n → w'.cell? ⟨g0, j, none⟩ = w.cell? ⟨g0, j, none⟩ := by
  have hg0 : g0 < w.heap.size := (hown.lt g0 rfl).2
  have hxl : xs.length = n := by simpa using hown.1
  have hsmall : n + m ≤ 9223372036854775807 := by simp only [maxLen] at h63; omega
  obtain ⟨v', w', hr, h2, h3, h4, h5⟩ := run_append_own_at (P := P) w base t ty e i z 1 i.bytes ht hi hz hsize rfl hzs (by decide) _ n xs hown ad m c news (by simp [hl]) hnews h1 h63 hbytes hbase
  rcases h2.2 with ⟨hv, h0⟩ | ⟨g, cap, cur, rfl, hbg, hg, hrest⟩
  · exact absurd (h4.1 hv).1 (by simp)
  · refine ⟨g, cap, w', hr, h2, h3, fun j hj => ?_⟩
    by_cases e0 : g = g0
    · subst e0
      rw [h2.cellAt j (by omega), hown.cellAt j (by omega), List.getElem?_append_left (by omega)]
    · rcases hown.2 with ⟨hv, _⟩ | ⟨g1, cap1, cur1, hv1, hb1, hg1, hnc, hcm, hcs, htake⟩
      · cases hv
      · simp only [Value.slice.injEq, Option.some.injEq, Addr.mk.injEq, and_true, true_and] at hv1
        obtain ⟨rfl, rfl⟩ := hv1
        by_cases hroom : n + m ≤ cap0
        · have hr2 := run_append_room (P := P) w t ty e i ht hi g0 n cap0 cur1 hg1 ad m c news (by rw [hsize]; omega) hnews h1 hroom (by rw [hsize, hcs]; omega)
          rw [hr] at hr2
          simp only [Result.ok.injEq, Value.slice.injEq, Option.some.injEq, Addr.mk.injEq, and_true] at hr2
          exact absurd hr2.1.1 e0
        · have holds : ∀ j u, xs[j]? = some u → w.cell? ((⟨g0, 0, none⟩ : Addr).add j) = some u := hown.cells (g := g0) rfl
          have hr2 := run_append_grow (P := P) w t ty e i z ht hi hz ⟨g0, 0, none⟩ n cap0 xs (by rw [hsize]; omega) holds ad m c news (by rw [hsize]; omega) hnews (by omega) (by omega) (growslice_fits (by omega) hbytes)
          rw [hr] at hr2
          simp only [Result.ok.injEq] at hr2
          rw [hr2.2, World.cell?_alloc_lt _ _ _ (by simpa using hg0)]
          simp
theorem step_pushKeep {P : Program} {e : TypeId} {i : TypeInfo} {base n : Nat} {wr : World} {xs : List Int} {ops : Array Oper} {o : Oper} {a : Act} {K : Act → World → Prop} {Q : Exit → Act → World → Prop} {E : Prop} (hi : P.info? e = some i) (hz : i.zero = some (.int .i64 0)) (hsize : i.size = 1) (hby : i.bytes = 8)
    (s y : Operand) (t : TypeId) (ht : P.underlying t = some (.slice e)) (x : Int) (g0 cap0 B : Nat) (hB : wr.heap[B]? = some (.cells #[.int .i64 x] e (0, 0))) (hown : wr.ownsRow base e 1 (.slice (some ⟨g0, 0, none⟩) n cap0) n (xs.map (Value.int .i64))) (hn : n ≤ 1099511627776) (hbase : base ≤ wr.heap.size)
    (hgd : o.guard = none) (ho : o.op = .call { callee := .builtin .append, args := #[s, y], argTypes := #[t, t] }) (hs : a.eval s = .slice (some ⟨g0, 0, none⟩) n cap0) (hy : a.eval y = .slice (some ⟨B, 0, none⟩) 1 1)
    (h : ∀ g cap w', w'.ownsRow base e 1 (.slice (some ⟨g, 0, none⟩) (n + 1) cap) (n + 1) ((xs ++ [x]).map (Value.int .i64)) → Below base wr w' → (∀ j, j < n → w'.cell? ⟨g0, j, none⟩ = wr.cell? ⟨g0, j, none⟩) → K (a.put o.dst (.slice (some ⟨g, 0, none⟩) (n + 1) cap)) w') :
    if Region.wanted o (yielded ops a.tmps) = true then Oper.wp P o a wr K Q else E := by
  have hw : Region.wanted o (yielded ops a.tmps) = true := by simp [Region.wanted, hgd]
  rw [if_pos hw]
  obtain ⟨g, cap, w', hr, h2, h3, h4⟩ := append_keeps (P := P) wr t o.type e i _ base ht hi hz hsize rfl g0 n cap0 _ hown ⟨B, 0, none⟩ 1 1 [.int .i64 x] rfl (World.news_of_block (cs := #[.int .i64 x]) hB) (fun u hu => by simp at hu; subst hu; rfl) (pushs_fitI hn (by decide)).1 (by rw [hby]; exact (pushs_fitI hn (by decide)).2) hbase
  unfold Oper.wp execOp
  simp only [ho, resolve, invoke, builtin, Sem.run_bind, Sem.run_pure, Result.andThen_ok, List.map_toArray, List.map_cons, List.map_nil, hs, hy, hr]
  exact h g cap w' (by simpa using h2) ((Below.refl _ _).grown h3 hbase fun k hk => by cases hk; exact (hown.lt g0 rfl).1) h4
def natsL (l : List Nat) : List Int := l.map fun (n : Nat) => (n : Int)
theorem natsL_length (l : List Nat) : (natsL l).length = l.length := by simp [natsL]
theorem natsL_getD (l : List Nat) (i : Nat) : (natsL l).getD i 0 = ((l.getD i 0 : Nat) : Int) := by
  simp only [natsL, List.getD_eq_getElem?_getD, List.getElem?_map]
  cases l[i]? <;> rfl
def wsOf (xs : List Int) : List Nat := (wordsL true xs 16).map Int.toNat
theorem wsOf_length (xs : List Int) : (wsOf xs).length = 16 := by simp [wsOf, wordsL_length]
theorem wsOf_nats (xs : List Int) : natsL (wsOf xs) = wordsL true xs 16 := by
  simp only [natsL, wsOf, wordsL, List.map_map]
  apply List.map_congr_left
  intro i _
  simp [wordAt]
theorem byte_lt {xs : List Int} (hb : ∀ x ∈ xs, 0 ≤ x ∧ x < 256) (i : Nat) : (xs.getD i 0).toNat < 256 := by
  rw [List.getD_eq_getElem?_getD]
  cases e : xs[i]? with
  | none => decide
  | some v =>
    have := hb v (List.mem_of_getElem? e)
    simp only [Option.getD_some]
    omega
theorem wsOf_lt {xs : List Int} (hb : ∀ x ∈ xs, 0 ≤ x ∧ x < 256) : ∀ x ∈ wsOf xs, x < 4294967296 := by
  intro x hx
  simp only [wsOf, wordsL, List.map_map, List.mem_map, Function.comp] at hx
  obtain ⟨i, _, rfl⟩ := hx
  have h0 := byte_lt hb (4 * i + 0)
  have h1 := byte_lt hb (4 * i + 1)
  have h2 := byte_lt hb (4 * i + 2)
  have h3 := byte_lt hb (4 * i + 3)
  simp only [wordAt, if_true, Int.toNat_natCast, four]
  omega
theorem ownsI_lit (w : World) (ty : Nat) (cs : Array Value) (n : Nat) (xs : List Int) (h : cs.toList = xs.map (Value.int .i64)) (hn : xs.length = n) (hm : n ≤ maxLen) :
    OwnI ty (w.alloc (.cells cs ty)) w.heap.size (w.heap.size + 1) (.slice (some ⟨w.heap.size, 0, none⟩) n n) n xs := by
  have hs : cs.size = n := by rw [← Array.length_toList, h, List.length_map, hn]
  refine ⟨⟨by simp [hn], .inr ⟨w.heap.size, n, cs, rfl, Nat.le_refl _, heap_alloc_new w _, Nat.le_refl _, hm, by simp [hs], ?_⟩⟩, ?_⟩
  · rw [h, List.take_of_length_le (by simp [hn])]
  · intro k hk
    simp [Value.ownBlock] at hk
    omega
theorem l3Table_any (w : World) :
    Calls Tryz.prog 229 #[] w fun e w' => ∃ p c, e = .returned (.slice p 64 c) ∧ OwnI 3 w' w.heap.size w'.heap.size (.slice p 64 c) 64 (natsL keysL) ∧ Below w.heap.size w w' := by
  go_enter Tryz.func229, Tryz.ntmps229
  go_wp2
  go_ret
  refine ⟨_, _, rfl, ?_, (Below.refl _ _).alloc (Nat.le_refl _) _⟩
  have h := ownsI_lit w 3 ((natsL keysL).map (Value.int .i64)).toArray 64 (natsL keysL) (by simp) (by simp [natsL, keysL]) (by unfold maxLen; omega)
  simpa [natsL, keysL] using h
theorem specWords64 (p : Option Addr) (c : Nat) (xs : List Int) (w : World) (hx : xs.length = 64) (h : BytesIn w p 64 xs) (hb : ∀ x ∈ xs, 0 ≤ x ∧ x < 256) :
    Calls Tryz.prog 155 #[.slice p 64 c, .bool true] w fun e w' => ∃ p' c', e = .returned (.slice p' 16 c') ∧ OwnI 3 w' w.heap.size w'.heap.size (.slice p' 16 c') 16 (natsL (wsOf xs)) ∧ Below w.heap.size w w' := by
  rw [wsOf_nats]
  exact specWords_any p 64 c true xs w (by omega) hx h hb
theorem more_step (l : List Nat) (k : Nat) (u : Nat) (hu : u = nextN (moreN l k) (16 + k)) : natsL (moreN l k) ++ [(u : Int)] = natsL (moreN l (k + 1)) := by
  subst hu
  simp [natsL, moreN]
set_option maxHeartbeats 4000000 in
theorem l3More_any (p : Option Addr) (c : Nat) (xs : List Int) (w : World) (hx : xs.length = 64) (h : BytesIn w p 64 xs) (hb : ∀ x ∈ xs, 0 ≤ x ∧ x < 256) :
    Calls Tryz.prog 228 #[.slice p 64 c] w fun e w' => ∃ p' c', e = .returned (.slice p' 64 c') ∧ OwnI 3 w' w.heap.size w'.heap.size (.slice p' 64 c') 64 (natsL (spreadN (wsOf xs))) ∧ Below w.heap.size w w' := by
  obtain ⟨i0, hi, hz0, hz1, hz2⟩ := info_parts infoInt
  have hwl := wsOf_length xs
  have hwt := wsOf_lt hb
  have C := fun w h => specWords64 p c xs w hx h hb
  unfold spreadN
  generalize wsOf xs = ws at hwl hwt C ⊢
  go_enter Tryz.func228, Tryz.ntmps228
  go_wp2_with (fail)
  refine (C _ h).mono ?_
  rintro e w1 ⟨p1, c1, rfl, r1, b1⟩
  have ho1 := r1.1
  clear C h hb hx r1
  go_wp2_with (fail)
  go_loopw [3, 4] (fun v i wr => ∃ k t : Nat, t = 16 + k ∧ k ≤ 48 ∧ i = .int .i64 t ∧ wr.ownsRow w.heap.size 3 1 v t ((natsL (moreN ws k)).map (Value.int .i64)) ∧ Below w.heap.size w wr)
    (fun _ i _ => 64 - (intOf i).toNat)
  case atStart => exact ⟨0, 16, rfl, by omega, rfl, ho1, b1⟩
  case round =>
    clear ho1 b1
    obtain ⟨k, t, ht, hk, rfl, hown, hbel⟩ := hrel
    have hsz := hbel.size
    by_cases hlt : k < 48
    · obtain ⟨p', cap0, hv⟩ := owns_form hown
      subst hv
      obtain ⟨g0, rfl⟩ := owns_at hown (by omega)
      have hg0 := (hown.lt g0 rfl).2
      have hml := moreN_lt hwt k
      have cell : ∀ j, j < t → wr.cell? ⟨g0, j, none⟩ = some (.int .i64 (((moreN ws k).getD j 0 : Nat) : Int)) := by
        intro j hj
        have hl2 : (moreN ws k).length = t := by rw [moreN_length, hwl, ht]
        rw [hown.cellAt j (by omega), ← natsL_getD, List.getElem?_map, List.getD_eq_getElem?_getD, List.getElem?_eq_getElem (by rw [natsL_length]; omega)]
        rfl
      obtain ⟨j2, hj2⟩ : ∃ j2, t = j2 + 2 := ⟨t - 2, by omega⟩
      obtain ⟨j7, hj7⟩ : ∃ j7, t = j7 + 7 := ⟨t - 7, by omega⟩
      obtain ⟨j15, hj15⟩ : ∃ j15, t = j15 + 15 := ⟨t - 15, by omega⟩
      obtain ⟨j16, hj16⟩ : ∃ j16, t = j16 + 16 := ⟨t - 16, by omega⟩
      have l2 : j2 < t := by omega
      have l7 : j7 < t := by omega
      have l15 : j15 < t := by omega
      have l16 : j16 < t := by omega
      have d2 := cell j2 l2
      have d7 := cell j7 l7
      have d15 := cell j15 l15
      have d16 := cell j16 l16
      have m2 := getD_lt hml (by decide) j2
      have m7 := getD_lt hml (by decide) j7
      have m15 := getD_lt hml (by decide) j15
      have m16 := getD_lt hml (by decide) j16
      have HU : Hid (∀ u, u = (smallN ((moreN ws k).getD j2 0) 17 19 10 + (moreN ws k).getD j7 0 + smallN ((moreN ws k).getD j15 0) 7 18 3 + (moreN ws k).getD j16 0) % 4294967296 → natsL (moreN ws k) ++ [(u : Int)] = natsL (moreN ws (k + 1))) := by
        intro u hu
        refine more_step ws k u ?_
        unfold nextN
        rw [← ht, show t - 2 = j2 by omega, show t - 7 = j7 by omega, show t - 15 = j15 by omega, show t - 16 = j16 by omega]
        exact hu
      clear cell hml
      generalize (moreN ws k).getD j2 0 = a2 at d2 m2 HU
      generalize (moreN ws k).getD j7 0 = a7 at d7 m7 HU
      generalize (moreN ws k).getD j15 0 = a15 at d15 m15 HU
      generalize (moreN ws k).getD j16 0 = a16 at d16 m16 HU
      have C1 := fun w => l3Mix_s1 a2 w m2
      have C0 := fun w => l3Mix_s0 a15 w m15
      have n1 := smallN_lt (a := 17) (b := 19) (c := 10) m2 (by decide) (by decide)
      have n0 := smallN_lt (a := 7) (b := 18) (c := 3) m15 (by decide) (by decide)
      generalize smallN a2 17 19 10 = r1 at C1 n1 HU
      generalize smallN a15 7 18 3 = r0 at C0 n0 HU
      obtain ⟨u, hu⟩ : ∃ u, u = (r1 + a7 + r0 + a16) % 4294967296 := ⟨_, rfl⟩
      have HN : Hid (natsL (moreN ws k) ++ [(u : Int)] = natsL (moreN ws (k + 1))) := HU.out u hu
      have CW : ∀ w, Calls Tryz.prog 157 #[.int .i64 ((r1 : Int) + a7 + r0 + a16)] w fun e w' => e = .returned (.int .i64 (u : Int)) ∧ w' = w := by
        intro w
        have := specWord_same ((r1 : Int) + a7 + r0 + a16) w
        rw [show ((r1 : Int) + a7 + r0 + a16) % 4294967296 = (u : Int) by omega] at this
        exact this
      have HK : ∀ w', Below wr.heap.size wr w' → w'.cell? ⟨g0, j2, none⟩ = some (.int .i64 (a2 : Int)) ∧ w'.cell? ⟨g0, j7, none⟩ = some (.int .i64 (a7 : Int)) ∧ w'.cell? ⟨g0, j15, none⟩ = some (.int .i64 (a15 : Int)) ∧ w'.cell? ⟨g0, j16, none⟩ = some (.int .i64 (a16 : Int)) := fun w' hB => ⟨(hB.cell (p := ⟨g0, j2, none⟩) hg0).trans d2, (hB.cell (p := ⟨g0, j7, none⟩) hg0).trans d7, (hB.cell (p := ⟨g0, j15, none⟩) hg0).trans d15, (hB.cell (p := ⟨g0, j16, none⟩) hg0).trans d16⟩
      have v2 : IntKind.i64.wrap ((t : Int) - 2) = (j2 : Int) := by rw [IntKind.wrap_i64]; omega
      have v7 : IntKind.i64.wrap ((t : Int) - 7) = (j7 : Int) := by rw [IntKind.wrap_i64]; omega
      have v15 : IntKind.i64.wrap ((t : Int) - 15) = (j15 : Int) := by rw [IntKind.wrap_i64]; omega
      have v16 : IntKind.i64.wrap ((t : Int) - 16) = (j16 : Int) := by rw [IntKind.wrap_i64]; omega
      have q1 : IntKind.i64.wrap ((r1 : Int) + a7) = (r1 : Int) + a7 := by rw [IntKind.wrap_i64]; omega
      have q2 : IntKind.i64.wrap ((r1 : Int) + a7 + r0) = (r1 : Int) + a7 + r0 := by rw [IntKind.wrap_i64]; omega
      have q3 : IntKind.i64.wrap ((r1 : Int) + a7 + r0 + a16) = (r1 : Int) + a7 + r0 + a16 := by rw [IntKind.wrap_i64]; omega
      clear HU hu d2 d7 d15 d16
      have htl : t < 64 := by omega
      have HT : Hid (t = 16 + k) := ht
      clear hj2 hj7 hj15 hj16 ht
      go_wp2_with (fail)
      go_region_held3 (fun w' => w'.cell? ⟨g0, j2, none⟩ = some (.int .i64 (a2 : Int)) ∧ w'.cell? ⟨g0, j7, none⟩ = some (.int .i64 (a7 : Int)) ∧ w'.cell? ⟨g0, j15, none⟩ = some (.int .i64 (a15 : Int)) ∧ w'.cell? ⟨g0, j16, none⟩ = some (.int .i64 (a16 : Int)))
        (first | exact hS3 | exact HK _ e2 | exact HK _ e1 | exact HK _ (e2.alloc e2.size _) | exact HK _ (Below.refl _ _) | exact HK _ (Below.refl _ _).drew)
        (first | (go_at_call_of 230 a2; refine (C1 _).mono ?_; rintro e w1 ⟨rfl, dn1, hw1⟩; have e1 : Below wr.heap.size wr w1 := (by rw [hw1]; exact below_drewN (Below.refl _ _).drew _); clear hw1) | (go_at_call_of 230 a15; refine (C0 _).mono ?_; rintro e w2 ⟨rfl, dn2, hw2⟩; have e2 : Below wr.heap.size wr w2 := (by rw [hw2]; exact below_drewN e1 _); clear hw2) | (go_at_call 157; refine (CW _).mono ?_; rintro e w3 ⟨rfl, rfl⟩) | (refine step_pushKeep hi hz0 hz1 hz2 (.tmp 11) (.tmp 38) 52 Tryz.underlying52 (u : Int) g0 cap0 _ (heap_alloc_new _ _) ((owns_below hown e2).alloc _) (by omega) (by have := e2.size; simp; omega) (by rfl) (by rfl) (by rfl) (by rfl) ?_; intro g cap w4 ho4 hb4 hk4; have hS3 := And.intro ((hk4 j2 l2).trans (HK _ (e2.alloc e2.size _)).1) (And.intro ((hk4 j7 l7).trans (HK _ (e2.alloc e2.size _)).2.1) (And.intro ((hk4 j15 l15).trans (HK _ (e2.alloc e2.size _)).2.2.1) ((hk4 j16 l16).trans (HK _ (e2.alloc e2.size _)).2.2.2)))))
      rw [HN.out] at ho4
      go_wp2
      go_roundw
      case rel => exact ⟨k + 1, t + 1, by have := HT.out; omega, by omega, by go_num, ho4, (below_on hbel (e2.alloc e2.size _)).trans hb4⟩
      case measure => simp [intOf]; omega
    · obtain rfl : k = 48 := by omega
      obtain rfl : t = 64 := by omega
      obtain ⟨p', c', hv⟩ := owns_form hown
      subst hv
      go_wp2
      go_ret
      exact ⟨_, _, rfl, .of hown, hbel⟩
end Go.Proofs.YtnpffnhiefgglaaGreatDoor
