/-
  Numbers for words of 32 bits: what is left by 2^32 and by 32 as the masks tell it, and a word turned left, as the two or's of its parts tell it; each at its own bounds.
  Plain facts on worlds and lists of ints for the proofs of this seat, as those of Plain on bytes: what a row of ints that the call made reads as, that it stays, what is stored into it and appended to it; and an append of bytes that lie somewhere. Conditions: none beyond each fact's own.
  The int's row of the program's table of types.
  A quarter round over words, as numbers; lists with four places set.
  What spec.Word and impl.Word answer at every int: what is left by 2^32; no condition.
  What slices.Reverse does to a row of bytes that the call owns, whatever its block's type; condition: at most 2^40 bytes.
  What impl.readWord answers at any four bytes: the number that they are, great or little; condition: they are bytes.
-/
import Derived.Test.YtepbidaoloplbaaDoorParb08
namespace Go.Proofs.YtepbidaoloplbaaDoor
open Go.RowKit

theorem i64_mask (a : Int) (e : Nat) (m : Int) (hm : m = ((2 ^ e - 1 : Nat) : Int)) (he : e ≤ 62) : bits .and .i64 a m = a % ((2 ^ e : Nat) : Int) := by
  have hp : 2 ^ e ≤ 2 ^ 62 := Nat.pow_le_pow_right (by decide) he
  have h0 : 0 < 2 ^ e := Nat.two_pow_pos e
  have eb : (BitVec.ofInt 64 m).toNat = 2 ^ e - 1 := by
    rw [BitVec.toNat_ofInt, hm]
    omega
  have ea : (BitVec.ofInt 64 a).toNat = (a % 18446744073709551616).toNat := by rw [BitVec.toNat_ofInt]; rfl
  have ed : (18446744073709551616 : Int) = ((2 ^ e : Nat) : Int) * ((2 ^ (64 - e) : Nat) : Int) := by
    rw [← Int.natCast_mul, ← Nat.pow_add, show e + (64 - e) = 64 by omega]
    rfl
  have : (BitVec.ofInt 64 a &&& BitVec.ofInt 64 m).toNat = (a % 18446744073709551616).toNat % 2 ^ e := by
    rw [BitVec.toNat_and, ea, eb, Nat.and_two_pow_sub_one_eq_mod]
  show IntKind.i64.wrap ((BitVec.ofInt 64 a &&& BitVec.ofInt 64 m).toNat : Int) = _
  have hlt : (a % 18446744073709551616).toNat % 2 ^ e < 2 ^ e := Nat.mod_lt _ h0
  have e2 : (((a % 18446744073709551616).toNat % 2 ^ e : Nat) : Int) = a % ((2 ^ e : Nat) : Int) := by
    rw [Int.natCast_emod, Int.toNat_of_nonneg (Int.emod_nonneg _ (by decide)), ed, Int.emod_emod_of_dvd _ (Int.dvd_mul_right _ _)]
  rw [this, IntKind.wrap_i64]
  rw [← e2]
  omega

theorem i64_mask32 (a : Int) : bits .and .i64 a 4294967295 = a % 4294967296 := i64_mask a 32 _ rfl (by decide)
theorem i64_mask31 (a : Int) : bits .and .i64 a 31 = a % 32 := i64_mask a 5 _ rfl (by decide)

theorem u64_mask31 (k : Int) : bits .and .u64 (IntKind.u64.wrap k) 31 = k % 32 := by
  have ew : IntKind.u64.wrap k = k % 18446744073709551616 := by rw [IntKind.wrap_u64]
  have ea : (BitVec.ofInt 64 (k % 18446744073709551616)).toNat = (k % 18446744073709551616).toNat := by rw [BitVec.toNat_ofInt]; omega
  have : (BitVec.ofInt 64 (k % 18446744073709551616) &&& BitVec.ofInt 64 31).toNat = (k % 18446744073709551616).toNat % 32 := by
    rw [BitVec.toNat_and, ea]
    show _ &&& (2 ^ 5 - 1) = _
    rw [Nat.and_two_pow_sub_one_eq_mod]
  rw [ew]
  show IntKind.u64.wrap ((BitVec.ofInt 64 (k % 18446744073709551616) &&& BitVec.ofInt 64 31).toNat : Int) = _
  rw [this, IntKind.wrap_u64]
  omega

/-- x, a word, turned left by m. -/
def turnN (x m : Nat) : Nat := 2 ^ m * (x % 2 ^ (32 - m)) + x / 2 ^ (32 - m)

theorem turn_hi {x m : Nat} (hx : x < 4294967296) (hm : m < 32) : x / 2 ^ (32 - m) < 2 ^ m := by
  rw [Nat.div_lt_iff_lt_mul (Nat.two_pow_pos _), ← Nat.pow_add, show m + (32 - m) = 32 by omega]
  exact hx

theorem turn_lt {x m : Nat} (hx : x < 4294967296) (hm : m < 32) : turnN x m < 4294967296 := by
  have h1 := turn_hi hx hm
  have h2 : x % 2 ^ (32 - m) < 2 ^ (32 - m) := Nat.mod_lt _ (Nat.two_pow_pos _)
  have h3 : 2 ^ m * (x % 2 ^ (32 - m) + 1) ≤ 2 ^ m * 2 ^ (32 - m) := Nat.mul_le_mul_left _ h2
  rw [← Nat.pow_add, show m + (32 - m) = 32 by omega, Nat.mul_add] at h3
  unfold turnN
  omega

theorem turn_or {x m : Nat} (hx : x < 4294967296) (hm : m < 32) : (x * 2 ^ m % 4294967296 ||| x / 2 ^ (32 - m)) = turnN x m := by
  have e : x * 2 ^ m % 4294967296 = 2 ^ m * (x % 2 ^ (32 - m)) := by
    rw [show (4294967296 : Nat) = 2 ^ m * 2 ^ (32 - m) by rw [← Nat.pow_add, show m + (32 - m) = 32 by omega], Nat.mul_comm x, Nat.mul_mod_mul_left]
  rw [e, turnN, Nat.two_pow_add_eq_or_of_lt (turn_hi hx hm)]

theorem turn_or' {x m : Nat} (hx : x < 4294967296) (hm : m < 32) : (x * 2 ^ m ||| x / 2 ^ (32 - m)) % 4294967296 = turnN x m := by
  rw [← turn_or hx hm]
  show (_ ||| _) % 2 ^ 32 = (_ % 2 ^ 32 ||| _)
  rw [Nat.or_mod_two_pow]
  congr 1
  exact Nat.mod_eq_of_lt (Nat.lt_of_le_of_lt (Nat.div_le_self _ _) hx)

theorem bv64_nat {a : Nat} (h : a < 18446744073709551616) : (BitVec.ofInt 64 (a : Int)).toNat = a := by rw [BitVec.toNat_ofInt]; omega
theorem bv32_nat {a : Nat} (h : a < 4294967296) : (BitVec.ofInt 32 (a : Int)).toNat = a := by rw [BitVec.toNat_ofInt]; omega

theorem i64_or (a b : Nat) (h1 : a < 9223372036854775808) (h2 : b < 9223372036854775808) : bits .or .i64 (a : Int) (b : Int) = ((a ||| b : Nat) : Int) := by
  have hlt : (a ||| b) < 2 ^ 63 := Nat.or_lt_two_pow h1 h2
  have : (BitVec.ofInt 64 (a : Int) ||| BitVec.ofInt 64 (b : Int)).toNat = (a ||| b) := by rw [BitVec.toNat_or, bv64_nat (by omega), bv64_nat (by omega)]
  show IntKind.i64.wrap ((BitVec.ofInt 64 (a : Int) ||| BitVec.ofInt 64 (b : Int)).toNat : Int) = _
  rw [this, IntKind.wrap_i64]
  omega

theorem u32_or (a b : Nat) (h1 : a < 4294967296) (h2 : b < 4294967296) : bits .or .u32 (a : Int) (b : Int) = ((a ||| b : Nat) : Int) := by
  have hlt : (a ||| b) < 2 ^ 32 := Nat.or_lt_two_pow h1 h2
  have : (BitVec.ofInt 32 (a : Int) ||| BitVec.ofInt 32 (b : Int)).toNat = (a ||| b) := by rw [BitVec.toNat_or, bv32_nat h1, bv32_nat h2]
  show IntKind.u32.wrap ((BitVec.ofInt 32 (a : Int) ||| BitVec.ofInt 32 (b : Int)).toNat : Int) = _
  rw [this, IntKind.wrap_u32]
  omega

theorem turn_u32 {x m : Nat} (hx : x < 4294967296) (hm : m < 32) : bits .or .u32 ((x : Int) * 2 ^ m % 4294967296) ((x : Int) / 2 ^ (32 - m)) = ((turnN x m : Nat) : Int) := by
  have e1 : (x : Int) * 2 ^ m % 4294967296 = ((x * 2 ^ m % 4294967296 : Nat) : Int) := by simp
  have e2 : (x : Int) / 2 ^ (32 - m) = ((x / 2 ^ (32 - m) : Nat) : Int) := by simp
  rw [e1, e2, u32_or _ _ (Nat.mod_lt _ (by decide)) (Nat.lt_of_le_of_lt (Nat.div_le_self _ _) hx), turn_or hx hm]

theorem turn_i64 {x m : Nat} (hx : x < 4294967296) (hm : m < 32) : bits .or .i64 ((x : Int) * 2 ^ m) ((x : Int) / 2 ^ (32 - m)) % 4294967296 = ((turnN x m : Nat) : Int) := by
  have e1 : (x : Int) * 2 ^ m = ((x * 2 ^ m : Nat) : Int) := by simp
  have e2 : (x : Int) / 2 ^ (32 - m) = ((x / 2 ^ (32 - m) : Nat) : Int) := by simp
  have hb : x * 2 ^ m < 9223372036854775808 := by
    have h1 : 2 ^ m ≤ 2 ^ 31 := Nat.pow_le_pow_right (by decide) (by omega)
    have h2 : x * 2 ^ m ≤ 4294967295 * 2 ^ 31 := Nat.mul_le_mul (by omega) h1
    omega
  have hd : x / 2 ^ (32 - m) ≤ x := Nat.div_le_self _ _
  have e3 := turn_or' hx hm
  rw [e1, e2, i64_or _ _ hb (by omega)]
  generalize (x * 2 ^ m ||| x / 2 ^ (32 - m)) = q at e3 ⊢
  omega

theorem shl_small {x m : Nat} (hx : x < 4294967296) (hm : m < 32) : 0 ≤ (x : Int) * 2 ^ m ∧ (x : Int) * 2 ^ m ≤ 9223372036854775807 := by
  have e1 : (x : Int) * 2 ^ m = ((x * 2 ^ m : Nat) : Int) := by simp
  have h1 : 2 ^ m ≤ 2 ^ 31 := Nat.pow_le_pow_right (by decide) (by omega)
  have h2 : x * 2 ^ m ≤ 4294967295 * 2 ^ 31 := Nat.mul_le_mul (by omega) h1
  omega

def wordN (n : Int) : Nat := (n % 4294967296).toNat
theorem wordN_lt (n : Int) : wordN n < 4294967296 := by unfold wordN; omega
theorem wordN_eq (n : Int) : ((wordN n : Nat) : Int) = n % 4294967296 := by unfold wordN; omega
def countN (k : Int) : Nat := (k % 32).toNat
theorem countN_lt (k : Int) : countN k < 32 := by unfold countN; omega
theorem countN_eq (k : Int) : ((countN k : Nat) : Int) = k % 32 := by unfold countN; omega
/-- What Turn answers. -/
def turnI (n k : Int) : Int := ((turnN (wordN n) (countN k) : Nat) : Int)

end Go.Proofs.YtepbidaoloplbaaDoor

namespace Go.Proofs.YtepbidaoloplbaaDoor
open Go.RowKit

/-- The bytes xs lie in a slice of n elements at p; of one that has none nothing is said. -/
def IntsIn (w : World) (p : Option Addr) (n : Nat) (xs : List Int) : Prop :=
  0 < n → ∃ b o, p = some ⟨b, o, none⟩ ∧ ∀ i, i < n → w.cell? ⟨b, o + i, none⟩ = some (.int .i64 (xs.getD i 0))

/-- What a row of bytes that the call owns reads as. -/
theorem owns_inI {w : World} {base e : Nat} {p : Option Addr} {n c : Nat} {xs : List Int} (h : w.ownsRow base e 1 (.slice p n c) n (xs.map (Value.int .i64))) : IntsIn w p n xs := by
  intro hn
  rcases h.2 with ⟨_, h0⟩ | ⟨g, cap, cur, hv, _, _⟩
  · omega
  · simp only [Value.slice.injEq] at hv
    obtain ⟨rfl, _, rfl⟩ := hv
    refine ⟨g, 0, rfl, fun i hi => ?_⟩
    have hl := h.1
    simp only [List.length_map, Nat.mul_one] at hl
    have := h.cellAt i (by omega)
    simp only [Nat.zero_add]
    rw [this]
    simp [List.getElem?_eq_getElem (show i < xs.length by omega), List.getD]

/-- What lies somewhere lies there behind a step that turned nothing old. -/
theorem in_belowI {w w' : World} {p : Option Addr} {n : Nat} {xs : List Int} (h : IntsIn w p n xs) (hb : Below w.heap.size w w') : IntsIn w' p n xs := by
  intro hn
  obtain ⟨b, o, rfl, hc⟩ := h hn
  refine ⟨b, o, rfl, fun i hi => ?_⟩
  have hlt : b < w.heap.size := World.block_lt_of_cell? w ⟨b, o + i, none⟩ (hc i hi)
  rw [hb.cell (p := ⟨b, o + i, none⟩) hlt]
  exact hc i hi

theorem owns_lenI {w : World} {base e : Nat} {v : Value} {n : Nat} {xs : List Int} (h : w.ownsRow base e 1 v n (xs.map (Value.int .i64))) : xs.length = n := by
  have := h.1; simpa using this

/-- One byte more of xs in the place of a nought. -/
theorem fill_stepI (xs : List Int) (n k : Nat) (u : Int) (hu : u = xs.getD k 0) (hk : k < n) (hx : xs.length = n) :
    ((xs.take k ++ List.replicate (n - k) 0).map (Value.int .i64)).set k (.int .i64 u) = (xs.take (k + 1) ++ List.replicate (n - (k + 1)) 0).map (Value.int .i64) := by
  subst hu
  simp only [List.getD_eq_getElem?_getD]
  apply List.ext_getElem
  · simp; omega
  · intro i h1 h2
    simp only [List.getElem_set, List.getElem_map]
    simp at h1 h2
    by_cases e : k = i
    · subst e
      simp [List.getElem_append, hx, hk]
      intro h; omega
    · simp only [e, if_false]
      by_cases hi : i < k
      · simp [List.getElem_append, hx]
        rw [dif_pos (by omega), dif_pos (by omega)]
      · simp [List.getElem_append, hx]
        rw [dif_neg (by omega), dif_neg (by omega)]

theorem fill_oldI (xs : List Int) (n k : Nat) (hk : k < n) (hx : xs.length = n) : ((xs.take k ++ List.replicate (n - k) 0).map (Value.int .i64))[k]? = some (.int .i64 0) := by
  rw [List.getElem?_eq_getElem (by simp; omega)]
  simp [List.getElem_append, hx]
  intro h; omega

theorem fill_startI (xs : List Int) (n : Nat) : (madeCells #[Value.int .i64 0] n).toList = (xs.take 0 ++ List.replicate (n - 0) 0).map (Value.int .i64) := by
  rw [toList_madeCells_one]
  simp

/-- What is laid by markIntS from k on. -/
def marksI (k : Int) (n : Nat) : List Int := (List.range n).map fun (i : Nat) => (k + (i : Int))

/-- A row of bytes xs that the call made: v, of n elements; its block lies from lo on and ahead of hi. -/
def OwnI (e : Nat) (w : World) (lo hi : Nat) (v : Value) (n : Nat) (xs : List Int) : Prop := w.ownsRow lo e 1 v n (xs.map (Value.int .i64)) ∧ ∀ k, v.ownBlock = some k → k < hi

section
variable {e : Nat} {w w' a : World} {lo hi lo' hi' : Nat} {u v : Value} {n m : Nat} {xs ys : List Int}

theorem OwnI.of (h : w.ownsRow lo e 1 v n (xs.map (Value.int .i64))) : OwnI e w lo w.heap.size v n xs := ⟨h, fun k hk => (h.lt k hk).2⟩
theorem OwnI.on (h : OwnI e w lo hi v n xs) (hb : Below w.heap.size w w') : OwnI e w' lo hi v n xs := ⟨owns_below h.1 hb, h.2⟩
theorem OwnI.len (h : OwnI e w lo hi v n xs) : xs.length = n := owns_lenI h.1
theorem OwnI.ints {p : Option Addr} {c : Nat} (h : OwnI e w lo hi (.slice p n c) n xs) : IntsIn w p n xs := owns_inI h.1
end

section
variable {P : Program} {e : TypeId} {i : TypeInfo} {base n : Nat} {wr : World} {v : Value} {xs : List Int}

theorem pushs_fitI {n m : Nat} (hn : n ≤ 1099511627776) (hm : m ≤ 1099511627776) : n + m ≤ maxLen ∧ (n + m) * 8 ≤ 140737488355328 := by unfold maxLen; omega

/-- 'append(out, x, y, ..)' of some bytes, out a row that the call owns, as one step of a region that draws its order. -/
theorem step_pushsI {ops : Array Oper} {o : Oper} {a : Act} {K : Act → World → Prop} {Q : Exit → Act → World → Prop} {E : Prop} (hi : P.info? e = some i) (hz : i.zero = some (.int .i64 0)) (hsize : i.size = 1) (hby : i.bytes = 8)
    (s y : Operand) (t : TypeId) (ht : P.underlying t = some (.slice e)) (cs : Array Value) (ys : List Int) (hcs : cs.toList = ys.map (Value.int .i64)) (hm : 0 < ys.length) (hm' : ys.length ≤ 1099511627776)
    (hown : wr.ownsRow base e 1 v n (xs.map (Value.int .i64))) (hn : n ≤ 1099511627776) (hbase : base ≤ wr.heap.size)
    (hgd : o.guard = none) (ho : o.op = .call { callee := .builtin .append, args := #[s, y], argTypes := #[t, t] }) (hs : a.eval s = v) (hy : a.eval y = .slice (some ⟨wr.heap.size, 0, none⟩) ys.length ys.length)
    (h : ∀ g cap w', w'.ownsRow base e 1 (.slice (some ⟨g, 0, none⟩) (n + ys.length) cap) (n + ys.length) ((xs ++ ys).map (Value.int .i64)) → Below base wr w' → K (a.put o.dst (.slice (some ⟨g, 0, none⟩) (n + ys.length) cap)) w') :
    if Region.wanted o (yielded ops a.tmps) = true then Oper.wp P o a (wr.alloc (.cells cs e)).drew K Q else E := by
  refine step_append_lies _ hgd s y t ho base e i (.int .i64 0) 1 8 ht hi hz hsize hby rfl (by decide) v n (xs.map (Value.int .i64)) hs (hown.alloc _).drew ⟨wr.heap.size, 0, none⟩ ys.length ys.length (ys.map (Value.int .i64)) hy (by simp) ?_ (ints_oneCell _ _) hm (pushs_fitI hn hm').1 (pushs_fitI hn hm').2 (by simp; omega) _ rfl ?_
  · rw [← hcs]
    exact World.news_of_block (cs := cs) (heap_alloc_new wr _)
  · intro g cap w' h1 h2 _ _
    refine h g cap w' (by simpa using h1) (((Below.refl _ _).alloc hbase _).drew.grown h2 (by simp; omega) fun k hk => (hown.lt k hk).1)

/-- The same in a plain region. -/
theorem list_pushsI {ops : Array Oper} {rest : List Oper} {o : Oper} {a : Act} {Q : Exit → Act → World → Prop} (hi : P.info? e = some i) (hz : i.zero = some (.int .i64 0)) (hsize : i.size = 1) (hby : i.bytes = 8)
    (s y : Operand) (t : TypeId) (ht : P.underlying t = some (.slice e)) (cs : Array Value) (ys : List Int) (hcs : cs.toList = ys.map (Value.int .i64)) (hm : 0 < ys.length) (hm' : ys.length ≤ 1099511627776)
    (hown : wr.ownsRow base e 1 v n (xs.map (Value.int .i64))) (hn : n ≤ 1099511627776) (hbase : base ≤ wr.heap.size)
    (hgd : o.guard = none) (ho : o.op = .call { callee := .builtin .append, args := #[s, y], argTypes := #[t, t] }) (hs : a.eval s = v) (hy : a.eval y = .slice (some ⟨wr.heap.size, 0, none⟩) ys.length ys.length)
    (h : ∀ g cap w', w'.ownsRow base e 1 (.slice (some ⟨g, 0, none⟩) (n + ys.length) cap) (n + ys.length) ((xs ++ ys).map (Value.int .i64)) → Below base wr w' → wpList P ops Q rest (a.put o.dst (.slice (some ⟨g, 0, none⟩) (n + ys.length) cap)) w') :
    wpList P ops Q (o :: rest) a (wr.alloc (.cells cs e)) := by
  refine wpList_append_lies _ hgd s y t ho base e i (.int .i64 0) 1 8 ht hi hz hsize hby rfl (by decide) v n (xs.map (Value.int .i64)) hs (hown.alloc _) ⟨wr.heap.size, 0, none⟩ ys.length ys.length (ys.map (Value.int .i64)) hy (by simp) ?_ (ints_oneCell _ _) hm (pushs_fitI hn hm').1 (pushs_fitI hn hm').2 (by simp; omega) _ rfl ?_
  · rw [← hcs]
    exact World.news_of_block (cs := cs) (heap_alloc_new wr _)
  · intro g cap w' h1 h2 _ _
    refine h g cap w' (by simpa using h1) (((Below.refl _ _).alloc hbase _).grown h2 (by simp; omega) fun k hk => (hown.lt k hk).1)

/-- One byte in a plain region, and every other block stays as it was. -/
theorem list_pushKI {ops : Array Oper} {rest : List Oper} {o : Oper} {a : Act} {Q : Exit → Act → World → Prop} (hi : P.info? e = some i) (hz : i.zero = some (.int .i64 0)) (hsize : i.size = 1) (hby : i.bytes = 8)
    (s y : Operand) (t : TypeId) (ht : P.underlying t = some (.slice e)) (x : Int) (hown : wr.ownsRow base e 1 v n (xs.map (Value.int .i64))) (hn : n ≤ 1099511627776) (hbase : base ≤ wr.heap.size)
    (hgd : o.guard = none) (ho : o.op = .call { callee := .builtin .append, args := #[s, y], argTypes := #[t, t] }) (hs : a.eval s = v) (hy : a.eval y = .slice (some ⟨wr.heap.size, 0, none⟩) 1 1)
    (h : ∀ g cap w', w'.ownsRow base e 1 (.slice (some ⟨g, 0, none⟩) (n + 1) cap) (n + 1) ((xs ++ [x]).map (Value.int .i64)) → Below base wr w' → (∀ k, k < wr.heap.size → some k ≠ v.ownBlock → w'.heap[k]? = wr.heap[k]?) → wpList P ops Q rest (a.put o.dst (.slice (some ⟨g, 0, none⟩) (n + 1) cap)) w') :
    wpList P ops Q (o :: rest) a (wr.alloc (.cells #[.int .i64 x] e)) := by
  refine wpList_append_lies _ hgd s y t ho base e i (.int .i64 0) 1 8 ht hi hz hsize hby rfl (by decide) v n (xs.map (Value.int .i64)) hs (hown.alloc _) ⟨wr.heap.size, 0, none⟩ 1 1 [.int .i64 x] hy rfl ?_ (fun u hu => by simp at hu; subst hu; rfl) (by decide) (pushs_fitI hn (by decide)).1 (pushs_fitI hn (by decide)).2 (by simp; omega) _ rfl ?_
  · exact World.news_of_block (cs := #[.int .i64 x]) (heap_alloc_new wr _)
  · intro g cap w' h1 h2 _ _
    refine h g cap w' (by simpa using h1) (((Below.refl _ _).alloc hbase _).grown h2 (by simp; omega) fun k hk => (hown.lt k hk).1) fun k hk hne => ?_
    rw [h2.block k (by simp; omega) hne]
    exact Below.heap_alloc _ _ _ hk

/-- One byte. -/
theorem step_pushI {ops : Array Oper} {o : Oper} {a : Act} {K : Act → World → Prop} {Q : Exit → Act → World → Prop} {E : Prop} (hi : P.info? e = some i) (hz : i.zero = some (.int .i64 0)) (hsize : i.size = 1) (hby : i.bytes = 8)
    (s y : Operand) (t : TypeId) (ht : P.underlying t = some (.slice e)) (x : Int) (hown : wr.ownsRow base e 1 v n (xs.map (Value.int .i64))) (hn : n ≤ 1099511627776) (hbase : base ≤ wr.heap.size)
    (hgd : o.guard = none) (ho : o.op = .call { callee := .builtin .append, args := #[s, y], argTypes := #[t, t] }) (hs : a.eval s = v) (hy : a.eval y = .slice (some ⟨wr.heap.size, 0, none⟩) 1 1)
    (h : ∀ g cap w', w'.ownsRow base e 1 (.slice (some ⟨g, 0, none⟩) (n + 1) cap) (n + 1) ((xs ++ [x]).map (Value.int .i64)) → Below base wr w' → K (a.put o.dst (.slice (some ⟨g, 0, none⟩) (n + 1) cap)) w') :
    if Region.wanted o (yielded ops a.tmps) = true then Oper.wp P o a (wr.alloc (.cells #[.int .i64 x] e)).drew K Q else E :=
  step_pushsI hi hz hsize hby s y t ht #[.int .i64 x] [x] rfl (by simp) (by simp) hown hn hbase hgd ho hs hy h

theorem list_pushI {ops : Array Oper} {rest : List Oper} {o : Oper} {a : Act} {Q : Exit → Act → World → Prop} (hi : P.info? e = some i) (hz : i.zero = some (.int .i64 0)) (hsize : i.size = 1) (hby : i.bytes = 8)
    (s y : Operand) (t : TypeId) (ht : P.underlying t = some (.slice e)) (x : Int) (hown : wr.ownsRow base e 1 v n (xs.map (Value.int .i64))) (hn : n ≤ 1099511627776) (hbase : base ≤ wr.heap.size)
    (hgd : o.guard = none) (ho : o.op = .call { callee := .builtin .append, args := #[s, y], argTypes := #[t, t] }) (hs : a.eval s = v) (hy : a.eval y = .slice (some ⟨wr.heap.size, 0, none⟩) 1 1)
    (h : ∀ g cap w', w'.ownsRow base e 1 (.slice (some ⟨g, 0, none⟩) (n + 1) cap) (n + 1) ((xs ++ [x]).map (Value.int .i64)) → Below base wr w' → wpList P ops Q rest (a.put o.dst (.slice (some ⟨g, 0, none⟩) (n + 1) cap)) w') :
    wpList P ops Q (o :: rest) a (wr.alloc (.cells #[.int .i64 x] e)) :=
  list_pushsI hi hz hsize hby s y t ht #[.int .i64 x] [x] rfl (by simp) (by simp) hown hn hbase hgd ho hs hy h
end

section
variable {e e' : Nat} {w w' a : World} {lo hi lo' hi' : Nat} {u v : Value} {n m : Nat} {xs ys : List Int}
end

theorem Own.cap {e : Nat} {w : World} {lo hi : Nat} {p : Option Addr} {n c : Nat} {xs : List Int} (h : Own e w lo hi (.slice p n c) n xs) : n ≤ c := by
  rcases h.1.2 with ⟨hv, hn⟩ | ⟨g, cap, cur, hv, _, _, hc, _⟩
  · omega
  · simp only [Value.slice.injEq] at hv
    omega

section
variable {P : Program} {e : TypeId} {i : TypeInfo} {base n m c : Nat} {wr : World} {v : Value} {p : Option Addr} {xs ys : List Int}
theorem news_of_in {wr : World} {b o m : Nat} {ys : List Int} (hl : ys.length = m) (hc : ∀ i, i < m → wr.cell? ⟨b, o + i, none⟩ = some (.int .u8 (ys.getD i 0))) : ∀ j u, (ys.map (Value.int .u8))[j]? = some u → wr.cell? ((⟨b, o, none⟩ : Addr).add j) = some u := by
  intro j u hj
  have hjl : j < ys.length := by
    rcases Nat.lt_or_ge j ys.length with h | h
    · exact h
    · simp [List.getElem?_eq_none (show (ys.map (Value.int .u8)).length ≤ j by simpa using h)] at hj
  have hplain : (⟨b, o, none⟩ : Addr).add j = ⟨b, o + j, none⟩ := by unfold Addr.add; split <;> simp_all
  rw [hplain, hc j (by omega)]
  simpa [List.getD, List.getElem?_eq_getElem hjl] using hj

/-- 'append(out, b...)' in a plain region: out a row that the call owns, b bytes that lie somewhere, at least one. -/
theorem list_spread {ops : Array Oper} {rest : List Oper} {o : Oper} {a : Act} {Q : Exit → Act → World → Prop} (hi : P.info? e = some i) (hz : i.zero = some (.int .u8 0)) (hsize : i.size = 1) (hby : i.bytes = 1)
    (s y : Operand) (t : TypeId) (ht : P.underlying t = some (.slice e)) (hown : wr.ownsRow base e 1 v n (xs.map (Value.int .u8))) (hin : BytesIn wr p m ys) (hl : ys.length = m) (hm : 0 < m) (hm' : m ≤ 1099511627776)
    (hn : n ≤ 1099511627776) (hbase : base ≤ wr.heap.size)
    (hgd : o.guard = none) (ho : o.op = .call { callee := .builtin .append, args := #[s, y], argTypes := #[t, t] }) (hs : a.eval s = v) (hy : a.eval y = .slice p m c)
    (h : ∀ g cap w', w'.ownsRow base e 1 (.slice (some ⟨g, 0, none⟩) (n + m) cap) (n + m) ((xs ++ ys).map (Value.int .u8)) → wr.grownBy w' v.ownBlock → Below base wr w' → wpList P ops Q rest (a.put o.dst (.slice (some ⟨g, 0, none⟩) (n + m) cap)) w') :
    wpList P ops Q (o :: rest) a wr := by
  obtain ⟨b, of, rfl, hc⟩ := hin hm
  refine wpList_append_lies _ hgd s y t ho base e i (.int .u8 0) 1 1 ht hi hz hsize hby rfl (by decide) v n (xs.map (Value.int .u8)) hs hown ⟨b, of, none⟩ m c (ys.map (Value.int .u8)) hy (by simp [hl]) (news_of_in hl hc) (ints_oneCell _ _) hm (pushs_fit hn hm').1 (pushs_fit hn hm').2 hbase _ rfl ?_
  intro g cap w' h1 h2 _ _
  exact h g cap w' (by simpa using h1) h2 ((Below.refl _ _).grown h2 hbase fun k hk => (hown.lt k hk).1)

theorem step_spread {ops : Array Oper} {o : Oper} {a : Act} {K : Act → World → Prop} {Q : Exit → Act → World → Prop} {E : Prop} (hi : P.info? e = some i) (hz : i.zero = some (.int .u8 0)) (hsize : i.size = 1) (hby : i.bytes = 1)
    (s y : Operand) (t : TypeId) (ht : P.underlying t = some (.slice e)) (hown : wr.ownsRow base e 1 v n (xs.map (Value.int .u8))) (hin : BytesIn wr p m ys) (hl : ys.length = m) (hm : 0 < m) (hm' : m ≤ 1099511627776)
    (hn : n ≤ 1099511627776) (hbase : base ≤ wr.heap.size)
    (hgd : o.guard = none) (ho : o.op = .call { callee := .builtin .append, args := #[s, y], argTypes := #[t, t] }) (hs : a.eval s = v) (hy : a.eval y = .slice p m c)
    (h : ∀ g cap w', w'.ownsRow base e 1 (.slice (some ⟨g, 0, none⟩) (n + m) cap) (n + m) ((xs ++ ys).map (Value.int .u8)) → wr.grownBy w' v.ownBlock → Below base wr w' → K (a.put o.dst (.slice (some ⟨g, 0, none⟩) (n + m) cap)) w') :
    if Region.wanted o (yielded ops a.tmps) = true then Oper.wp P o a wr K Q else E := by
  obtain ⟨b, of, rfl, hc⟩ := hin hm
  refine step_append_lies _ hgd s y t ho base e i (.int .u8 0) 1 1 ht hi hz hsize hby rfl (by decide) v n (xs.map (Value.int .u8)) hs hown ⟨b, of, none⟩ m c (ys.map (Value.int .u8)) hy (by simp [hl]) (news_of_in hl hc) (ints_oneCell _ _) hm (pushs_fit hn hm').1 (pushs_fit hn hm').2 hbase _ rfl ?_
  intro g cap w' h1 h2 _ _
  exact h g cap w' (by simpa using h1) h2 ((Below.refl _ _).grown h2 hbase fun k hk => (hown.lt k hk).1)
end

end Go.Proofs.YtepbidaoloplbaaDoor

namespace Go.Proofs.YtepbidaoloplbaaDoor
open Go.RowKit

theorem infoInt : (Tryd.prog.info? 3).map (fun i => (i.zero, i.size, i.bytes)) = some (some (.int .i64 0), 1, 8) := by kernel_rfl

end Go.Proofs.YtepbidaoloplbaaDoor

namespace Go.Proofs.YtepbidaoloplbaaDoor
open Go.RowKit

/-- The four words behind a quarter round. -/
def quarterN (a b c d : Nat) : Nat × Nat × Nat × Nat :=
  let a1 := (a + b) % 4294967296
  let d1 := turnN (d ^^^ a1) 16
  let c1 := (c + d1) % 4294967296
  let b1 := turnN (b ^^^ c1) 12
  let a2 := (a1 + b1) % 4294967296
  let d2 := turnN (d1 ^^^ a2) 8
  let c2 := (c1 + d2) % 4294967296
  let b2 := turnN (b1 ^^^ c2) 7
  (a2, b2, c2, d2)
def setQ (L : List Int) (a b c d : Nat) (u v x y : Int) : List Int := (((L.set a u).set b v).set c x).set d y
def quarterL (L : List Int) (a b c d : Nat) : List Int :=
  let q := quarterN (wordN (L.getD a 0)) (wordN (L.getD b 0)) (wordN (L.getD c 0)) (wordN (L.getD d 0))
  setQ L a b c d (q.1 : Int) (q.2.1 : Int) (q.2.2.1 : Int) (q.2.2.2 : Int)
theorem wordN_add (u v : Int) : (IntKind.i64.wrap (u + v)) % 4294967296 = (((wordN u + wordN v) % 4294967296 : Nat) : Int) := by
  rw [IntKind.wrap_i64]
  unfold wordN
  omega
theorem wordN_nat {a : Nat} (h : a < 4294967296) : wordN (a : Int) = a := by unfold wordN; omega
theorem wrap_mod (n : Nat) : wordN (IntKind.i64.wrap (n : Int)) = n % 4294967296 := by
  rw [IntKind.wrap_i64]
  unfold wordN
  omega
theorem ofInt_mod (u : Int) : (BitVec.ofInt 64 u).toNat % 4294967296 = wordN u := by
  have e : (BitVec.ofInt 64 u).toNat = (u % 18446744073709551616).toNat := BitVec.toNat_ofInt u
  rw [e]
  unfold wordN
  omega
theorem bits_xor_mod (u v : Int) : wordN (bits .xor .i64 u v) = wordN u ^^^ wordN v := by
  have e : bits .xor .i64 u v = IntKind.i64.wrap ((BitVec.ofInt 64 u ^^^ BitVec.ofInt 64 v).toNat : Int) := rfl
  rw [e, wrap_mod, BitVec.toNat_xor, ← ofInt_mod u, ← ofInt_mod v]
  exact Nat.xor_mod_two_pow (n := 32)
theorem turn_xor (u v : Int) (k : Int) : turnI (bits .xor .i64 u v) k = ((turnN (wordN u ^^^ wordN v) (countN k) : Nat) : Int) := by unfold turnI; rw [bits_xor_mod]
section
variable {L : List Int} {a b c d : Nat} {u v x y z : Int}
theorem setQ_length : (setQ L a b c d u v x y).length = L.length := by simp [setQ]
theorem setQ_self (ha : a < L.length) (hb : b < L.length) (hc : c < L.length) (hd : d < L.length) : setQ L a b c d (L.getD a 0) (L.getD b 0) (L.getD c 0) (L.getD d 0) = L := by
  have e : ∀ k, k < L.length → L.set k (L.getD k 0) = L := fun k hk => by
    rw [List.getD_eq_getElem?_getD, List.getElem?_eq_getElem hk]
    exact List.set_getElem_self hk
  unfold setQ
  rw [e a ha, e b hb, e c hc, e d hd]
theorem setQ_a (h1 : a ≠ b) (h2 : a ≠ c) (h3 : a ≠ d) : (setQ L a b c d u v x y).set a z = setQ L a b c d z v x y := by
  unfold setQ
  rw [List.set_comm _ _ h3.symm, List.set_comm _ _ h2.symm, List.set_comm _ _ h1.symm, List.set_set]
theorem setQ_b (h1 : b ≠ c) (h2 : b ≠ d) : (setQ L a b c d u v x y).set b z = setQ L a b c d u z x y := by
  unfold setQ
  rw [List.set_comm _ _ h2.symm, List.set_comm _ _ h1.symm, List.set_set]
theorem setQ_c (h1 : c ≠ d) : (setQ L a b c d u v x y).set c z = setQ L a b c d u v z y := by
  unfold setQ
  rw [List.set_comm _ _ h1.symm, List.set_set]
theorem setQ_d : (setQ L a b c d u v x y).set d z = setQ L a b c d u v x z := by
  unfold setQ
  rw [List.set_set]
theorem getQ_a (ha : a < L.length) (h1 : a ≠ b) (h2 : a ≠ c) (h3 : a ≠ d) : (setQ L a b c d u v x y)[a]? = some u := by
  unfold setQ
  rw [List.getElem?_set_ne h3.symm, List.getElem?_set_ne h2.symm, List.getElem?_set_ne h1.symm, List.getElem?_set_self ha]
theorem getQ_b (hb : b < L.length) (h1 : b ≠ c) (h2 : b ≠ d) : (setQ L a b c d u v x y)[b]? = some v := by
  unfold setQ
  rw [List.getElem?_set_ne h2.symm, List.getElem?_set_ne h1.symm, List.getElem?_set_self (by simpa using hb)]
theorem getQ_c (hc : c < L.length) (h1 : c ≠ d) : (setQ L a b c d u v x y)[c]? = some x := by
  unfold setQ
  rw [List.getElem?_set_ne h1.symm, List.getElem?_set_self (by simpa using hc)]
theorem getQ_d (hd : d < L.length) : (setQ L a b c d u v x y)[d]? = some y := by
  unfold setQ
  rw [List.getElem?_set_self (by simpa using hd)]
end

section
variable {P : Program} {e : TypeId} {i : TypeInfo} {base n m c : Nat} {wr : World} {v : Value} {p : Option Addr} {xs ys : List Int}
theorem news_of_inI {wr : World} {b o m : Nat} {ys : List Int} (hl : ys.length = m) (hc : ∀ i, i < m → wr.cell? ⟨b, o + i, none⟩ = some (.int .i64 (ys.getD i 0))) : ∀ j u, (ys.map (Value.int .i64))[j]? = some u → wr.cell? ((⟨b, o, none⟩ : Addr).add j) = some u := by
  intro j u hj
  have hjl : j < ys.length := by have := (List.getElem?_eq_some_iff.1 hj).1; simpa using this
  have hplain : (⟨b, o, none⟩ : Addr).add j = ⟨b, o + j, none⟩ := by unfold Addr.add; split <;> simp_all
  rw [hplain, hc j (by omega)]
  simpa [List.getD, List.getElem?_eq_getElem hjl] using hj
/-- 'append(out, x...)' of ints that lie somewhere, at least one, in a plain region. -/
theorem list_spreadI {ops : Array Oper} {rest : List Oper} {o : Oper} {a : Act} {Q : Exit → Act → World → Prop} (hi : P.info? e = some i) (hz : i.zero = some (.int .i64 0)) (hsize : i.size = 1) (hby : i.bytes = 8)
    (s y : Operand) (t : TypeId) (ht : P.underlying t = some (.slice e)) (hown : wr.ownsRow base e 1 v n (xs.map (Value.int .i64))) (hin : IntsIn wr p m ys) (hl : ys.length = m) (hm : 0 < m) (hm' : m ≤ 1099511627776)
    (hn : n ≤ 1099511627776) (hbase : base ≤ wr.heap.size)
    (hgd : o.guard = none) (ho : o.op = .call { callee := .builtin .append, args := #[s, y], argTypes := #[t, t] }) (hs : a.eval s = v) (hy : a.eval y = .slice p m c)
    (h : ∀ g cap w', w'.ownsRow base e 1 (.slice (some ⟨g, 0, none⟩) (n + m) cap) (n + m) ((xs ++ ys).map (Value.int .i64)) → Below base wr w' → wpList P ops Q rest (a.put o.dst (.slice (some ⟨g, 0, none⟩) (n + m) cap)) w') :
    wpList P ops Q (o :: rest) a wr := by
  obtain ⟨b, of, rfl, hc⟩ := hin hm
  refine wpList_append_lies _ hgd s y t ho base e i (.int .i64 0) 1 8 ht hi hz hsize hby rfl (by decide) v n (xs.map (Value.int .i64)) hs hown ⟨b, of, none⟩ m c (ys.map (Value.int .i64)) hy (by simp [hl]) (news_of_inI hl hc) (ints_oneCell _ _) hm (pushs_fitI hn hm').1 (pushs_fitI hn hm').2 hbase _ rfl ?_
  intro g cap w' h1 h2 _ _
  exact h g cap w' (by simpa using h1) ((Below.refl _ _).grown h2 hbase fun k hk => (hown.lt k hk).1)
end

end Go.Proofs.YtepbidaoloplbaaDoor

namespace Go.Proofs.YtepbidaoloplbaaDoor
open Go.RowKit

theorem specWord_same (n : Int) (w : World) :
    Calls Tryd.prog 38 #[.int .i64 n] w fun e w' => e = .returned (.int .i64 (n % 4294967296)) ∧ w' = w := by
  have hm := i64_mask32 n
  go_enter Tryd.func38, Tryd.ntmps38
  go_wp2
  go_ret
  exact ⟨rfl, rfl⟩

theorem implWord_same (n : Int) (w : World) :
    Calls Tryd.prog 59 #[.int .i64 n] w fun e w' => e = .returned (.int .i64 (n % 4294967296)) ∧ w' = w := by
  go_enter Tryd.func59, Tryd.ntmps59
  go_wp2
  go_ret
  exact ⟨rfl, rfl⟩

theorem specWord_any (n : Int) (w : World) :
    Calls Tryd.prog 38 #[.int .i64 n] w fun e w' => e = .returned (.int .i64 (n % 4294967296)) ∧ Below w.heap.size w w' :=
  (specWord_same n w).mono fun _ _ ⟨h1, h2⟩ => ⟨h1, by rw [h2]; exact Below.refl _ _⟩

end Go.Proofs.YtepbidaoloplbaaDoor

namespace Go.Proofs.YtepbidaoloplbaaDoor
open Go.RowKit

/-- Reversed from both ends, k times. -/
def revK (xs : List Int) (n k : Nat) : List Int := (List.range n).map fun (i : Nat) => if i < k ∨ n ≤ i + k then xs.getD (n - 1 - i) 0 else xs.getD i 0
theorem revK_length (xs : List Int) (n k : Nat) : (revK xs n k).length = n := by simp [revK]
theorem revK_zero (xs : List Int) (n : Nat) (hx : xs.length = n) : revK xs n 0 = xs := by
  apply List.ext_getElem
  · simp [revK, hx]
  · intro i h1 h2
    simp [revK] at h1 ⊢
    rw [if_neg (by omega)]
    simp [List.getElem?_eq_getElem h2]
theorem revK_at (xs : List Int) (n k i : Nat) (hi : i < n) : (revK xs n k)[i]? = some (if i < k ∨ n ≤ i + k then xs.getD (n - 1 - i) 0 else xs.getD i 0) := by
  simp [revK, hi]
theorem revK_end (xs : List Int) (n k : Nat) (hx : xs.length = n) (h : n ≤ 2 * k + 1) : revK xs n k = xs.reverse := by
  apply List.ext_getElem
  · simp [revK, hx]
  · intro i h1 h2
    simp [revK] at h1
    simp at h2
    rw [List.getElem_reverse]
    simp only [revK, List.getElem_map, List.getElem_range, List.getD_eq_getElem?_getD]
    by_cases hc : i < k ∨ n ≤ i + k
    · rw [if_pos hc, List.getElem?_eq_getElem (by omega)]
      simp [hx]
    · rw [if_neg hc]
      have e : xs.length - 1 - i = i := by omega
      rw [List.getElem?_eq_getElem (by omega)]
      simp [e]
theorem revK_step (xs : List Int) (n k j : Nat) (hj : j + k + 1 = n) (hkj : k < j) :
    (((revK xs n k).map (Value.int .u8)).set k (.int .u8 (xs.getD j 0))).set j (.int .u8 (xs.getD k 0)) = (revK xs n (k + 1)).map (Value.int .u8) := by
  apply List.ext_getElem?
  intro i
  by_cases hi : i < n
  · rw [List.getElem?_map, revK_at xs n (k + 1) i hi]
    by_cases e1 : i = j
    · subst e1
      rw [List.getElem?_set_self (by simp [revK_length]; omega), if_pos (by omega)]
      simp [show n - 1 - i = k by omega]
    · rw [List.getElem?_set_ne (by omega)]
      by_cases e2 : i = k
      · subst e2
        rw [List.getElem?_set_self (by simp [revK_length]; omega), if_pos (by omega)]
        simp [show n - 1 - i = j by omega]
      · rw [List.getElem?_set_ne (by omega), List.getElem?_map, revK_at xs n k i hi]
        by_cases hc : i < k ∨ n ≤ i + k
        · rw [if_pos hc, if_pos (by omega)]
        · rw [if_neg hc, if_neg (by omega)]
  · rw [List.getElem?_eq_none (by simp [revK_length]; omega), List.getElem?_eq_none (by simp [revK_length]; omega)]

set_option maxHeartbeats 2000000 in
theorem reverse_any {ty : Nat} (lo hi : Nat) (p : Option Addr) (n c : Nat) (xs : List Int) (w : World) (hn : n ≤ 1099511627776) (h : Own ty w lo hi (.slice p n c) n xs) :
    Calls Tryd.prog 61 #[.slice p n c] w fun e w' => e = .returned (.tuple #[]) ∧ Own ty w' lo hi (.slice p n c) n xs.reverse ∧ w.grownBy w' (Value.ownBlock (.slice p n c)) := by
  have hx := h.len
  obtain ⟨hown0, hhi⟩ := h
  rw [← revK_zero xs n hx] at hown0
  go_enter Tryd.func61, Tryd.ntmps61
  go_wp2
  go_loopw [2, 3] (fun i q wr => ∃ k : Nat, 2 * k ≤ n + 1 ∧ i = .int .i64 k ∧ q = .int .i64 ((n : Int) - 1 - k) ∧ wr.ownsRow lo ty 1 (.slice p n c) n ((revK xs n k).map (Value.int .u8)) ∧ w.grownBy wr (Value.ownBlock (.slice p n c)))
    (fun i _ _ => n + 1 - (intOf i).toNat)
  case atStart => exact ⟨0, by omega, rfl, by go_num, hown0, World.grownBy.refl _ _⟩
  case round =>
    clear hown0
    obtain ⟨k, hk, rfl, rfl, hown, hgr⟩ := hrel
    by_cases hlt : 2 * k + 1 < n
    · obtain ⟨j, hj⟩ : ∃ j : Nat, j + k + 1 = n := ⟨n - 1 - k, by omega⟩
      have hij : ((n : Int) - 1 - (k : Int)) = (j : Int) := by omega
      have hkj : k < j := by omega
      rw [hij]
      clear hij
      obtain ⟨g, rfl⟩ := owns_at hown (by omega)
      have c1 : wr.cell? ⟨g, k, none⟩ = some (.int .u8 (xs.getD k 0)) := by
        rw [hown.cellAt k (by omega), List.getElem?_map, revK_at xs n k k (by omega), if_neg (by omega)]; rfl
      have c2 : wr.cell? ⟨g, j, none⟩ = some (.int .u8 (xs.getD j 0)) := by
        rw [hown.cellAt j (by omega), List.getElem?_map, revK_at xs n k j (by omega), if_neg (by omega)]; rfl
      have f1 := hown.frozenAt k
      have f2 := hown.frozenAt j
      have st1 := hown.stored k (.int .u8 (xs.getD j 0))
      have st2 := st1.1.stored j (.int .u8 (xs.getD k 0))
      rw [revK_step xs n k j hj hkj] at st2
      have hgr2 := grown_trans (grown_trans hgr st1.2) st2.2
      obtain ⟨u, hu⟩ : ∃ u, u = xs.getD k 0 := ⟨_, rfl⟩
      obtain ⟨v, hv⟩ : ∃ v, v = xs.getD j 0 := ⟨_, rfl⟩
      rw [← hu] at c1 st2 hgr2
      rw [← hv] at c2 st2 hgr2
      clear st1 hu hv hown hgr
      go_wp2
      go_region
      all_goals
        go_wp2
        go_roundw
        case rel => exact ⟨k + 1, by omega, by go_num, by go_num, st2.1, ⟨hgr2.os, hgr2.tape, hgr2.output, hgr2.size, hgr2.block⟩⟩
        case measure => simp [intOf]; omega
    · rw [revK_end xs n k hx (by omega)] at hown
      have c1 : ¬ (k : Int) < (n : Int) - 1 - (k : Int) := by omega
      go_wp2
      go_end0
      exact ⟨rfl, ⟨hown, hhi⟩, hgr⟩

end Go.Proofs.YtepbidaoloplbaaDoor

namespace Go.Proofs.YtepbidaoloplbaaDoor
open Go.RowKit

/-- Four bytes, the high ones first. -/
def four (x0 x1 x2 x3 : Nat) : Nat := ((x0 * 256 + x1) * 256 + x2) * 256 + x3
def fours (x0 x1 x2 x3 : Nat) : Nat → Nat
  | 0 => 0
  | 1 => x0
  | 2 => x0 * 256 + x1
  | 3 => (x0 * 256 + x1) * 256 + x2
  | _ => four x0 x1 x2 x3

theorem or_byte {q x : Nat} (hq : q < 16777216) (hx : x < 256) : bits .or .u32 ((q : Int) * 256) (x : Int) = ((q * 256 + x : Nat) : Int) := by
  have e : (q : Int) * 256 = ((q * 256 : Nat) : Int) := by omega
  rw [e, u32_or _ _ (by omega) (by omega)]
  have := Nat.two_pow_add_eq_or_of_lt (i := 8) hx q
  rw [Nat.mul_comm q]
  show ((2 ^ 8 * q ||| x : Nat) : Int) = _
  rw [← this]

set_option maxRecDepth 100000 in
set_option maxHeartbeats 1000000 in
theorem readGreat_any (w : World) (x0 x1 x2 x3 : Nat) (h0 : x0 < 256) (h1 : x1 < 256) (h2 : x2 < 256) (h3 : x3 < 256) :
    Calls Tryd.prog 56 #[.agg #[.int .u8 x0, .int .u8 x1, .int .u8 x2, .int .u8 x3], .bool true] w fun e w' => e = .returned (.int .i64 (four x0 x1 x2 x3 : Nat)) ∧ Below w.heap.size w w' := by
  have i0 : ∀ w : World, (Instr.index 78 (.agg #[.int .u8 x0, .int .u8 x1, .int .u8 x2, .int .u8 x3]) (.int .i64 0)).run Tryd.prog w = .ok (.int .u8 x0) w := fun _ => by kernel_rfl
  have i1 : ∀ w : World, (Instr.index 78 (.agg #[.int .u8 x0, .int .u8 x1, .int .u8 x2, .int .u8 x3]) (.int .i64 1)).run Tryd.prog w = .ok (.int .u8 x1) w := fun _ => by kernel_rfl
  have i2 : ∀ w : World, (Instr.index 78 (.agg #[.int .u8 x0, .int .u8 x1, .int .u8 x2, .int .u8 x3]) (.int .i64 2)).run Tryd.prog w = .ok (.int .u8 x2) w := fun _ => by kernel_rfl
  have i3 : ∀ w : World, (Instr.index 78 (.agg #[.int .u8 x0, .int .u8 x1, .int .u8 x2, .int .u8 x3]) (.int .i64 3)).run Tryd.prog w = .ok (.int .u8 x3) w := fun _ => by kernel_rfl
  go_enter Tryd.func56, Tryd.ntmps56
  go_wp2_with (fail)
  go_loop [5, 13] (fun q i => ∃ (k r : Nat), k ≤ 4 ∧ i = .int .i64 k ∧ q = .int .u32 r ∧ r = fours x0 x1 x2 x3 k) (fun _ i => 4 - (intOf i).toNat)
  case atStart => exact ⟨0, 0, by omega, rfl, rfl, rfl⟩
  case round =>
    obtain ⟨k, r, hk, rfl, rfl, hr⟩ := hrel
    have hk5 : k = 0 ∨ k = 1 ∨ k = 2 ∨ k = 3 ∨ k = 4 := by omega
    rcases hk5 with rfl | rfl | rfl | rfl | rfl
    · have hb : r < 16777216 := by simp only [fours] at hr; omega
      have ho := or_byte hb h0
      have HN : Hid (r * 256 + x0 = fours x0 x1 x2 x3 1) := by simp only [Hid, fours] at hr ⊢; omega
      clear hr
      go_wp2
      go_round
      case rel => exact ⟨1, _, by omega, rfl, by simp, HN.out⟩
      case measure => simp [intOf]
    · have hb : r < 16777216 := by simp only [fours] at hr; omega
      have ho := or_byte hb h1
      have HN : Hid (r * 256 + x1 = fours x0 x1 x2 x3 2) := by simp only [Hid, fours] at hr ⊢; omega
      clear hr
      go_wp2
      go_round
      case rel => exact ⟨2, _, by omega, rfl, by simp, HN.out⟩
      case measure => simp [intOf]
    · have hb : r < 16777216 := by simp only [fours] at hr; omega
      have ho := or_byte hb h2
      have HN : Hid (r * 256 + x2 = fours x0 x1 x2 x3 3) := by simp only [Hid, fours] at hr ⊢; omega
      clear hr
      go_wp2
      go_round
      case rel => exact ⟨3, _, by omega, rfl, by simp, HN.out⟩
      case measure => simp [intOf]
    · have hb : r < 16777216 := by simp only [fours] at hr; omega
      have ho := or_byte hb h3
      have HN : Hid (r * 256 + x3 = fours x0 x1 x2 x3 4) := by simp only [Hid, fours, four] at hr ⊢; omega
      clear hr
      go_wp2
      go_round
      case rel => exact ⟨4, _, by omega, rfl, by simp, HN.out⟩
      case measure => simp [intOf]
    · have hb : r < 4294967296 := by simp only [fours, four] at hr; omega
      have HN : Hid (r = four x0 x1 x2 x3) := hr
      clear hr
      go_wp2
      go_ret
      rw [HN.out]
      exact ⟨rfl, (Below.refl _ _).alloc (Nat.le_refl _) _⟩

theorem owns_four (w : World) (ty : Nat) (x0 x1 x2 x3 : Int) :
    Own ty (w.alloc (.cells #[.int .u8 x0, .int .u8 x1, .int .u8 x2, .int .u8 x3] ty)) w.heap.size (w.heap.size + 1) (.slice (some ⟨w.heap.size, 0, none⟩) 4 4) 4 [x0, x1, x2, x3] := by
  refine ⟨⟨rfl, .inr ⟨w.heap.size, 4, _, rfl, Nat.le_refl _, heap_alloc_new w _, Nat.le_refl _, by unfold maxLen; omega, rfl, rfl⟩⟩, ?_⟩
  intro k hk
  simp [Value.ownBlock] at hk
  omega

set_option maxRecDepth 100000 in
set_option maxHeartbeats 1000000 in
theorem readLittle_any (w : World) (x0 x1 x2 x3 : Nat) (h0 : x0 < 256) (h1 : x1 < 256) (h2 : x2 < 256) (h3 : x3 < 256) :
    Calls Tryd.prog 56 #[.agg #[.int .u8 x0, .int .u8 x1, .int .u8 x2, .int .u8 x3], .bool false] w fun e w' => e = .returned (.int .i64 (four x3 x2 x1 x0 : Nat)) ∧ Below w.heap.size w w' := by
  have i0 : ∀ w : World, (Instr.index 78 (.agg #[.int .u8 x3, .int .u8 x2, .int .u8 x1, .int .u8 x0]) (.int .i64 0)).run Tryd.prog w = .ok (.int .u8 x3) w := fun _ => by kernel_rfl
  have i1 : ∀ w : World, (Instr.index 78 (.agg #[.int .u8 x3, .int .u8 x2, .int .u8 x1, .int .u8 x0]) (.int .i64 1)).run Tryd.prog w = .ok (.int .u8 x2) w := fun _ => by kernel_rfl
  have i2 : ∀ w : World, (Instr.index 78 (.agg #[.int .u8 x3, .int .u8 x2, .int .u8 x1, .int .u8 x0]) (.int .i64 2)).run Tryd.prog w = .ok (.int .u8 x1) w := fun _ => by kernel_rfl
  have i3 : ∀ w : World, (Instr.index 78 (.agg #[.int .u8 x3, .int .u8 x2, .int .u8 x1, .int .u8 x0]) (.int .i64 3)).run Tryd.prog w = .ok (.int .u8 x0) w := fun _ => by kernel_rfl
  go_enter Tryd.func56, Tryd.ntmps56
  go_wp2_with (fail)
  have hO := owns_four w 78 x0 x1 x2 x3
  refine (reverse_any _ _ _ 4 4 _ _ (by omega) hO).mono ?_
  rintro e w1 ⟨rfl, ho, hg⟩
  have hb1 : Below w.heap.size w w1 := ((Below.refl _ _).alloc (Nat.le_refl _) _).grown hg (by simp) (fun k hk => (hO.1.lt k hk).1)
  have c0 : w1.cell? ⟨w.heap.size, 0, none⟩ = some (.int .u8 x3) := ho.1.cellAt 0 (by omega)
  have c1 : w1.cell? ⟨w.heap.size, 1, none⟩ = some (.int .u8 x2) := ho.1.cellAt 1 (by omega)
  have c2 : w1.cell? ⟨w.heap.size, 2, none⟩ = some (.int .u8 x1) := ho.1.cellAt 2 (by omega)
  have c3 : w1.cell? ⟨w.heap.size, 3, none⟩ = some (.int .u8 x0) := ho.1.cellAt 3 (by omega)
  clear hO ho hg
  go_wp2_with (fail)
  go_loop [5, 13] (fun q i => ∃ (k r : Nat), k ≤ 4 ∧ i = .int .i64 k ∧ q = .int .u32 r ∧ r = fours x3 x2 x1 x0 k) (fun _ i => 4 - (intOf i).toNat)
  case atStart => exact ⟨0, 0, by omega, rfl, rfl, rfl⟩
  case round =>
    obtain ⟨k, r, hk, rfl, rfl, hr⟩ := hrel
    have hk5 : k = 0 ∨ k = 1 ∨ k = 2 ∨ k = 3 ∨ k = 4 := by omega
    rcases hk5 with rfl | rfl | rfl | rfl | rfl
    · have hb : r < 16777216 := by simp only [fours] at hr; omega
      have ho := or_byte hb h3
      have HN : Hid (r * 256 + x3 = fours x3 x2 x1 x0 1) := by simp only [Hid, fours] at hr ⊢; omega
      clear hr
      go_wp2
      go_round
      case rel => exact ⟨1, _, by omega, rfl, by simp, HN.out⟩
      case measure => simp [intOf]
    · have hb : r < 16777216 := by simp only [fours] at hr; omega
      have ho := or_byte hb h2
      have HN : Hid (r * 256 + x2 = fours x3 x2 x1 x0 2) := by simp only [Hid, fours] at hr ⊢; omega
      clear hr
      go_wp2
      go_round
      case rel => exact ⟨2, _, by omega, rfl, by simp, HN.out⟩
      case measure => simp [intOf]
    · have hb : r < 16777216 := by simp only [fours] at hr; omega
      have ho := or_byte hb h1
      have HN : Hid (r * 256 + x1 = fours x3 x2 x1 x0 3) := by simp only [Hid, fours] at hr ⊢; omega
      clear hr
      go_wp2
      go_round
      case rel => exact ⟨3, _, by omega, rfl, by simp, HN.out⟩
      case measure => simp [intOf]
    · have hb : r < 16777216 := by simp only [fours] at hr; omega
      have ho := or_byte hb h0
      have HN : Hid (r * 256 + x0 = fours x3 x2 x1 x0 4) := by simp only [Hid, fours, four] at hr ⊢; omega
      clear hr
      go_wp2
      go_round
      case rel => exact ⟨4, _, by omega, rfl, by simp, HN.out⟩
      case measure => simp [intOf]
    · have hb : r < 4294967296 := by simp only [fours, four] at hr; omega
      have HN : Hid (r = four x3 x2 x1 x0) := hr
      clear hr
      go_wp2
      go_ret
      rw [HN.out]
      exact ⟨rfl, hb1⟩

end Go.Proofs.YtepbidaoloplbaaDoor
