/-
  Rows of words of 64 bits in a block that the call made, by their parts; what tells sums (the closure of sums), math/bits' Mul64 and Add64 at this program. Conditions: each law's own.
  What the program's sums, and the closure that it answers, do. Conditions: words of 64 bits.
  What the program's fieldP, less, rest, plus and minus answer, by numbers of four parts of 64 bits. Conditions: numbers below 2 to the 256th (plus: their sum too; minus: numbers below p).
  What the program's less answers. Condition: numbers below 2 to the 256th.
  What the program's rest answers. Condition: a number below 2 to the 256th.
  Parts of numbers, and an array of four that is indexed.
  A region that draws its order, with two calls, one behind the other, and two variables that are made at any time: the ways meet again behind them. Conditions: each law's own.
  What the program's plus and minus answer. Conditions: numbers from 0 on whose sum is below 2 to the 256th; numbers below p.
-/
import Derived.Test.YtdjdanpicbaieaaGreatDoorParx20
import Derived.Test.YtdjdanpicbaieaaGreatDoorParx19
import Derived.Shelf.Bits.Mul64
import Derived.Shelf.Spec.BitsCarry
namespace Go.Proofs.YtdjdanpicbaieaaGreatDoor
open Go.RowKit

def uV (f : Nat → Int) (n : Nat) : List Value := (zL f n).map (Value.int .u64)
theorem uV_length (f : Nat → Int) (n : Nat) : (uV f n).length = n := by simp [uV, zL]
theorem uV_get (f : Nat → Int) {n k : Nat} (h : k < n) : (uV f n)[k]? = some (.int .u64 (f k)) := by simp [uV, zL, h]
theorem uV_one (f : Nat → Int) (n : Nat) : ∀ v ∈ uV f n, v.oneCell' = true := by
  intro v hv
  simp only [uV, List.mem_map] at hv
  obtain ⟨x, _, rfl⟩ := hv
  rfl
theorem uV_set (f : Nat → Int) (n k : Nat) (v : Int) : (uV f n).set k (.int .u64 v) = uV (fun i => if i = k then v else f i) n := by
  apply List.ext_getElem?
  intro j
  by_cases hj : j < n
  · by_cases hk : k = j
    · subst hk
      rw [List.getElem?_set_self (by rw [uV_length]; exact hj), uV_get _ hj]
      simp
    · rw [List.getElem?_set_ne hk, uV_get _ hj, uV_get _ hj]
      simp [Ne.symm hk]
  · rw [List.getElem?_eq_none (by simp [uV_length]; omega), List.getElem?_eq_none (by simp [uV_length]; omega)]
theorem uV_congr {f g : Nat → Int} {n : Nat} (h : ∀ i, i < n → f i = g i) : uV f n = uV g n := by
  have e : zL f n = zL g n := List.map_congr_left fun i hi => h i (List.mem_range.1 hi)
  rw [uV, e, uV]
/-- n ints in a block g of their own. -/
def RowU (ty n : Nat) (w : World) (lo g : Nat) (f : Nat → Int) : Prop := w.ownsRow lo ty 1 (.slice (some ⟨g, 0, none⟩) n n) n (uV f n)
section
variable {ty n : Nat} {w w' : World} {lo g : Nat} {f : Nat → Int}
theorem RowU.cell (h : RowU ty n w lo g f) (i : Nat) (hi : i < n) : w.cell? ⟨g, i, none⟩ = some (.int .u64 (f i)) := by
  have h' : w.ownsRow lo ty 1 (.slice (some ⟨g, 0, none⟩) n n) n (uV f n) := h
  rw [h'.cellAt i (by omega), uV_get _ hi]
theorem RowU.frozen (h : RowU ty n w lo g f) (i : Nat) : w.frozen? ⟨g, i, none⟩ = false := World.ownsRow.frozenAt h i
theorem RowU.lt (h : RowU ty n w lo g f) : lo ≤ g ∧ g < w.heap.size := World.ownsRow.lt h g rfl
theorem RowU.below (h : RowU ty n w lo g f) (hb : Below w.heap.size w w') : RowU ty n w' lo g f := owns_below h hb
theorem RowU.kept {r : Nat} (h : RowU ty n w lo g f) (hg : w.grownBy w' (some r)) (hne : g ≠ r) : RowU ty n w' lo g f := World.ownsRow.kept h hg (.inr (by simp [Value.ownBlock]; exact fun e => hne e))
theorem RowU.set (h : RowU ty n w lo g f) (k : Nat) (v : Int) : RowU ty n (w.setCell ⟨g, k, none⟩ (.int .u64 v)) lo g (fun i => if i = k then v else f i) ∧ w.grownBy (w.setCell ⟨g, k, none⟩ (.int .u64 v)) (some g) := by
  have st := World.ownsRow.stored h k (.int .u64 v)
  rw [uV_set] at st
  exact st
theorem RowU.congr {f' : Nat → Int} (h : RowU ty n w lo g f) (he : ∀ i, i < n → f i = f' i) : RowU ty n w lo g f' := by
  unfold RowU at *
  rw [← uV_congr he]
  exact h
theorem RowU.made (w : World) (ty n lo : Nat) (f : Nat → Int) (hn : n ≤ 1000) (hlo : lo ≤ w.heap.size) : RowU ty n (w.alloc (.cells (uV f n).toArray ty)) lo w.heap.size f := by
  refine ⟨by simp [uV_length], .inr ⟨w.heap.size, n, _, rfl, hlo, heap_alloc_new w _, Nat.le_refl _, by unfold maxLen; omega, by simp [uV_length], ?_⟩⟩
  rw [List.take_of_length_le (by simp [uV_length])]
theorem RowU.range (h : RowU ty n w lo g f) : w.rangeAt g 0 (uV f n) := by
  intro j v hv
  have hj : j < n := by have := (List.getElem?_eq_some_iff.1 hv).1; rwa [uV_length] at this
  rw [Nat.zero_add, World.ownsRow.cellAt h j (by omega), hv]
theorem RowU.there (h : RowU ty n w lo g f) : w.there g 0 n := by
  intro j hj
  rw [Nat.zero_add, h.cell j hj]
  exact ⟨rfl, h.frozen j⟩
theorem RowU.put {f' : Nat → Int} (h : RowU ty n w lo g f) : RowU ty n (w.setCells g 0 (uV f' n)) lo g f' ∧ w.grownBy (w.setCells g 0 (uV f' n)) (some g) := by
  have k := zPut (uV f' n) 0 w (uV f n) (by rw [uV_length]; omega) (uV_length f n) h
  refine ⟨?_, k.2⟩
  have k1 := k.1
  rw [List.take_zero, List.nil_append] at k1
  exact k1
end
theorem infoU4 : (Tryz.prog.info? 84).map (fun i => (i.zero, i.size)) = some (some (.agg (uV (fun _ => 0) 4).toArray), 4) := by kernel_rfl

/-- The value of a number of four parts. -/
def uP (z : Int) : Value := .agg (uV (numU z) 4).toArray

set_option maxRecDepth 100000 in
set_option maxHeartbeats 2000000 in
theorem mul64_any (x y : Nat) (hx : x < 18446744073709551616) (hy : y < 18446744073709551616) (w : World) :
    Calls Tryz.prog 134 #[.int .u64 x, .int .u64 y] w fun e w' => e = .returned (.tuple #[.int .u64 ((x * y / 18446744073709551616 : Nat) : Int), .int .u64 ((x * y % 18446744073709551616 : Nat) : Int)]) ∧ w' = w := by
  obtain ⟨bd, bt, bw, hhi⟩ := Lib.mul64_hi x y hx hy
  have ba := Lib.half_mul_le (a := x / 4294967296) (b := y / 4294967296) (by omega) (by omega)
  have bb := Lib.half_mul_le (a := x / 4294967296) (b := y % 4294967296) (by omega) (by omega)
  have bc := Lib.half_mul_le (a := x % 4294967296) (b := y / 4294967296) (by omega) (by omega)
  have ba' : x / 4294967296 * (y / 4294967296) < 18446744073709551616 := by omega
  have bb' : x / 4294967296 * (y % 4294967296) < 18446744073709551616 := by omega
  have bc' : x % 4294967296 * (y / 4294967296) < 18446744073709551616 := by omega
  have bh1 : x / 4294967296 * (y / 4294967296) + (x / 4294967296 * (y % 4294967296) + x % 4294967296 * (y % 4294967296) / 4294967296) / 4294967296 < 18446744073709551616 := by omega
  have bh : x / 4294967296 * (y / 4294967296) + (x / 4294967296 * (y % 4294967296) + x % 4294967296 * (y % 4294967296) / 4294967296) / 4294967296 + ((x / 4294967296 * (y % 4294967296) + x % 4294967296 * (y % 4294967296) / 4294967296) % 4294967296 + x % 4294967296 * (y / 4294967296)) / 4294967296 < 18446744073709551616 := by omega
  go_enter Tryz.func134, Tryz.ntmps134
  go_wp2
  simp only [Mul64.maskN x hx, Mul64.maskN y hy, Mul64.divN, Mul64.mulN, Mul64.addN, Mul64.wrapN _ bd, Mul64.wrapN _ bb', Mul64.wrapN _ bt, Mul64.maskN _ bt, Mul64.wrapN _ bc', Mul64.wrapN _ bw, Mul64.wrapN _ ba', Mul64.wrapN _ bh1, Mul64.wrapN _ bh, Mul64.wrapM (x * y)]
  rw [hhi]
  go_ret2
  exact ⟨rfl, rfl⟩
theorem add64_run (x y c : Nat) (hc : c ≤ 1) (w : World) :
    (callFunc 135 #[.int .u64 x, .int .u64 y, .int .u64 c]).run Tryz.prog w =
      .ok (.value (.tuple #[.int .u64 (((x + y + c) % 18446744073709551616 : Nat) : Int), .int .u64 (((x + y + c) / 18446744073709551616 : Nat) : Int)])) w := by
  rw [run_callFunc_extern Tryz.func135 (by kernel_rfl) (by kernel_rfl) (by kernel_rfl) (e := add64Entry) (by kernel_rfl), run_add64 x y c (by omega) (by omega) (by omega) (by omega)]
  simp only [Result.andThen]
  congr 5 <;> omega
/-- Add64 of whole numbers, nothing carried in. -/
theorem add64_int (x y s v : Int) (hx : 0 ≤ x) (hy : 0 ≤ y) (hs : (x + y) % 18446744073709551616 = s) (hv : (x + y) / 18446744073709551616 = v) (w : World) :
    (callFunc 135 #[.int .u64 x, .int .u64 y, .int .u64 0]).run Tryz.prog w = .ok (.value (.tuple #[.int .u64 s, .int .u64 v])) w := by
  obtain ⟨a, rfl⟩ : ∃ a : Nat, x = a := ⟨x.toNat, by omega⟩
  obtain ⟨b, rfl⟩ : ∃ b : Nat, y = b := ⟨y.toNat, by omega⟩
  have h := add64_run a b 0 (by omega) w
  have e1 : (((a + b + 0) % 18446744073709551616 : Nat) : Int) = s := by omega
  have e2 : (((a + b + 0) / 18446744073709551616 : Nat) : Int) = v := by omega
  rw [e1, e2] at h
  exact h
theorem mul64_int (x y h l : Int) (hx : 0 ≤ x ∧ x < 18446744073709551616) (hy : 0 ≤ y ∧ y < 18446744073709551616) (hh : x * y / 18446744073709551616 = h) (hl : x * y % 18446744073709551616 = l) (w : World) :
    Calls Tryz.prog 134 #[.int .u64 x, .int .u64 y] w fun e w' => e = .returned (.tuple #[.int .u64 h, .int .u64 l]) ∧ w' = w := by
  obtain ⟨a, rfl⟩ : ∃ a : Nat, x = a := ⟨x.toNat, by omega⟩
  obtain ⟨b, rfl⟩ : ∃ b : Nat, y = b := ⟨y.toNat, by omega⟩
  have k := mul64_any a b (by omega) (by omega) w
  have e1 : ((a * b / 18446744073709551616 : Nat) : Int) = h := by rw [← hh, Int.natCast_ediv, Int.natCast_mul]; rfl
  have e2 : ((a * b % 18446744073709551616 : Nat) : Int) = l := by rw [← hl, Int.natCast_emod, Int.natCast_mul]; rfl
  rw [e1, e2] at k
  exact k

end Go.Proofs.YtdjdanpicbaieaaGreatDoor

namespace Go.Proofs.YtdjdanpicbaieaaGreatDoor
open Go.RowKit

/-- What sums answers: the closure that keeps its word in block g. -/
def tellV (g : Nat) : Value := .func (.func 133) #[] #[.pointer (some ⟨g, 0, none⟩)]

set_option maxRecDepth 100000 in
set_option maxHeartbeats 2000000 in
theorem sums_any (c : Int) (w : World) :
    Calls Tryz.prog 99 #[.int .u64 c] w fun e w' => e = .returned (tellV w.heap.size) ∧ w' = w.alloc (.cells #[.int .u64 c] 82) := by
  have hmf : ∀ (fn : Fn) (first cap : Array Value) (w : World), (Instr.makeFunc fn first cap).run Tryz.prog w = .ok (.func fn first cap) w := fun _ _ _ _ => rfl
  go_enter Tryz.func99, Tryz.ntmps99
  go_wp2_with (fail)
  go_ret
  exact ⟨rfl, rfl⟩

set_option maxRecDepth 100000 in
set_option maxHeartbeats 4000000 in
theorem tell_any (g : Nat) (x y z c r o : Int) (w : World) (hx : 0 ≤ x ∧ x < bU) (hy : 0 ≤ y ∧ y < bU) (hz : 0 ≤ z ∧ z < bU) (hc : 0 ≤ c ∧ c < bU) (hr : (x + y * z + c) % bU = r) (ho : (x + y * z + c) / bU = o)
    (hcell : w.cell? ⟨g, 0, none⟩ = some (.int .u64 c)) (hfr : w.frozen? ⟨g, 0, none⟩ = false) :
    Calls Tryz.prog 133 #[.int .u64 x, .int .u64 y, .int .u64 z, .pointer (some ⟨g, 0, none⟩)] w fun e w' => e = .returned (.int .u64 r) ∧ w' = w.setCell ⟨g, 0, none⟩ (.int .u64 o) := by
  have ht := termU hx hy hz
  have hyz : 0 ≤ y * z := Int.mul_nonneg hy.1 hz.1
  unfold bU at hx hy hz hc hr ho ht
  obtain ⟨p, hp⟩ : ∃ p, p = y * z := ⟨_, rfl⟩
  obtain ⟨h, hh⟩ : ∃ h, h = p / 18446744073709551616 := ⟨_, rfl⟩
  obtain ⟨l, hl⟩ : ∃ l, l = p % 18446744073709551616 := ⟨_, rfl⟩
  obtain ⟨l2, hl2⟩ : ∃ l2, l2 = (l + x) % 18446744073709551616 := ⟨_, rfl⟩
  obtain ⟨f1, hf1⟩ : ∃ f1, f1 = (l + x) / 18446744073709551616 := ⟨_, rfl⟩
  obtain ⟨f2, hf2⟩ : ∃ f2, f2 = (l2 + c) / 18446744073709551616 := ⟨_, rfl⟩
  rw [← hp] at hr ho ht hyz
  have M := mul64_int y z h l hy hz (by rw [← hp, hh]) (by rw [← hp, hl])
  have A1 := add64_int l x l2 f1 (by omega) hx.1 hl2.symm hf1.symm
  have A2 := add64_int l2 c r f2 (by omega) hc.1 (by omega) hf2.symm
  obtain ⟨s, hs⟩ : ∃ s, s = h + f1 := ⟨_, rfl⟩
  have es : h + f1 = s := hs.symm
  have eo : s + f2 = o := by omega
  have ls : 0 ≤ s ∧ s < 18446744073709551616 := by omega
  have lo : 0 ≤ o ∧ o < 18446744073709551616 := by omega
  have ws : IntKind.u64.wrap (h + f1) = s := by rw [IntKind.wrap_u64]; omega
  have wo : IntKind.u64.wrap (s + f2) = o := by rw [IntKind.wrap_u64]; omega
  clear hp hh hl hl2 hf1 hf2 hs hr ho ht hyz
  go_enter Tryz.func133, Tryz.ntmps133
  go_wp2_with (fail)
  refine (M _).mono ?_
  rintro e w1 ⟨rfl, rfl⟩
  go_wp2_with (fail)
  go_ret
  exact ⟨rfl, rfl⟩

end Go.Proofs.YtdjdanpicbaieaaGreatDoor

namespace Go.Proofs.YtdjdanpicbaieaaGreatDoor
open Go.RowKit

theorem xor_all (b : Int) (h0 : 0 ≤ b) (h1 : b < 18446744073709551616) : bits .xor .u64 18446744073709551615 b = 18446744073709551615 - b := by
  obtain ⟨n, rfl⟩ : ∃ n : Nat, b = n := ⟨b.toNat, by omega⟩
  have h := bits_xor_u64_nat 18446744073709551615 n (by omega) (by omega)
  have e : 18446744073709551615 ^^^ n = 18446744073709551615 - n := by
    apply Nat.eq_of_testBit_eq
    intro i
    have h1 := Nat.testBit_two_pow_sub_one 64 i
    have h2 := Nat.testBit_two_pow_sub_succ (n := 64) (x := n) (by omega) i
    have e1 : (2 : Nat) ^ 64 - 1 = 18446744073709551615 := by decide
    have e2 : (2 : Nat) ^ 64 - (n + 1) = 18446744073709551615 - n := by omega
    rw [e1] at h1
    rw [e2] at h2
    rw [Nat.testBit_xor, h1, h2]
    by_cases hi : i < 64
    · simp [hi]
    · have : n.testBit i = false := Nat.testBit_lt_two_pow (Nat.lt_of_lt_of_le (show n < 2 ^ 64 by omega) (Nat.pow_le_pow_right (by omega) (by omega)))
      simp [hi, this]
  rw [e] at h
  refine Eq.trans h ?_
  omega
def mixU (d f : Nat → Int) (k i : Nat) : Int := if i < k then d i else f i
theorem mixU_at (d f : Nat → Int) (k : Nat) : mixU d f k k = f k := by rw [mixU, if_neg (by omega)]
theorem mixU_zero (d f : Nat → Int) (i : Nat) : mixU d f 0 i = f i := by rw [mixU, if_neg (by omega)]
theorem mixU_end (d f : Nat → Int) {n i : Nat} (h : i < n) : mixU d f n i = d i := by rw [mixU, if_pos h]
theorem mixU_step (d f : Nat → Int) (k i : Nat) : (if i = k then d k else mixU d f k i) = mixU d f (k + 1) i := by
  unfold mixU
  by_cases h : i = k
  · subst h; rw [if_pos rfl, if_pos (by omega)]
  · rw [if_neg h]
    by_cases h2 : i < k
    · rw [if_pos h2, if_pos (by omega)]
    · rw [if_neg h2, if_neg (by omega)]
/-- Three rows of four parts, made one behind the other. -/
theorem rows3 (w : World) (f g h : Nat → Int) {A B Z : Array Value} (hA : A = (uV f 4).toArray) (hB : B = (uV g 4).toArray) (hZ : Z = (uV h 4).toArray) :
    RowU 84 4 (((w.alloc (.cells A 84)).alloc (.cells B 84)).alloc (.cells Z 84)) w.heap.size w.heap.size f ∧ RowU 84 4 (((w.alloc (.cells A 84)).alloc (.cells B 84)).alloc (.cells Z 84)) w.heap.size (w.heap.size + 1) g ∧ RowU 84 4 (((w.alloc (.cells A 84)).alloc (.cells B 84)).alloc (.cells Z 84)) w.heap.size (w.heap.size + 1 + 1) h ∧ Below w.heap.size w (((w.alloc (.cells A 84)).alloc (.cells B 84)).alloc (.cells Z 84)) ∧ (((w.alloc (.cells A 84)).alloc (.cells B 84)).alloc (.cells Z 84)).heap.size = w.heap.size + 1 + 1 + 1 := by
  subst hA hB hZ
  have m0 := RowU.made w 84 4 w.heap.size f (by decide) (Nat.le_refl _)
  obtain ⟨wa, hwa⟩ : ∃ wa, wa = w.alloc (.cells (uV f 4).toArray 84) := ⟨_, rfl⟩
  rw [← hwa] at m0 ⊢
  have sa : wa.heap.size = w.heap.size + 1 := by rw [hwa]; simp
  have ba : Below w.heap.size w wa := by rw [hwa]; exact (Below.refl _ _).alloc (Nat.le_refl _) _
  have m1 := RowU.made wa 84 4 w.heap.size g (by decide) (by omega)
  have b1 : Below wa.heap.size wa (wa.alloc (.cells (uV g 4).toArray 84)) := (Below.refl _ _).alloc (Nat.le_refl _) _
  rw [sa] at m1
  obtain ⟨wb, hwb⟩ : ∃ wb, wb = wa.alloc (.cells (uV g 4).toArray 84) := ⟨_, rfl⟩
  rw [← hwb] at m1 b1 ⊢
  have sb : wb.heap.size = w.heap.size + 1 + 1 := by rw [hwb]; simp [sa]
  have m2 := RowU.made wb 84 4 w.heap.size h (by decide) (by omega)
  have b2 : Below wb.heap.size wb (wb.alloc (.cells (uV h 4).toArray 84)) := (Below.refl _ _).alloc (Nat.le_refl _) _
  rw [sb] at m2
  exact ⟨(m0.below b1).below b2, m1.below b2, m2, below_on (below_on ba b1) b2, by simp [sb]⟩
theorem overRow (wb : World) (lo : Nat) (c : Int) (h : lo ≤ wb.heap.size) : RowU 82 1 (wb.alloc (.cells #[.int .u64 c] 82)) lo wb.heap.size (fun _ => c) ∧ Below wb.heap.size wb (wb.alloc (.cells #[.int .u64 c] 82)) :=
  ⟨RowU.made wb 82 1 lo (fun _ => c) (by decide) h, (Below.refl _ _).alloc (Nat.le_refl _) _⟩
theorem RowU.one {w : World} {lo g : Nat} {c : Int} (h : RowU 82 1 w lo g (fun _ => c)) (o : Int) : RowU 82 1 (w.setCell ⟨g, 0, none⟩ (.int .u64 o)) lo g (fun _ => o) ∧ w.grownBy (w.setCell ⟨g, 0, none⟩ (.int .u64 o)) (some g) :=
  ⟨(h.set 0 o).1.congr fun i hi => by rw [if_pos (by omega)], (h.set 0 o).2⟩
theorem RowU.drew {ty n : Nat} {w : World} {lo g : Nat} {f : Nat → Int} (h : RowU ty n w lo g f) : RowU ty n w.drew lo g f := h.below (Below.refl _ _).drew
theorem sizeU {f : Nat → Int} : (Tryz.prog.info? 84).map (·.size) = some (uV f 4).length := by rw [uV_length]; exact (zero_of_info infoU4).2
theorem sizeU2 {f : Nat → Int} : (Tryz.prog.info? 84).map (·.size) = some (uV f 4).toArray.size := by
  have : (uV f 4).toArray.size = 4 := by simp [uV_length]
  rw [this]; exact (zero_of_info infoU4).2
theorem RowU.there2 {ty : Nat} {w : World} {lo g : Nat} {f f' : Nat → Int} (h : RowU ty 4 w lo g f) : w.there g 0 (uV f' 4).toArray.size := by
  have : (uV f' 4).toArray.size = 4 := by simp [uV_length]
  rw [this]; exact h.there
theorem uV_like {f g : Nat → Int} (h : ∀ i, i < 4 → f i = g i) : uV f 4 = uV g 4 := uV_congr h

/-- The number that lies in a block. -/
def numRow (w : World) (g : Nat) : Int := valU (fun i => match w.cell? ⟨g, i, none⟩ with | some (.int _ v) => v | _ => 0) 4
theorem RowU.num {ty : Nat} {w : World} {lo g : Nat} {f : Nat → Int} (h : RowU ty 4 w lo g f) : numRow w g = valU f 4 := valU_congr fun i hi => by rw [h.cell i hi]
/-- Two operations may come up now. -/
theorem anyT_two {P : Program} {ops : Array Oper} {Q : Exit → Act → World → Prop} {T S : World → Prop} {m : Nat} {i j : Nat} {o o' : Oper} {fuel : Nat} {listed : Array Bool} {a : Act} {w : World} (hr : Region.ready .any ops listed = [i, j]) (ho : ops[i]? = some o) (ho' : ops[j]? = some o')
    (h : ∀ K' : Act → World → Prop, Shut (∀ a w, T w → ((listed.setIfInBounds i true).getD m true = false → S w) → AnyT P ops Q T S m fuel (listed.setIfInBounds i true) a w → K' a w) → if Region.wanted o (yielded ops a.tmps) = true then Oper.wp P o a w K' Q else K' (a.put o.dst undef) w)
    (h' : ∀ K' : Act → World → Prop, Shut (∀ a w, T w → ((listed.setIfInBounds j true).getD m true = false → S w) → AnyT P ops Q T S m fuel (listed.setIfInBounds j true) a w → K' a w) → if Region.wanted o' (yielded ops a.tmps) = true then Oper.wp P o' a w K' Q else K' (a.put o'.dst undef) w) :
    AnyT P ops Q T S m (fuel + 1) listed a w := by
  refine ⟨fun e => absurd (hr.symm.trans e) (by simp), fun q hq => ?_⟩
  rw [hr, List.mem_cons, List.mem_singleton] at hq
  rcases hq with rfl | rfl
  · exact wpOp_step ho (fun K' hK => h K' (fun a w h0 h1 h2 => hK a w ⟨h0, h1, h2⟩))
  · exact wpOp_step ho' (fun K' hK => h' K' (fun a w h0 h1 h2 => hK a w ⟨h0, h1, h2⟩))

/-- Four rows: n, which is written, m, the result, and the word that goes over. -/
structure SumI (w : World) (lo Gn Gm Gr Go : Nat) (fn fm fr : Nat → Int) (c : Int) (wr : World) : Prop where
  n : RowU 84 4 wr lo Gn fn
  m : RowU 84 4 wr lo Gm fm
  r : RowU 84 4 wr lo Gr fr
  o : RowU 82 1 wr lo Go (fun _ => c)
  b : Below lo w wr
structure Apart4 (Gn Gm Gr Go : Nat) : Prop where
  nm : Gm ≠ Gn
  nr : Gr ≠ Gn
  no : Go ≠ Gn
  mo : Gm ≠ Go
  ro : Gr ≠ Go
  on : Gn ≠ Go
section
variable {w wr : World} {lo Gn Gm Gr Go : Nat} {fn fm fr : Nat → Int} {c : Int}
theorem SumI.drew (h : SumI w lo Gn Gm Gr Go fn fm fr c wr) : SumI w lo Gn Gm Gr Go fn fm fr c wr.drew := ⟨h.n.drew, h.m.drew, h.r.drew, h.o.drew, h.b.drew⟩
theorem SumI.tell (h : SumI w lo Gn Gm Gr Go fn fm fr c wr) (d : Apart4 Gn Gm Gr Go) (o : Int) : SumI w lo Gn Gm Gr Go fn fm fr o (wr.setCell ⟨Go, 0, none⟩ (.int .u64 o)) := by
  have st := h.o.one o
  exact ⟨h.n.kept st.2 d.on, h.m.kept st.2 d.mo, h.r.kept st.2 d.ro, st.1, h.b.grown st.2 (Nat.le_trans h.o.lt.1 (Nat.le_of_lt h.o.lt.2)) (fun k hk => by cases hk; exact h.o.lt.1)⟩
theorem SumI.store (h : SumI w lo Gn Gm Gr Go fn fm fr c wr) (d : Apart4 Gn Gm Gr Go) (k : Nat) (v : Int) : SumI w lo Gn Gm Gr Go (fun i => if i = k then v else fn i) fm fr c (wr.setCell ⟨Gn, k, none⟩ (.int .u64 v)) := by
  have st := h.n.set k v
  exact ⟨st.1, h.m.kept st.2 d.nm, h.r.kept st.2 d.nr, h.o.kept st.2 d.no, h.b.grown st.2 (Nat.le_trans h.o.lt.1 (Nat.le_of_lt h.o.lt.2)) (fun k hk => by cases hk; exact h.n.lt.1)⟩
theorem SumI.congr {f' : Nat → Int} (h : SumI w lo Gn Gm Gr Go fn fm fr c wr) (he : ∀ i, i < 4 → fn i = f' i) : SumI w lo Gn Gm Gr Go f' fm fr c wr := ⟨h.n.congr he, h.m, h.r, h.o, h.b⟩
end

theorem wpList_build_run {P : Program} {ops : Array Oper} {rest : List Oper} {o : Oper} {a : Act} {w : World} {Q : Exit → Act → World → Prop} (hgd : o.guard = none) (t : TypeId) (parts : Array (Nat × Operand)) (ho : o.op = .build t parts)
    (vs : Array (Nat × Value)) (hvs : (parts.map fun (i, x) => (i, a.eval x)) = vs) {v : Value} (hr : (Instr.build t vs).run P w = .ok v w) (h : wpList P ops Q rest (a.put o.dst v) w) : wpList P ops Q (o :: rest) a w :=
  wpList_plain hgd fun _ hK => by
    unfold Oper.wp execOp
    subst hvs
    simp only [ho, Sem.run_bind, Sem.run_pure, Result.andThen_ok, hr]
    exact hK _ _ h

set_option maxRecDepth 100000 in
set_option maxHeartbeats 2000000 in
theorem fieldP_any (w : World) : Calls Tryz.prog 130 #[] w fun e w' => e = .returned (uP fldP) ∧ Below w.heap.size w w' := by
  have hz := (zero_of_info infoU4).1
  have hbd : ∀ w, (Instr.build 84 #[(0, .int .u64 18446744073709551597), (1, .int .u64 18446744073709551615), (2, .int .u64 18446744073709551615), (3, .int .u64 9223372036854775807)]).run Tryz.prog w = .ok (.agg (uV (numU fldP) 4).toArray) w := fun w => run_build w 84 _ _ (by kernel_rfl)
  have m0 := RowU.made w 84 4 w.heap.size (fun _ => 0) (by decide) (Nat.le_refl _)
  have ba : Below w.heap.size w (w.alloc (.cells (uV (fun _ => 0) 4).toArray 84)) := (Below.refl _ _).alloc (Nat.le_refl _) _
  obtain ⟨Z, hZ⟩ : ∃ Z, Z = (uV (fun _ => 0) 4).toArray := ⟨_, rfl⟩
  rw [← hZ] at hz m0 ba
  unfold uP
  clear hZ
  have hp := m0.put (f' := numU fldP)
  have hth2 := m0.there2 (f' := numU fldP)
  have hbel := Below.grown ba hp.2 (Below.size ba) (fun k hk => by cases hk; exact Nat.le_refl _)
  have hld := run_loadVar_mid (P := Tryz.prog) _ w.heap.size 0 84 _ _ hp.1.range Tryz.underlying84 rfl sizeU
  have hone := uV_one (numU fldP) 4
  have hsz2 := sizeU2 (f := numU fldP)
  obtain ⟨Cs, hCs⟩ : ∃ Cs, Cs = uV (numU fldP) 4 := ⟨_, rfl⟩
  rw [← hCs] at hsz2 hth2 hbel hld hone hbd
  replace hCs : Hid (Cs = uV (numU fldP) 4) := hCs
  clear hp
  go_enter Tryz.func130, Tryz.ntmps130
  go_wp2_with (first | (refine wpList_build_run rfl 84 #[(0, .const (.int .u64 18446744073709551597)), (1, .const (.int .u64 18446744073709551615)), (2, .const (.int .u64 18446744073709551615)), (3, .const (.int .u64 9223372036854775807))] rfl #[(0, .int .u64 18446744073709551597), (1, .int .u64 18446744073709551615), (2, .int .u64 18446744073709551615), (3, .int .u64 9223372036854775807)] (by simp [Act.eval]) (hbd _) ?_) | (refine wpList_store_mid rfl 84 _ _ rfl w.heap.size 0 Cs.toArray rfl rfl hth2 hsz2 (all_oneCell_toArray hone) ?_))
  (try simp only [Exit.inBlock, Exit.then])
  refine bodyPost_ret (v := .agg Cs.toArray) ?_ rfl ⟨by rw [hCs.out], hbel⟩
  simp [results, asAddr, Act.put, hld]

end Go.Proofs.YtdjdanpicbaieaaGreatDoor

namespace Go.Proofs.YtdjdanpicbaieaaGreatDoor
open Go.RowKit

set_option maxRecDepth 100000 in
set_option maxHeartbeats 8000000 in
theorem less_any (x y : Int) (w : World) (hx0 : 0 ≤ x) (hx : x < bU ^ 4) (hy0 : 0 ≤ y) (hy : y < bU ^ 4) :
    Calls Tryz.prog 129 #[uP x, uP y] w fun e w' => e = .returned (.tuple #[uP ((x - y) % bU ^ 4), .bool (decide (y ≤ x))]) ∧ Below w.heap.size w w' := by
  have HC : Hid (∀ k, 0 ≤ carU (lessT x y) 1 k ∧ carU (lessT x y) 1 k < bU) := fun k => carU_le (lessT_le x y) (by decide) k
  have HD : Hid (∀ k, k < 4 → digU (lessT x y) 1 k = numU ((x - y) % bU ^ 4) k) := fun k hk => dig_less hx0 hx hy0 hy hk
  have HE : Hid (carU (lessT x y) 1 4 = if y ≤ x then 1 else 0) := car_less hx0 hx hy0 hy
  clear hx0 hx hy0 hy
  have hz := (zero_of_info infoU4).1
  unfold uP
  obtain ⟨V, hV⟩ : ∃ V, V = numU ((x - y) % bU ^ 4) := ⟨_, rfl⟩
  rw [← hV] at HD ⊢
  obtain ⟨b, hb⟩ : ∃ b, b = decide (y ≤ x) := ⟨_, rfl⟩
  rw [← hb]
  clear hV
  replace hb : Hid (b = decide (y ≤ x)) := hb
  obtain ⟨A, hA⟩ : ∃ A, A = (uV (numU x) 4).toArray := ⟨_, rfl⟩
  obtain ⟨B, hB⟩ : ∃ B, B = (uV (numU y) 4).toArray := ⟨_, rfl⟩
  obtain ⟨Z, hZ⟩ : ∃ Z, Z = (uV (fun _ => 0) 4).toArray := ⟨_, rfl⟩
  obtain ⟨m0, m1, m2, bel, sz⟩ := rows3 w (numU x) (numU y) (fun _ => 0) hA hB hZ
  rw [← hA, ← hB]
  rw [← hZ] at hz
  clear hA hB hZ
  go_enter Tryz.func129, Tryz.ntmps129
  go_wp2_with (fail)
  obtain ⟨G1, hG1⟩ : ∃ G1, G1 = w.heap.size + 1 := ⟨_, rfl⟩
  obtain ⟨G2, hG2⟩ : ∃ G2, G2 = G1 + 1 := ⟨_, rfl⟩
  rw [← hG1] at m1 m2 sz ⊢
  rw [← hG2] at m2 sz ⊢
  generalize ((w.alloc (.cells A 84)).alloc (.cells B 84)).alloc (.cells Z 84) = wb at m0 m1 m2 bel sz ⊢
  refine (sums_any 1 _).mono ?_
  rintro e w1 ⟨rfl, rfl⟩
  have mo := overRow wb w.heap.size 1 (by omega)
  obtain ⟨GO, hGO⟩ : ∃ GO, GO = wb.heap.size := ⟨_, rfl⟩
  rw [← hGO] at mo ⊢
  generalize wb.alloc (.cells #[.int .u64 1] 82) = wc at mo ⊢
  have bo : Below wb.heap.size wb wc := by rw [← hGO]; exact mo.2
  have DS : Apart4 w.heap.size G1 G2 GO := ⟨by omega, by omega, by omega, by omega, by omega, by omega⟩
  have hI0 : SumI w w.heap.size w.heap.size G1 G2 GO (numU x) (numU y) (fun _ => 0) 1 wc := ⟨m0.below bo, m1.below bo, m2.below bo, mo.1, below_on bel bo⟩
  have hloR : w.heap.size ≤ G2 := by omega
  clear m0 m1 m2 mo bo bel sz hG1 hG2 hGO hz
  unfold tellV
  go_wp2_with (fail)
  go_loopw [9] (fun i wr => ∃ k : Nat, k ≤ 4 ∧ i = .int .i64 k ∧ SumI w w.heap.size w.heap.size G1 G2 GO (mixU (digU (lessT x y) 1) (numU x) k) (numU y) (fun _ => 0) (carU (lessT x y) 1 k) wr)
    (fun i _ => 4 - (intOf i).toNat)
  case atStart => exact ⟨0, by omega, rfl, hI0.congr fun i _ => (mixU_zero _ _ i).symm⟩
  case round =>
    clear hI0
    obtain ⟨k, hk, rfl, hI⟩ := hrel
    by_cases hlt : k < 4
    · have hlt' : (k : Int) < 4 := by omega
      have hD := hI.drew
      obtain ⟨wX, hwX⟩ : ∃ wX, wX = wr.drew := ⟨_, rfl⟩
      rw [← hwX] at hD
      have cn := hD.n.cell k hlt
      rw [mixU_at] at cn
      have cm := hD.m.cell k hlt
      have co := hD.o.cell 0 (by decide)
      have fo := hD.o.frozen 0
      have fn0 := hD.n.frozen k
      have la := numU_range x k
      have lb := numU_range y k
      have lc := HC.out k
      have h2 := (hD.tell DS (carU (lessT x y) 1 (k + 1))).store DS k (digU (lessT x y) 1 k)
      replace h2 := h2.congr fun i _ => mixU_step (digU (lessT x y) 1) (numU x) k i
      have h1 := hD.tell DS (carU (lessT x y) 1 (k + 1))
      have cn1 := h1.n.cell k hlt
      rw [mixU_at] at cn1
      have cm1 := h1.m.cell k hlt
      have fn1 := h1.n.frozen k
      have cm2 := h2.m.cell k hlt
      have EQ : Hid (lessT x y k = numU x k + (18446744073709551615 - numU y k) * 1) := by show numU x k + (bU - 1 - numU y k) = _; (try unfold bU); omega
      have CT := fun h h' => tell_any GO (numU x k) (18446744073709551615 - (numU y k)) 1 (carU (lessT x y) 1 k) (digU (lessT x y) 1 k) (carU (lessT x y) 1 (k + 1)) wX la (by unfold bU at lb ⊢; omega) (by decide) lc (by rw [← EQ.out]; rfl) (by rw [← EQ.out]; rfl) h h'
      have CT' := CT co fo
      clear CT EQ
      have ld := digU_range (lessT x y) 1 k
      obtain ⟨o, ho⟩ : ∃ o, o = carU (lessT x y) 1 (k + 1) := ⟨_, rfl⟩
      rw [← ho] at CT' h1 h2 cn1 cm1 cm2 fn1
      replace ho : Hid (o = carU (lessT x y) 1 (k + 1)) := ho
      generalize digU (lessT x y) 1 k = r at CT' h2 cm2 ld
      generalize numU x k = a at cn cn1 CT' la
      generalize numU y k = b at cm cm1 cm2 CT' lb
      generalize carU (lessT x y) 1 k = cc at co lc
      unfold bU at la lb lc ld
      have xb := xor_all b lb.1 lb.2
      clear co fo hI h1 hD
      replace hwX : Hid (wX = wr.drew) := hwX
      go_wp2_with (fail)
      refine wp_region_noPanic ?_
      refine wp_region_T 11 (fun X => X.cell? ⟨G1, k, none⟩ = some (.int .u64 b)) (fun X => X.cell? ⟨w.heap.size, k, none⟩ = some (.int .u64 a)) (by kernel_rfl) ?_
      rw [← hwX.out]
      clear hwX
      refine anyT_takeT (i := 0) (v := .int .i64 (k : Int)) rfl (by kernel_rfl) (by kernel_rfl) (by kernel_rfl) (by kernel_rfl) (fun _ _ _ h => h) (Or.inl ⟨by rfl, fun X hSw => by ((try dsimp only at hSw); go_simp)⟩) cm (fun _ => cn) ?_
      simp only [Act.put, List.getElem_toArray, List.getElem_cons_zero, List.setIfInBounds_toArray, List.set_cons_zero, List.set_cons_succ]
      refine anyT_takeT (i := 1) (v := tellV GO) rfl (by kernel_rfl) (by kernel_rfl) (by kernel_rfl) (by kernel_rfl) (fun _ _ _ h => h) (Or.inl ⟨by rfl, fun X hSw => by ((try dsimp only at hSw); unfold tellV; go_simp)⟩) cm (fun _ => cn) ?_
      simp only [Act.put, List.getElem_toArray, List.getElem_cons_zero, List.getElem_cons_succ, List.setIfInBounds_toArray, List.set_cons_zero, List.set_cons_succ]
      refine anyT_takeT (i := 2) (v := .int .i64 (k : Int)) rfl (by kernel_rfl) (by kernel_rfl) (by kernel_rfl) (by kernel_rfl) (fun _ _ _ h => h) (Or.inl ⟨by rfl, fun X hSw => by ((try dsimp only at hSw); go_simp)⟩) cm (fun _ => cn) ?_
      simp only [Act.put, List.getElem_toArray, List.getElem_cons_zero, List.getElem_cons_succ, List.setIfInBounds_toArray, List.set_cons_zero, List.set_cons_succ]
      refine anyT_takeT (i := 3) (v := .pointer (some ⟨w.heap.size, k, none⟩)) rfl (by kernel_rfl) (by kernel_rfl) (by kernel_rfl) (by kernel_rfl) (fun _ _ _ h => h) (Or.inl ⟨by rfl, fun X hSw => by ((try dsimp only at hSw); go_simp)⟩) cm (fun _ => cn) ?_
      simp only [Act.put, List.getElem_toArray, List.getElem_cons_zero, List.getElem_cons_succ, List.setIfInBounds_toArray, List.set_cons_zero, List.set_cons_succ]
      refine anyT_takeS (i := 4) (v := .int .u64 a) rfl rfl (by kernel_rfl) (by kernel_rfl) (by kernel_rfl) (by kernel_rfl) (by kernel_rfl) (fun _ _ _ h => h) (Or.inl ⟨by rfl, fun X hSw => by (obtain ⟨q0, q1⟩ := hSw; go_simp)⟩) cm cn ?_
      simp only [Act.put, List.getElem_toArray, List.getElem_cons_zero, List.getElem_cons_succ, List.setIfInBounds_toArray, List.set_cons_zero, List.set_cons_succ]
      refine anyT_takeT (i := 5) (v := .int .i64 (k : Int)) rfl (by kernel_rfl) (by kernel_rfl) (by kernel_rfl) (by kernel_rfl) (fun _ _ _ h => h) (Or.inl ⟨by rfl, fun X hSw => by ((try dsimp only at hSw); go_simp)⟩) cm (fun _ => cn) ?_
      simp only [Act.put, List.getElem_toArray, List.getElem_cons_zero, List.getElem_cons_succ, List.setIfInBounds_toArray, List.set_cons_zero, List.set_cons_succ]
      refine anyT_takeT (i := 6) (v := .pointer (some ⟨G1, k, none⟩)) rfl (by kernel_rfl) (by kernel_rfl) (by kernel_rfl) (by kernel_rfl) (fun _ _ _ h => h) (Or.inl ⟨by rfl, fun X hSw => by ((try dsimp only at hSw); go_simp)⟩) cm (fun _ => cn) ?_
      simp only [Act.put, List.getElem_toArray, List.getElem_cons_zero, List.getElem_cons_succ, List.setIfInBounds_toArray, List.set_cons_zero, List.set_cons_succ]
      refine anyT_takeT (i := 7) (v := .int .u64 b) rfl (by kernel_rfl) (by kernel_rfl) (by kernel_rfl) (by kernel_rfl) (fun _ _ _ h => h) (Or.inl ⟨by rfl, fun X hSw => by ((try dsimp only at hSw); go_simp)⟩) cm (fun _ => cn) ?_
      simp only [Act.put, List.getElem_toArray, List.getElem_cons_zero, List.getElem_cons_succ, List.setIfInBounds_toArray, List.set_cons_zero, List.set_cons_succ]
      refine anyT_takeT (i := 8) (v := .int .u64 (18446744073709551615 - b)) rfl (by kernel_rfl) (by kernel_rfl) (by kernel_rfl) (by kernel_rfl) (fun _ _ _ h => h) (Or.inl ⟨by rfl, fun X hSw => by ((try dsimp only at hSw); go_simp; (try exact xb))⟩) cm (fun _ => cn) ?_
      simp only [Act.put, List.getElem_toArray, List.getElem_cons_zero, List.getElem_cons_succ, List.setIfInBounds_toArray, List.set_cons_zero, List.set_cons_succ]
      refine anyT_one (i := 9) (by kernel_rfl) rfl (fun K hK => ?_)
      unfold tellV
      go_simp
      refine CT'.mono ?_
      rintro e w9 ⟨rfl, rfl⟩
      go_wp2_with (fail)
      refine hK.out _ _ cm1 (fun _ => cn1) ?_
      clear hK K
      refine anyT_takeT (i := 10) (v := .pointer (some ⟨w.heap.size, k, none⟩)) rfl (by kernel_rfl) (by kernel_rfl) (by kernel_rfl) (by kernel_rfl) (fun _ _ _ h => h) (Or.inl ⟨by rfl, fun X hSw => by ((try dsimp only at hSw); go_simp)⟩) cm1 (fun _ => cn1) ?_
      simp only [Act.put, List.getElem_toArray, List.getElem_cons_zero, List.getElem_cons_succ, List.setIfInBounds_toArray, List.set_cons_zero, List.set_cons_succ]
      refine anyT_one (i := 11) (by kernel_rfl) rfl (fun K hK => ?_)
      go_simp
      refine hK.out _ _ cm2 (fun h => by cases h) ?_
      clear hK K
      refine anyT_done (by kernel_rfl) ?_ _
      refine NoPanic.normal ?_
      clear cm cn cm1 cn1 fn0 fn1 cm2 CT'
      go_wp2_with (fail)
      go_roundw
      case rel => exact ⟨k + 1, by omega, by go_num, by rw [← ho.out]; exact h2⟩
      case measure => simp [intOf]; omega
    · obtain rfl : k = 4 := by omega
      have hno : ¬ ((4 : Nat) : Int) < 4 := by omega
      replace hI := hI.congr (f' := V) fun i hi => by rw [mixU_end _ _ hi, HD.out i hi]
      have lc := HC.out 4
      rw [HE.out] at hI lc
      obtain ⟨c4, hc4⟩ : ∃ c4 : Int, c4 = if y ≤ x then 1 else 0 := ⟨_, rfl⟩
      rw [← hc4] at hI lc
      have hq : (c4 == 1) = b := by rw [hc4, hb.out]; split <;> simp_all
      clear HC HD HE hc4 hb
      have h0 := hI.drew
      obtain ⟨wX, hwX⟩ : ∃ wX, wX = wr.drew := ⟨_, rfl⟩
      rw [← hwX] at h0
      have CT := tell_any GO 0 0 0 c4 c4 0 wX (by decide) (by decide) (by decide) lc (by unfold bU at lc ⊢; omega) (by unfold bU at lc ⊢; omega) (h0.o.cell 0 (by decide)) (h0.o.frozen 0)
      have h1 := h0.tell DS 0
      clear hI
      replace hwX : Hid (wX = wr.drew) := hwX
      go_wp2_with (fail)
      refine wp_region_noPanic ?_
      refine wp_region_T 5 (fun X => X.rangeAt w.heap.size 0 (uV V 4)) (fun _ => True) (by kernel_rfl) ?_
      rw [← hwX.out]
      clear hwX
      refine anyT_takeT (i := 0) rfl (by kernel_rfl) (by kernel_rfl) (by kernel_rfl) (by kernel_rfl) (fun _ _ _ h => h) (yieldsIf_load_mid (by rfl) _ _ rfl _ _ rfl (uV V 4) _ (fun _ hw => hw) Tryz.underlying84 rfl sizeU) h0.n.range (fun _ => trivial) ?_
      simp only [Act.put, List.getElem_toArray, List.getElem_cons_zero, List.setIfInBounds_toArray, List.set_cons_zero, List.set_cons_succ]
      refine anyT_takeT (i := 1) (v := tellV GO) rfl (by kernel_rfl) (by kernel_rfl) (by kernel_rfl) (by kernel_rfl) (fun _ _ _ h => h) (Or.inl ⟨by rfl, fun X hSw => by ((try dsimp only at hSw); unfold tellV; go_simp)⟩) h0.n.range (fun _ => trivial) ?_
      simp only [Act.put, List.getElem_toArray, List.getElem_cons_zero, List.getElem_cons_succ, List.setIfInBounds_toArray, List.set_cons_zero, List.set_cons_succ]
      refine anyT_one (i := 2) (by kernel_rfl) rfl (fun K hK => ?_)
      unfold tellV
      go_simp
      refine CT.mono ?_
      rintro e w9 ⟨rfl, rfl⟩
      go_wp2_with (fail)
      refine hK.out _ _ h1.n.range (fun _ => trivial) ?_
      clear hK K CT h0
      refine anyT_takeT (i := 3) (v := .bool b) rfl (by kernel_rfl) (by kernel_rfl) (by kernel_rfl) (by kernel_rfl) (fun _ _ _ h => h) (Or.inl ⟨by rfl, fun X hSw => by ((try dsimp only at hSw); go_simp; (try simp [hq]))⟩) h1.n.range (fun _ => trivial) ?_
      simp only [Act.put, List.getElem_toArray, List.getElem_cons_zero, List.getElem_cons_succ, List.setIfInBounds_toArray, List.set_cons_zero, List.set_cons_succ]
      generalize (wX.setCell ⟨GO, 0, none⟩ (.int .u64 0)) = w5 at h1 ⊢
      have hp := h1.r.put (f' := V)
      have hth2 := h1.r.there2 (f' := V)
      have hbel := h1.b.grown hp.2 h1.b.size (fun k hk => by cases hk; exact hloR)
      have hld := run_loadVar_mid (P := Tryz.prog) _ G2 0 84 _ _ hp.1.range Tryz.underlying84 rfl sizeU
      have hnr := (h1.n.kept hp.2 DS.nr.symm).range
      have hone := uV_one V 4
      have hsz2 := sizeU2 (f := V)
      clear hp h1
      refine anyT_one (i := 4) (by kernel_rfl) rfl (fun K hK => ?_)
      refine wp_store_mid 84 _ _ rfl G2 0 (uV V 4).toArray rfl rfl hth2 hsz2 (all_oneCell_toArray hone) ?_
      refine hK.out _ _ hnr (fun _ => trivial) ?_
      clear hK K
      refine anyT_one (i := 5) (by kernel_rfl) rfl (fun K hK => ?_)
      go_simp
      refine hK.out _ _ hnr (fun _ => trivial) ?_
      clear hK K
      refine anyT_done (by kernel_rfl) ?_ _
      refine NoPanic.normal ?_
      go_wp2_with (fail)
      (try simp only [Exit.inBlock, Exit.then])
      refine bodyPost_ret (v := .tuple #[.agg (uV V 4).toArray, .bool b]) ?_ rfl ⟨rfl, hbel⟩
      simp [results, asAddr, hld]

end Go.Proofs.YtdjdanpicbaieaaGreatDoor

namespace Go.Proofs.YtdjdanpicbaieaaGreatDoor
open Go.RowKit

theorem rows2 (w : World) (f h : Nat → Int) {A Z : Array Value} (hA : A = (uV f 4).toArray) (hZ : Z = (uV h 4).toArray) :
    RowU 84 4 ((w.alloc (.cells A 84)).alloc (.cells Z 84)) w.heap.size w.heap.size f ∧ RowU 84 4 ((w.alloc (.cells A 84)).alloc (.cells Z 84)) w.heap.size (w.heap.size + 1) h ∧ Below w.heap.size w ((w.alloc (.cells A 84)).alloc (.cells Z 84)) ∧ ((w.alloc (.cells A 84)).alloc (.cells Z 84)).heap.size = w.heap.size + 1 + 1 := by
  subst hA hZ
  have m0 := RowU.made w 84 4 w.heap.size f (by decide) (Nat.le_refl _)
  obtain ⟨wa, hwa⟩ : ∃ wa, wa = w.alloc (.cells (uV f 4).toArray 84) := ⟨_, rfl⟩
  rw [← hwa] at m0 ⊢
  have sa : wa.heap.size = w.heap.size + 1 := by rw [hwa]; simp
  have ba : Below w.heap.size w wa := by rw [hwa]; exact (Below.refl _ _).alloc (Nat.le_refl _) _
  have m1 := RowU.made wa 84 4 w.heap.size h (by decide) (by omega)
  have b1 : Below wa.heap.size wa (wa.alloc (.cells (uV h 4).toArray 84)) := (Below.refl _ _).alloc (Nat.le_refl _) _
  rw [sa] at m1
  exact ⟨m0.below b1, m1, below_on ba b1, by simp [sa]⟩

set_option maxRecDepth 100000 in
set_option maxHeartbeats 8000000 in
theorem rest_any (x : Int) (w : World) (hx0 : 0 ≤ x) (hx : x < bU ^ 4) :
    Calls Tryz.prog 96 #[uP x] w fun e w' => e = .returned (uP (x % fldP)) ∧ Below w.heap.size w w' := by
  have hz := (zero_of_info infoU4).1
  unfold uP
  obtain ⟨V, hV⟩ : ∃ V, V = numU (x % fldP) := ⟨_, rfl⟩
  rw [← hV]
  replace hV : Hid (V = numU (x % fldP)) := hV
  obtain ⟨A, hA⟩ : ∃ A, A = (uV (numU x) 4).toArray := ⟨_, rfl⟩
  obtain ⟨Z, hZ⟩ : ∃ Z, Z = (uV (fun _ => 0) 4).toArray := ⟨_, rfl⟩
  obtain ⟨m0, m1, bel0, sz⟩ := rows2 w (numU x) (fun _ => 0) hA hZ
  rw [← hA]
  rw [← hZ] at hz
  clear hA
  replace hZ : Hid (Z = (uV (fun _ => 0) 4).toArray) := hZ
  go_enter Tryz.func96, Tryz.ntmps96
  go_wp2_with (fail)
  obtain ⟨G1, hG1⟩ : ∃ G1, G1 = w.heap.size + 1 := ⟨_, rfl⟩
  rw [← hG1] at m1 sz ⊢
  generalize (w.alloc (.cells A 84)).alloc (.cells Z 84) = wb at m0 m1 bel0 sz ⊢
  have hne : w.heap.size ≠ G1 := by omega
  have hloR : w.heap.size ≤ G1 := by omega
  clear hG1 sz
  go_loopw [] (fun wr => ∃ z : Int, (0 ≤ z ∧ z < bU ^ 4) ∧ Hid (z % fldP = x % fldP) ∧ RowU 84 4 wr w.heap.size w.heap.size (numU z) ∧ RowU 84 4 wr w.heap.size G1 (fun _ => 0) ∧ Below w.heap.size w wr)
    (fun wr => (numRow wr w.heap.size).toNat)
  case atStart => exact ⟨x, ⟨hx0, hx⟩, rfl, m0, m1, bel0⟩
  case round =>
    clear m0 m1 bel0 hx0 hx
    obtain ⟨z, lz, hzx, hn, hr, bel⟩ := hrel
    have HM : Hid (numRow wr w.heap.size = z) := by rw [Hid, hn.num, val_four lz.1 lz.2]
    replace hn := hn.drew
    replace hr := hr.drew
    replace bel := bel.drew
    have CP := fun X => fieldP_any X
    have CL := fun X => less_any z fldP X lz.1 lz.2 (by decide) (by decide)
    unfold uP at CP CL
    by_cases hle : fldP ≤ z
    · have hdc : decide (fldP ≤ z) = true := by simp [hle]
      rw [hdc] at CL
      have hmod : (z - fldP) % bU ^ 4 = z - fldP := Int.emod_eq_of_lt (by omega) (by have := fldP_pos; omega)
      rw [hmod] at CL
      have hzx2 : Hid ((z - fldP) % fldP = x % fldP) := by rw [Hid, Int.sub_emod_right, hzx.out]
      have hlt : Hid ((z - fldP).toNat < z.toNat) := by have := fldP_pos; show (z - fldP).toNat < z.toNat; omega
      have lz2 : 0 ≤ z - fldP ∧ z - fldP < bU ^ 4 := by have := fldP_pos; omega
      obtain ⟨u, hu⟩ : ∃ u, u = z - fldP := ⟨_, rfl⟩
      rw [← hu] at CL hzx2 hlt lz2
      obtain ⟨L, hL⟩ : ∃ L, L = numU u := ⟨_, rfl⟩
      rw [← hL] at CL
      replace hL : Hid (L = numU u) := hL
      clear hu hdc hmod
      obtain ⟨W, hW⟩ : ∃ W, W = wr.drew := ⟨_, rfl⟩
      rw [← hW] at hn hr bel
      replace hW : Hid (W = wr.drew) := hW
      go_wp2_with (fail)
      refine wp_region_noPanic ?_
      refine wp_region_T 99 (fun X => X.rangeAt w.heap.size 0 (uV (numU z) 4)) (fun _ => True) (by kernel_rfl) ?_
      rw [← hW.out]
      clear hW
      have kX : Below W.heap.size W W := Below.refl _ _
      have hLO : Hid (∃ LO, LO = W.heap.size) := ⟨_, rfl⟩
      obtain ⟨LO, hLO⟩ := hLO.out
      replace hLO : Hid (LO = W.heap.size) := hLO
      refine anyT_takeT (i := 0) rfl (by kernel_rfl) (by kernel_rfl) (by kernel_rfl) (by kernel_rfl) (fun _ _ _ h => h) (yieldsIf_load_mid (by rfl) _ _ rfl _ _ rfl (uV (numU z) 4) _ (fun _ hw => hw) Tryz.underlying84 rfl sizeU) (hn.below kX).range (fun _ => trivial) ?_
      simp only [Act.put, List.getElem_toArray, List.getElem_cons_zero, List.setIfInBounds_toArray, List.set_cons_zero, List.set_cons_succ]
      refine anyT_two (i := 1) (j := 6) (by kernel_rfl) rfl rfl (fun K hK => ?_) (fun K hK => ?_)
      · go_simp
        refine (CP _).mono ?_
        rintro e wY1 ⟨rfl, bY1⟩
        have kY1 := below_on kX bY1
        go_wp2_with (fail)
        refine hK.out _ _ (hn.below kY1).range (fun _ => trivial) ?_
        clear hK K
        refine anyT_two (i := 2) (j := 6) (by kernel_rfl) rfl rfl (fun K hK => ?_) (fun K hK => ?_)
        · go_simp
          refine (CL _).mono ?_
          rintro e wY2 ⟨rfl, bY2⟩
          have kY2 := below_on kY1 bY2
          go_wp2_with (fail)
          refine hK.out _ _ (hn.below kY2).range (fun _ => trivial) ?_
          clear hK K
          refine anyT_takeT (i := 3) (v := .tuple #[.agg (uV L 4).toArray, .bool true]) rfl (by kernel_rfl) (by kernel_rfl) (by kernel_rfl) (by kernel_rfl) (fun _ _ _ h => h) (Or.inl ⟨by rfl, fun X hSw => by ((try dsimp only at hSw); go_simp)⟩) (hn.below kY2).range (fun _ => trivial) ?_
          simp only [Act.put, List.getElem_toArray, List.getElem_cons_zero, List.getElem_cons_succ, List.setIfInBounds_toArray, List.set_cons_zero, List.set_cons_succ]
          refine anyT_takeT (i := 4) (v := .agg (uV L 4).toArray) rfl (by kernel_rfl) (by kernel_rfl) (by kernel_rfl) (by kernel_rfl) (fun _ _ _ h => h) (Or.inl ⟨by rfl, fun X hSw => by ((try dsimp only at hSw); go_simp)⟩) (hn.below kY2).range (fun _ => trivial) ?_
          simp only [Act.put, List.getElem_toArray, List.getElem_cons_zero, List.getElem_cons_succ, List.setIfInBounds_toArray, List.set_cons_zero, List.set_cons_succ]
          refine anyT_takeT (i := 5) (v := .bool true) rfl (by kernel_rfl) (by kernel_rfl) (by kernel_rfl) (by kernel_rfl) (fun _ _ _ h => h) (Or.inl ⟨by rfl, fun X hSw => by ((try dsimp only at hSw); go_simp)⟩) (hn.below kY2).range (fun _ => trivial) ?_
          simp only [Act.put, List.getElem_toArray, List.getElem_cons_zero, List.getElem_cons_succ, List.setIfInBounds_toArray, List.set_cons_zero, List.set_cons_succ]
          refine anyT_one (i := 6) (by kernel_rfl) rfl (fun K hK => ?_)
          go_simp
          have h3_3 := RowU.made wY2 84 4 LO (fun _ => 0) (by decide) (by rw [hLO.out]; exact Below.size kY2)
          rw [← hZ.out] at h3_3
          have bY3 : Below wY2.heap.size wY2 (wY2.alloc (.cells Z 84)) := (Below.refl _ _).alloc (Nat.le_refl _) _
          have kY3 := below_on kY2 bY3
          refine hK.out _ _ (hn.below kY3).range (fun _ => trivial) ?_
          clear hK K
          generalize wY2.alloc (.cells Z 84) = wY3 at h3_3 bY3 kY3 ⊢
          obtain ⟨g3, hg3⟩ : ∃ g3, g3 = wY2.heap.size := ⟨_, rfl⟩
          rw [← hg3] at h3_3 ⊢
          clear hg3
          have hp := RowU.put h3_3 (f' := L)
          have hth2 := RowU.there2 h3_3 (f' := L)
          have hlt3 := RowU.lt h3_3
          rw [hLO.out] at hlt3
          have hnw := hn.lt
          have hrw := hr.lt
          have hn2 := (hn.below kY3).kept hp.2 (by omega)
          have hr2 := (hr.below kY3).kept hp.2 (by omega)
          have bel1 := below_on bel kY3
          have bel2 := bel1.grown hp.2 (Nat.le_trans (Nat.le_of_lt (Nat.lt_of_le_of_lt hnw.1 hnw.2)) (Below.size kY3)) (fun k hk => by cases hk; omega)
          have h32 := hp.1
          have hg3n : w.heap.size ≠ g3 := by omega
          have hg3w : w.heap.size ≤ g3 := by omega
          refine anyT_one (i := 7) (by kernel_rfl) rfl (fun K hK => ?_)
          refine wp_store_mid 84 _ _ rfl g3 0 (uV L 4).toArray rfl rfl hth2 sizeU2 (all_oneCell_toArray (uV_one L 4)) ?_
          refine hK.out _ _ hn2.range (fun _ => trivial) ?_
          clear hK K
          refine anyT_takeT (i := 8) (v := .bool true) rfl (by kernel_rfl) (by kernel_rfl) (by kernel_rfl) (by kernel_rfl) (fun _ _ _ h => h) (Or.inl ⟨by rfl, fun X hSw => by ((try dsimp only at hSw); go_simp)⟩) hn2.range (fun _ => trivial) ?_
          simp only [Act.put, List.getElem_toArray, List.getElem_cons_zero, List.getElem_cons_succ, List.setIfInBounds_toArray, List.set_cons_zero, List.set_cons_succ]
          refine anyT_done (by kernel_rfl) ?_ _
          refine NoPanic.normal ?_
          generalize World.setCells wY3 g3 0 _ = w5 at hp hn2 hr2 bel2 h32 ⊢
          clear hp hth2 h3_3 hlt3 hnw hrw bel1 CP CL
          have hra := h32.range
          have hp := hn2.put (f' := L)
          have hth := hn2.there2 (f' := L)
          have hr3 := hr2.kept hp.2 hne.symm
          have bel3 := bel2.grown hp.2 (Nat.le_trans (Nat.le_of_lt (Nat.lt_of_le_of_lt hn2.lt.1 hn2.lt.2)) (Nat.le_refl _)) (fun k hk => by cases hk; exact Nat.le_refl _)
          have hn3 := hp.1
          clear hp h32 hn2 hr2 bel2
          obtain ⟨Cs, hCs⟩ : ∃ Cs, Cs = uV L 4 := ⟨_, rfl⟩
          have hsz := sizeU (f := L)
          have hsz2 := sizeU2 (f := L)
          have hone := uV_one L 4
          rw [← hCs] at hra hth hr3 bel3 hn3 hsz hsz2 hone
          clear hCs
          go_wp2_with (first | (refine wpList_load_mid rfl 84 _ rfl g3 0 rfl Cs _ hra Tryz.underlying84 rfl hsz ?_) | (refine wpList_store_mid rfl 84 _ _ rfl w.heap.size 0 Cs.toArray rfl rfl hth hsz2 (all_oneCell_toArray hone) ?_))
          refine ⟨⟨_, _, _, _, _, _, _, _, _, _, _, _, ?rel, rfl⟩, ?measure⟩
          case rel => exact ⟨u, lz2, hzx2, by rw [← hL.out]; exact hn3, hr3, bel3⟩
          case measure =>
            rw [hn3.num, HM.out, hL.out, val_four lz2.1 lz2.2]
            exact hlt.out
        · go_simp
          have h3_4 := RowU.made wY1 84 4 LO (fun _ => 0) (by decide) (by rw [hLO.out]; exact Below.size kY1)
          rw [← hZ.out] at h3_4
          have bY4 : Below wY1.heap.size wY1 (wY1.alloc (.cells Z 84)) := (Below.refl _ _).alloc (Nat.le_refl _) _
          have kY4 := below_on kY1 bY4
          refine hK.out _ _ (hn.below kY4).range (fun _ => trivial) ?_
          clear hK K
          generalize wY1.alloc (.cells Z 84) = wY4 at h3_4 bY4 kY4 ⊢
          obtain ⟨g3, hg3⟩ : ∃ g3, g3 = wY1.heap.size := ⟨_, rfl⟩
          rw [← hg3] at h3_4 ⊢
          clear hg3
          refine anyT_one (i := 2) (by kernel_rfl) rfl (fun K hK => ?_)
          go_simp
          refine (CL _).mono ?_
          rintro e wY5 ⟨rfl, bY5⟩
          have kY5 := below_on kY4 bY5
          have h3_5 := RowU.below h3_4 bY5
          go_wp2_with (fail)
          refine hK.out _ _ (hn.below kY5).range (fun _ => trivial) ?_
          clear hK K
          refine anyT_takeT (i := 3) (v := .tuple #[.agg (uV L 4).toArray, .bool true]) rfl (by kernel_rfl) (by kernel_rfl) (by kernel_rfl) (by kernel_rfl) (fun _ _ _ h => h) (Or.inl ⟨by rfl, fun X hSw => by ((try dsimp only at hSw); go_simp)⟩) (hn.below kY5).range (fun _ => trivial) ?_
          simp only [Act.put, List.getElem_toArray, List.getElem_cons_zero, List.getElem_cons_succ, List.setIfInBounds_toArray, List.set_cons_zero, List.set_cons_succ]
          refine anyT_takeT (i := 4) (v := .agg (uV L 4).toArray) rfl (by kernel_rfl) (by kernel_rfl) (by kernel_rfl) (by kernel_rfl) (fun _ _ _ h => h) (Or.inl ⟨by rfl, fun X hSw => by ((try dsimp only at hSw); go_simp)⟩) (hn.below kY5).range (fun _ => trivial) ?_
          simp only [Act.put, List.getElem_toArray, List.getElem_cons_zero, List.getElem_cons_succ, List.setIfInBounds_toArray, List.set_cons_zero, List.set_cons_succ]
          refine anyT_takeT (i := 5) (v := .bool true) rfl (by kernel_rfl) (by kernel_rfl) (by kernel_rfl) (by kernel_rfl) (fun _ _ _ h => h) (Or.inl ⟨by rfl, fun X hSw => by ((try dsimp only at hSw); go_simp)⟩) (hn.below kY5).range (fun _ => trivial) ?_
          simp only [Act.put, List.getElem_toArray, List.getElem_cons_zero, List.getElem_cons_succ, List.setIfInBounds_toArray, List.set_cons_zero, List.set_cons_succ]
          have hp := RowU.put h3_5 (f' := L)
          have hth2 := RowU.there2 h3_5 (f' := L)
          have hlt3 := RowU.lt h3_5
          rw [hLO.out] at hlt3
          have hnw := hn.lt
          have hrw := hr.lt
          have hn2 := (hn.below kY5).kept hp.2 (by omega)
          have hr2 := (hr.below kY5).kept hp.2 (by omega)
          have bel1 := below_on bel kY5
          have bel2 := bel1.grown hp.2 (Nat.le_trans (Nat.le_of_lt (Nat.lt_of_le_of_lt hnw.1 hnw.2)) (Below.size kY5)) (fun k hk => by cases hk; omega)
          have h32 := hp.1
          have hg3n : w.heap.size ≠ g3 := by omega
          have hg3w : w.heap.size ≤ g3 := by omega
          refine anyT_one (i := 7) (by kernel_rfl) rfl (fun K hK => ?_)
          refine wp_store_mid 84 _ _ rfl g3 0 (uV L 4).toArray rfl rfl hth2 sizeU2 (all_oneCell_toArray (uV_one L 4)) ?_
          refine hK.out _ _ hn2.range (fun _ => trivial) ?_
          clear hK K
          refine anyT_takeT (i := 8) (v := .bool true) rfl (by kernel_rfl) (by kernel_rfl) (by kernel_rfl) (by kernel_rfl) (fun _ _ _ h => h) (Or.inl ⟨by rfl, fun X hSw => by ((try dsimp only at hSw); go_simp)⟩) hn2.range (fun _ => trivial) ?_
          simp only [Act.put, List.getElem_toArray, List.getElem_cons_zero, List.getElem_cons_succ, List.setIfInBounds_toArray, List.set_cons_zero, List.set_cons_succ]
          refine anyT_done (by kernel_rfl) ?_ _
          refine NoPanic.normal ?_
          generalize World.setCells wY5 g3 0 _ = w5 at hp hn2 hr2 bel2 h32 ⊢
          clear hp hth2 h3_5 hlt3 hnw hrw bel1 CP CL
          have hra := h32.range
          have hp := hn2.put (f' := L)
          have hth := hn2.there2 (f' := L)
          have hr3 := hr2.kept hp.2 hne.symm
          have bel3 := bel2.grown hp.2 (Nat.le_trans (Nat.le_of_lt (Nat.lt_of_le_of_lt hn2.lt.1 hn2.lt.2)) (Nat.le_refl _)) (fun k hk => by cases hk; exact Nat.le_refl _)
          have hn3 := hp.1
          clear hp h32 hn2 hr2 bel2
          obtain ⟨Cs, hCs⟩ : ∃ Cs, Cs = uV L 4 := ⟨_, rfl⟩
          have hsz := sizeU (f := L)
          have hsz2 := sizeU2 (f := L)
          have hone := uV_one L 4
          rw [← hCs] at hra hth hr3 bel3 hn3 hsz hsz2 hone
          clear hCs
          go_wp2_with (first | (refine wpList_load_mid rfl 84 _ rfl g3 0 rfl Cs _ hra Tryz.underlying84 rfl hsz ?_) | (refine wpList_store_mid rfl 84 _ _ rfl w.heap.size 0 Cs.toArray rfl rfl hth hsz2 (all_oneCell_toArray hone) ?_))
          refine ⟨⟨_, _, _, _, _, _, _, _, _, _, _, _, ?rel, rfl⟩, ?measure⟩
          case rel => exact ⟨u, lz2, hzx2, by rw [← hL.out]; exact hn3, hr3, bel3⟩
          case measure =>
            rw [hn3.num, HM.out, hL.out, val_four lz2.1 lz2.2]
            exact hlt.out
      · go_simp
        have h3_6 := RowU.made W 84 4 LO (fun _ => 0) (by decide) (by rw [hLO.out]; exact Below.size kX)
        rw [← hZ.out] at h3_6
        have bY6 : Below W.heap.size W (W.alloc (.cells Z 84)) := (Below.refl _ _).alloc (Nat.le_refl _) _
        have kY6 := below_on kX bY6
        refine hK.out _ _ (hn.below kY6).range (fun _ => trivial) ?_
        clear hK K
        generalize W.alloc (.cells Z 84) = wY6 at h3_6 bY6 kY6 ⊢
        obtain ⟨g3, hg3⟩ : ∃ g3, g3 = W.heap.size := ⟨_, rfl⟩
        rw [← hg3] at h3_6 ⊢
        clear hg3
        refine anyT_one (i := 1) (by kernel_rfl) rfl (fun K hK => ?_)
        go_simp
        refine (CP _).mono ?_
        rintro e wY7 ⟨rfl, bY7⟩
        have kY7 := below_on kY6 bY7
        have h3_7 := RowU.below h3_6 bY7
        go_wp2_with (fail)
        refine hK.out _ _ (hn.below kY7).range (fun _ => trivial) ?_
        clear hK K
        refine anyT_one (i := 2) (by kernel_rfl) rfl (fun K hK => ?_)
        go_simp
        refine (CL _).mono ?_
        rintro e wY8 ⟨rfl, bY8⟩
        have kY8 := below_on kY7 bY8
        have h3_8 := RowU.below h3_7 bY8
        go_wp2_with (fail)
        refine hK.out _ _ (hn.below kY8).range (fun _ => trivial) ?_
        clear hK K
        refine anyT_takeT (i := 3) (v := .tuple #[.agg (uV L 4).toArray, .bool true]) rfl (by kernel_rfl) (by kernel_rfl) (by kernel_rfl) (by kernel_rfl) (fun _ _ _ h => h) (Or.inl ⟨by rfl, fun X hSw => by ((try dsimp only at hSw); go_simp)⟩) (hn.below kY8).range (fun _ => trivial) ?_
        simp only [Act.put, List.getElem_toArray, List.getElem_cons_zero, List.getElem_cons_succ, List.setIfInBounds_toArray, List.set_cons_zero, List.set_cons_succ]
        refine anyT_takeT (i := 4) (v := .agg (uV L 4).toArray) rfl (by kernel_rfl) (by kernel_rfl) (by kernel_rfl) (by kernel_rfl) (fun _ _ _ h => h) (Or.inl ⟨by rfl, fun X hSw => by ((try dsimp only at hSw); go_simp)⟩) (hn.below kY8).range (fun _ => trivial) ?_
        simp only [Act.put, List.getElem_toArray, List.getElem_cons_zero, List.getElem_cons_succ, List.setIfInBounds_toArray, List.set_cons_zero, List.set_cons_succ]
        refine anyT_takeT (i := 5) (v := .bool true) rfl (by kernel_rfl) (by kernel_rfl) (by kernel_rfl) (by kernel_rfl) (fun _ _ _ h => h) (Or.inl ⟨by rfl, fun X hSw => by ((try dsimp only at hSw); go_simp)⟩) (hn.below kY8).range (fun _ => trivial) ?_
        simp only [Act.put, List.getElem_toArray, List.getElem_cons_zero, List.getElem_cons_succ, List.setIfInBounds_toArray, List.set_cons_zero, List.set_cons_succ]
        have hp := RowU.put h3_8 (f' := L)
        have hth2 := RowU.there2 h3_8 (f' := L)
        have hlt3 := RowU.lt h3_8
        rw [hLO.out] at hlt3
        have hnw := hn.lt
        have hrw := hr.lt
        have hn2 := (hn.below kY8).kept hp.2 (by omega)
        have hr2 := (hr.below kY8).kept hp.2 (by omega)
        have bel1 := below_on bel kY8
        have bel2 := bel1.grown hp.2 (Nat.le_trans (Nat.le_of_lt (Nat.lt_of_le_of_lt hnw.1 hnw.2)) (Below.size kY8)) (fun k hk => by cases hk; omega)
        have h32 := hp.1
        have hg3n : w.heap.size ≠ g3 := by omega
        have hg3w : w.heap.size ≤ g3 := by omega
        refine anyT_one (i := 7) (by kernel_rfl) rfl (fun K hK => ?_)
        refine wp_store_mid 84 _ _ rfl g3 0 (uV L 4).toArray rfl rfl hth2 sizeU2 (all_oneCell_toArray (uV_one L 4)) ?_
        refine hK.out _ _ hn2.range (fun _ => trivial) ?_
        clear hK K
        refine anyT_takeT (i := 8) (v := .bool true) rfl (by kernel_rfl) (by kernel_rfl) (by kernel_rfl) (by kernel_rfl) (fun _ _ _ h => h) (Or.inl ⟨by rfl, fun X hSw => by ((try dsimp only at hSw); go_simp)⟩) hn2.range (fun _ => trivial) ?_
        simp only [Act.put, List.getElem_toArray, List.getElem_cons_zero, List.getElem_cons_succ, List.setIfInBounds_toArray, List.set_cons_zero, List.set_cons_succ]
        refine anyT_done (by kernel_rfl) ?_ _
        refine NoPanic.normal ?_
        generalize World.setCells wY8 g3 0 _ = w5 at hp hn2 hr2 bel2 h32 ⊢
        clear hp hth2 h3_8 hlt3 hnw hrw bel1 CP CL
        have hra := h32.range
        have hp := hn2.put (f' := L)
        have hth := hn2.there2 (f' := L)
        have hr3 := hr2.kept hp.2 hne.symm
        have bel3 := bel2.grown hp.2 (Nat.le_trans (Nat.le_of_lt (Nat.lt_of_le_of_lt hn2.lt.1 hn2.lt.2)) (Nat.le_refl _)) (fun k hk => by cases hk; exact Nat.le_refl _)
        have hn3 := hp.1
        clear hp h32 hn2 hr2 bel2
        obtain ⟨Cs, hCs⟩ : ∃ Cs, Cs = uV L 4 := ⟨_, rfl⟩
        have hsz := sizeU (f := L)
        have hsz2 := sizeU2 (f := L)
        have hone := uV_one L 4
        rw [← hCs] at hra hth hr3 bel3 hn3 hsz hsz2 hone
        clear hCs
        go_wp2_with (first | (refine wpList_load_mid rfl 84 _ rfl g3 0 rfl Cs _ hra Tryz.underlying84 rfl hsz ?_) | (refine wpList_store_mid rfl 84 _ _ rfl w.heap.size 0 Cs.toArray rfl rfl hth hsz2 (all_oneCell_toArray hone) ?_))
        refine ⟨⟨_, _, _, _, _, _, _, _, _, _, _, _, ?rel, rfl⟩, ?measure⟩
        case rel => exact ⟨u, lz2, hzx2, by rw [← hL.out]; exact hn3, hr3, bel3⟩
        case measure =>
          rw [hn3.num, HM.out, hL.out, val_four lz2.1 lz2.2]
          exact hlt.out
    · have hdc : decide (fldP ≤ z) = false := by simp [hle]
      rw [hdc] at CL
      have hVz : V = numU z := by rw [hV.out, ← hzx.out, Int.emod_eq_of_lt lz.1 (by omega)]
      rw [← hVz] at hn CL
      obtain ⟨L, hL⟩ : ∃ L, L = numU ((z - fldP) % bU ^ 4) := ⟨_, rfl⟩
      rw [← hL] at CL
      clear hL hdc hVz hV hzx HM hle
      obtain ⟨W, hW⟩ : ∃ W, W = wr.drew := ⟨_, rfl⟩
      rw [← hW] at hn hr bel
      replace hW : Hid (W = wr.drew) := hW
      go_wp2_with (fail)
      refine wp_region_noPanic ?_
      refine wp_region_T 99 (fun X => X.rangeAt w.heap.size 0 (uV V 4)) (fun _ => True) (by kernel_rfl) ?_
      rw [← hW.out]
      clear hW
      have kX : Below W.heap.size W W := Below.refl _ _
      have hLO : Hid (∃ LO, LO = W.heap.size) := ⟨_, rfl⟩
      obtain ⟨LO, hLO⟩ := hLO.out
      replace hLO : Hid (LO = W.heap.size) := hLO
      refine anyT_takeT (i := 0) rfl (by kernel_rfl) (by kernel_rfl) (by kernel_rfl) (by kernel_rfl) (fun _ _ _ h => h) (yieldsIf_load_mid (by rfl) _ _ rfl _ _ rfl (uV V 4) _ (fun _ hw => hw) Tryz.underlying84 rfl sizeU) (hn.below kX).range (fun _ => trivial) ?_
      simp only [Act.put, List.getElem_toArray, List.getElem_cons_zero, List.setIfInBounds_toArray, List.set_cons_zero, List.set_cons_succ]
      refine anyT_two (i := 1) (j := 6) (by kernel_rfl) rfl rfl (fun K hK => ?_) (fun K hK => ?_)
      · go_simp
        refine (CP _).mono ?_
        rintro e wY1 ⟨rfl, bY1⟩
        have kY1 := below_on kX bY1
        go_wp2_with (fail)
        refine hK.out _ _ (hn.below kY1).range (fun _ => trivial) ?_
        clear hK K
        refine anyT_two (i := 2) (j := 6) (by kernel_rfl) rfl rfl (fun K hK => ?_) (fun K hK => ?_)
        · go_simp
          refine (CL _).mono ?_
          rintro e wY2 ⟨rfl, bY2⟩
          have kY2 := below_on kY1 bY2
          go_wp2_with (fail)
          refine hK.out _ _ (hn.below kY2).range (fun _ => trivial) ?_
          clear hK K
          refine anyT_takeT (i := 3) (v := .tuple #[.agg (uV L 4).toArray, .bool false]) rfl (by kernel_rfl) (by kernel_rfl) (by kernel_rfl) (by kernel_rfl) (fun _ _ _ h => h) (Or.inl ⟨by rfl, fun X hSw => by ((try dsimp only at hSw); go_simp)⟩) (hn.below kY2).range (fun _ => trivial) ?_
          simp only [Act.put, List.getElem_toArray, List.getElem_cons_zero, List.getElem_cons_succ, List.setIfInBounds_toArray, List.set_cons_zero, List.set_cons_succ]
          refine anyT_takeT (i := 4) (v := .agg (uV L 4).toArray) rfl (by kernel_rfl) (by kernel_rfl) (by kernel_rfl) (by kernel_rfl) (fun _ _ _ h => h) (Or.inl ⟨by rfl, fun X hSw => by ((try dsimp only at hSw); go_simp)⟩) (hn.below kY2).range (fun _ => trivial) ?_
          simp only [Act.put, List.getElem_toArray, List.getElem_cons_zero, List.getElem_cons_succ, List.setIfInBounds_toArray, List.set_cons_zero, List.set_cons_succ]
          refine anyT_takeT (i := 5) (v := .bool false) rfl (by kernel_rfl) (by kernel_rfl) (by kernel_rfl) (by kernel_rfl) (fun _ _ _ h => h) (Or.inl ⟨by rfl, fun X hSw => by ((try dsimp only at hSw); go_simp)⟩) (hn.below kY2).range (fun _ => trivial) ?_
          simp only [Act.put, List.getElem_toArray, List.getElem_cons_zero, List.getElem_cons_succ, List.setIfInBounds_toArray, List.set_cons_zero, List.set_cons_succ]
          refine anyT_one (i := 6) (by kernel_rfl) rfl (fun K hK => ?_)
          go_simp
          have h3_3 := RowU.made wY2 84 4 LO (fun _ => 0) (by decide) (by rw [hLO.out]; exact Below.size kY2)
          rw [← hZ.out] at h3_3
          have bY3 : Below wY2.heap.size wY2 (wY2.alloc (.cells Z 84)) := (Below.refl _ _).alloc (Nat.le_refl _) _
          have kY3 := below_on kY2 bY3
          refine hK.out _ _ (hn.below kY3).range (fun _ => trivial) ?_
          clear hK K
          generalize wY2.alloc (.cells Z 84) = wY3 at h3_3 bY3 kY3 ⊢
          obtain ⟨g3, hg3⟩ : ∃ g3, g3 = wY2.heap.size := ⟨_, rfl⟩
          rw [← hg3] at h3_3 ⊢
          clear hg3
          have hp := RowU.put h3_3 (f' := L)
          have hth2 := RowU.there2 h3_3 (f' := L)
          have hlt3 := RowU.lt h3_3
          rw [hLO.out] at hlt3
          have hnw := hn.lt
          have hrw := hr.lt
          have hn2 := (hn.below kY3).kept hp.2 (by omega)
          have hr2 := (hr.below kY3).kept hp.2 (by omega)
          have bel1 := below_on bel kY3
          have bel2 := bel1.grown hp.2 (Nat.le_trans (Nat.le_of_lt (Nat.lt_of_le_of_lt hnw.1 hnw.2)) (Below.size kY3)) (fun k hk => by cases hk; omega)
          have h32 := hp.1
          have hg3n : w.heap.size ≠ g3 := by omega
          have hg3w : w.heap.size ≤ g3 := by omega
          refine anyT_one (i := 7) (by kernel_rfl) rfl (fun K hK => ?_)
          refine wp_store_mid 84 _ _ rfl g3 0 (uV L 4).toArray rfl rfl hth2 sizeU2 (all_oneCell_toArray (uV_one L 4)) ?_
          refine hK.out _ _ hn2.range (fun _ => trivial) ?_
          clear hK K
          refine anyT_takeT (i := 8) (v := .bool false) rfl (by kernel_rfl) (by kernel_rfl) (by kernel_rfl) (by kernel_rfl) (fun _ _ _ h => h) (Or.inl ⟨by rfl, fun X hSw => by ((try dsimp only at hSw); go_simp)⟩) hn2.range (fun _ => trivial) ?_
          simp only [Act.put, List.getElem_toArray, List.getElem_cons_zero, List.getElem_cons_succ, List.setIfInBounds_toArray, List.set_cons_zero, List.set_cons_succ]
          refine anyT_done (by kernel_rfl) ?_ _
          refine NoPanic.normal ?_
          generalize World.setCells wY3 g3 0 _ = w5 at hp hn2 hr2 bel2 h32 ⊢
          clear hp hth2 h3_3 hlt3 hnw hrw bel1 CP CL
          have hra := hn2.range
          have hp := hr2.put (f' := V)
          have hth := hr2.there2 (f' := V)
          have hbel := bel2.grown hp.2 (Nat.le_trans (Nat.le_of_lt (Nat.lt_of_le_of_lt hn2.lt.1 hn2.lt.2)) (Nat.le_refl _)) (fun k hk => by cases hk; exact hloR)
          have hld := run_loadVar_mid (P := Tryz.prog) _ G1 0 84 _ _ hp.1.range Tryz.underlying84 rfl sizeU
          clear hp h32 hn2 hr2 bel2
          have hsz := sizeU (f := V)
          have hsz2 := sizeU2 (f := V)
          have hone := uV_one V 4
          go_wp2_with (first | (refine wpList_load_mid rfl 84 _ rfl w.heap.size 0 rfl (uV V 4) _ hra Tryz.underlying84 rfl hsz ?_) | (refine wpList_store_mid rfl 84 _ _ rfl G1 0 (uV V 4).toArray rfl rfl hth hsz2 (all_oneCell_toArray hone) ?_))
          (try simp only [Exit.inBlock, Exit.then])
          refine bodyPost_ret (v := .agg (uV V 4).toArray) ?_ rfl ⟨rfl, hbel⟩
          simp [results, asAddr, Act.put, hld]
        · go_simp
          have h3_4 := RowU.made wY1 84 4 LO (fun _ => 0) (by decide) (by rw [hLO.out]; exact Below.size kY1)
          rw [← hZ.out] at h3_4
          have bY4 : Below wY1.heap.size wY1 (wY1.alloc (.cells Z 84)) := (Below.refl _ _).alloc (Nat.le_refl _) _
          have kY4 := below_on kY1 bY4
          refine hK.out _ _ (hn.below kY4).range (fun _ => trivial) ?_
          clear hK K
          generalize wY1.alloc (.cells Z 84) = wY4 at h3_4 bY4 kY4 ⊢
          obtain ⟨g3, hg3⟩ : ∃ g3, g3 = wY1.heap.size := ⟨_, rfl⟩
          rw [← hg3] at h3_4 ⊢
          clear hg3
          refine anyT_one (i := 2) (by kernel_rfl) rfl (fun K hK => ?_)
          go_simp
          refine (CL _).mono ?_
          rintro e wY5 ⟨rfl, bY5⟩
          have kY5 := below_on kY4 bY5
          have h3_5 := RowU.below h3_4 bY5
          go_wp2_with (fail)
          refine hK.out _ _ (hn.below kY5).range (fun _ => trivial) ?_
          clear hK K
          refine anyT_takeT (i := 3) (v := .tuple #[.agg (uV L 4).toArray, .bool false]) rfl (by kernel_rfl) (by kernel_rfl) (by kernel_rfl) (by kernel_rfl) (fun _ _ _ h => h) (Or.inl ⟨by rfl, fun X hSw => by ((try dsimp only at hSw); go_simp)⟩) (hn.below kY5).range (fun _ => trivial) ?_
          simp only [Act.put, List.getElem_toArray, List.getElem_cons_zero, List.getElem_cons_succ, List.setIfInBounds_toArray, List.set_cons_zero, List.set_cons_succ]
          refine anyT_takeT (i := 4) (v := .agg (uV L 4).toArray) rfl (by kernel_rfl) (by kernel_rfl) (by kernel_rfl) (by kernel_rfl) (fun _ _ _ h => h) (Or.inl ⟨by rfl, fun X hSw => by ((try dsimp only at hSw); go_simp)⟩) (hn.below kY5).range (fun _ => trivial) ?_
          simp only [Act.put, List.getElem_toArray, List.getElem_cons_zero, List.getElem_cons_succ, List.setIfInBounds_toArray, List.set_cons_zero, List.set_cons_succ]
          refine anyT_takeT (i := 5) (v := .bool false) rfl (by kernel_rfl) (by kernel_rfl) (by kernel_rfl) (by kernel_rfl) (fun _ _ _ h => h) (Or.inl ⟨by rfl, fun X hSw => by ((try dsimp only at hSw); go_simp)⟩) (hn.below kY5).range (fun _ => trivial) ?_
          simp only [Act.put, List.getElem_toArray, List.getElem_cons_zero, List.getElem_cons_succ, List.setIfInBounds_toArray, List.set_cons_zero, List.set_cons_succ]
          have hp := RowU.put h3_5 (f' := L)
          have hth2 := RowU.there2 h3_5 (f' := L)
          have hlt3 := RowU.lt h3_5
          rw [hLO.out] at hlt3
          have hnw := hn.lt
          have hrw := hr.lt
          have hn2 := (hn.below kY5).kept hp.2 (by omega)
          have hr2 := (hr.below kY5).kept hp.2 (by omega)
          have bel1 := below_on bel kY5
          have bel2 := bel1.grown hp.2 (Nat.le_trans (Nat.le_of_lt (Nat.lt_of_le_of_lt hnw.1 hnw.2)) (Below.size kY5)) (fun k hk => by cases hk; omega)
          have h32 := hp.1
          have hg3n : w.heap.size ≠ g3 := by omega
          have hg3w : w.heap.size ≤ g3 := by omega
          refine anyT_one (i := 7) (by kernel_rfl) rfl (fun K hK => ?_)
          refine wp_store_mid 84 _ _ rfl g3 0 (uV L 4).toArray rfl rfl hth2 sizeU2 (all_oneCell_toArray (uV_one L 4)) ?_
          refine hK.out _ _ hn2.range (fun _ => trivial) ?_
          clear hK K
          refine anyT_takeT (i := 8) (v := .bool false) rfl (by kernel_rfl) (by kernel_rfl) (by kernel_rfl) (by kernel_rfl) (fun _ _ _ h => h) (Or.inl ⟨by rfl, fun X hSw => by ((try dsimp only at hSw); go_simp)⟩) hn2.range (fun _ => trivial) ?_
          simp only [Act.put, List.getElem_toArray, List.getElem_cons_zero, List.getElem_cons_succ, List.setIfInBounds_toArray, List.set_cons_zero, List.set_cons_succ]
          refine anyT_done (by kernel_rfl) ?_ _
          refine NoPanic.normal ?_
          generalize World.setCells wY5 g3 0 _ = w5 at hp hn2 hr2 bel2 h32 ⊢
          clear hp hth2 h3_5 hlt3 hnw hrw bel1 CP CL
          have hra := hn2.range
          have hp := hr2.put (f' := V)
          have hth := hr2.there2 (f' := V)
          have hbel := bel2.grown hp.2 (Nat.le_trans (Nat.le_of_lt (Nat.lt_of_le_of_lt hn2.lt.1 hn2.lt.2)) (Nat.le_refl _)) (fun k hk => by cases hk; exact hloR)
          have hld := run_loadVar_mid (P := Tryz.prog) _ G1 0 84 _ _ hp.1.range Tryz.underlying84 rfl sizeU
          clear hp h32 hn2 hr2 bel2
          have hsz := sizeU (f := V)
          have hsz2 := sizeU2 (f := V)
          have hone := uV_one V 4
          go_wp2_with (first | (refine wpList_load_mid rfl 84 _ rfl w.heap.size 0 rfl (uV V 4) _ hra Tryz.underlying84 rfl hsz ?_) | (refine wpList_store_mid rfl 84 _ _ rfl G1 0 (uV V 4).toArray rfl rfl hth hsz2 (all_oneCell_toArray hone) ?_))
          (try simp only [Exit.inBlock, Exit.then])
          refine bodyPost_ret (v := .agg (uV V 4).toArray) ?_ rfl ⟨rfl, hbel⟩
          simp [results, asAddr, Act.put, hld]
      · go_simp
        have h3_6 := RowU.made W 84 4 LO (fun _ => 0) (by decide) (by rw [hLO.out]; exact Below.size kX)
        rw [← hZ.out] at h3_6
        have bY6 : Below W.heap.size W (W.alloc (.cells Z 84)) := (Below.refl _ _).alloc (Nat.le_refl _) _
        have kY6 := below_on kX bY6
        refine hK.out _ _ (hn.below kY6).range (fun _ => trivial) ?_
        clear hK K
        generalize W.alloc (.cells Z 84) = wY6 at h3_6 bY6 kY6 ⊢
        obtain ⟨g3, hg3⟩ : ∃ g3, g3 = W.heap.size := ⟨_, rfl⟩
        rw [← hg3] at h3_6 ⊢
        clear hg3
        refine anyT_one (i := 1) (by kernel_rfl) rfl (fun K hK => ?_)
        go_simp
        refine (CP _).mono ?_
        rintro e wY7 ⟨rfl, bY7⟩
        have kY7 := below_on kY6 bY7
        have h3_7 := RowU.below h3_6 bY7
        go_wp2_with (fail)
        refine hK.out _ _ (hn.below kY7).range (fun _ => trivial) ?_
        clear hK K
        refine anyT_one (i := 2) (by kernel_rfl) rfl (fun K hK => ?_)
        go_simp
        refine (CL _).mono ?_
        rintro e wY8 ⟨rfl, bY8⟩
        have kY8 := below_on kY7 bY8
        have h3_8 := RowU.below h3_7 bY8
        go_wp2_with (fail)
        refine hK.out _ _ (hn.below kY8).range (fun _ => trivial) ?_
        clear hK K
        refine anyT_takeT (i := 3) (v := .tuple #[.agg (uV L 4).toArray, .bool false]) rfl (by kernel_rfl) (by kernel_rfl) (by kernel_rfl) (by kernel_rfl) (fun _ _ _ h => h) (Or.inl ⟨by rfl, fun X hSw => by ((try dsimp only at hSw); go_simp)⟩) (hn.below kY8).range (fun _ => trivial) ?_
        simp only [Act.put, List.getElem_toArray, List.getElem_cons_zero, List.getElem_cons_succ, List.setIfInBounds_toArray, List.set_cons_zero, List.set_cons_succ]
        refine anyT_takeT (i := 4) (v := .agg (uV L 4).toArray) rfl (by kernel_rfl) (by kernel_rfl) (by kernel_rfl) (by kernel_rfl) (fun _ _ _ h => h) (Or.inl ⟨by rfl, fun X hSw => by ((try dsimp only at hSw); go_simp)⟩) (hn.below kY8).range (fun _ => trivial) ?_
        simp only [Act.put, List.getElem_toArray, List.getElem_cons_zero, List.getElem_cons_succ, List.setIfInBounds_toArray, List.set_cons_zero, List.set_cons_succ]
        refine anyT_takeT (i := 5) (v := .bool false) rfl (by kernel_rfl) (by kernel_rfl) (by kernel_rfl) (by kernel_rfl) (fun _ _ _ h => h) (Or.inl ⟨by rfl, fun X hSw => by ((try dsimp only at hSw); go_simp)⟩) (hn.below kY8).range (fun _ => trivial) ?_
        simp only [Act.put, List.getElem_toArray, List.getElem_cons_zero, List.getElem_cons_succ, List.setIfInBounds_toArray, List.set_cons_zero, List.set_cons_succ]
        have hp := RowU.put h3_8 (f' := L)
        have hth2 := RowU.there2 h3_8 (f' := L)
        have hlt3 := RowU.lt h3_8
        rw [hLO.out] at hlt3
        have hnw := hn.lt
        have hrw := hr.lt
        have hn2 := (hn.below kY8).kept hp.2 (by omega)
        have hr2 := (hr.below kY8).kept hp.2 (by omega)
        have bel1 := below_on bel kY8
        have bel2 := bel1.grown hp.2 (Nat.le_trans (Nat.le_of_lt (Nat.lt_of_le_of_lt hnw.1 hnw.2)) (Below.size kY8)) (fun k hk => by cases hk; omega)
        have h32 := hp.1
        have hg3n : w.heap.size ≠ g3 := by omega
        have hg3w : w.heap.size ≤ g3 := by omega
        refine anyT_one (i := 7) (by kernel_rfl) rfl (fun K hK => ?_)
        refine wp_store_mid 84 _ _ rfl g3 0 (uV L 4).toArray rfl rfl hth2 sizeU2 (all_oneCell_toArray (uV_one L 4)) ?_
        refine hK.out _ _ hn2.range (fun _ => trivial) ?_
        clear hK K
        refine anyT_takeT (i := 8) (v := .bool false) rfl (by kernel_rfl) (by kernel_rfl) (by kernel_rfl) (by kernel_rfl) (fun _ _ _ h => h) (Or.inl ⟨by rfl, fun X hSw => by ((try dsimp only at hSw); go_simp)⟩) hn2.range (fun _ => trivial) ?_
        simp only [Act.put, List.getElem_toArray, List.getElem_cons_zero, List.getElem_cons_succ, List.setIfInBounds_toArray, List.set_cons_zero, List.set_cons_succ]
        refine anyT_done (by kernel_rfl) ?_ _
        refine NoPanic.normal ?_
        generalize World.setCells wY8 g3 0 _ = w5 at hp hn2 hr2 bel2 h32 ⊢
        clear hp hth2 h3_8 hlt3 hnw hrw bel1 CP CL
        have hra := hn2.range
        have hp := hr2.put (f' := V)
        have hth := hr2.there2 (f' := V)
        have hbel := bel2.grown hp.2 (Nat.le_trans (Nat.le_of_lt (Nat.lt_of_le_of_lt hn2.lt.1 hn2.lt.2)) (Nat.le_refl _)) (fun k hk => by cases hk; exact hloR)
        have hld := run_loadVar_mid (P := Tryz.prog) _ G1 0 84 _ _ hp.1.range Tryz.underlying84 rfl sizeU
        clear hp h32 hn2 hr2 bel2
        have hsz := sizeU (f := V)
        have hsz2 := sizeU2 (f := V)
        have hone := uV_one V 4
        go_wp2_with (first | (refine wpList_load_mid rfl 84 _ rfl w.heap.size 0 rfl (uV V 4) _ hra Tryz.underlying84 rfl hsz ?_) | (refine wpList_store_mid rfl 84 _ _ rfl G1 0 (uV V 4).toArray rfl rfl hth hsz2 (all_oneCell_toArray hone) ?_))
        (try simp only [Exit.inBlock, Exit.then])
        refine bodyPost_ret (v := .agg (uV V 4).toArray) ?_ rfl ⟨rfl, hbel⟩
        simp [results, asAddr, Act.put, hld]

end Go.Proofs.YtdjdanpicbaieaaGreatDoor

namespace Go.Proofs.YtdjdanpicbaieaaGreatDoor
open Go.RowKit
set_option maxRecDepth 100000

theorem num_of_parts {f : Nat → Int} {n : Nat} (h : ∀ i, i < n → 0 ≤ f i ∧ f i < bU) {k : Nat} (hk : k < n) : f k = numU (valU f n) k := by
  have hc : ∀ j, j ≤ n → carU f 0 j = 0 := by
    intro j
    induction j with
    | zero => intro _; rfl
    | succ j ih =>
      intro hj
      have := h j (by omega)
      rw [carU, ih (by omega), Int.add_zero, Int.ediv_eq_zero_of_lt this.1 this.2]
  have e := digU_num f 0 hk
  rw [Int.add_zero] at e
  have := h k hk
  rw [← e, digU, hc k (by omega), Int.add_zero, Int.emod_eq_of_lt this.1 this.2]

theorem index4 (f : Nat → Int) (k : Nat) (hk : k < 4) (w : World) : (Instr.index 84 (.agg (uV f 4).toArray) (.int .i64 (k : Int))).run Tryz.prog w = .ok (.int .u64 (f k)) w := by
  have h0 : (Instr.index 84 (.agg (uV f 4).toArray) (.int .i64 0)).run Tryz.prog w = .ok (.int .u64 (f 0)) w := by kernel_rfl
  have h1 : (Instr.index 84 (.agg (uV f 4).toArray) (.int .i64 1)).run Tryz.prog w = .ok (.int .u64 (f 1)) w := by kernel_rfl
  have h2 : (Instr.index 84 (.agg (uV f 4).toArray) (.int .i64 2)).run Tryz.prog w = .ok (.int .u64 (f 2)) w := by kernel_rfl
  have h3 : (Instr.index 84 (.agg (uV f 4).toArray) (.int .i64 3)).run Tryz.prog w = .ok (.int .u64 (f 3)) w := by kernel_rfl
  have hc : k = 0 ∨ k = 1 ∨ k = 2 ∨ k = 3 := by omega
  rcases hc with rfl | rfl | rfl | rfl
  · exact h0
  · exact h1
  · exact h2
  · exact h3

end Go.Proofs.YtdjdanpicbaieaaGreatDoor

namespace Go.Proofs.YtdjdanpicbaieaaGreatDoor
open Go.RowKit
set_option maxRecDepth 100000

/-- What has come up: of the calls k, the first variable, the second one. -/
def selP (c1 c2 b1 b2 : Nat) (L : Array Bool) (k : Nat) (p q : Bool) : Array Bool :=
  let L1 := if 1 ≤ k then L.setIfInBounds c1 true else L
  let L2 := if 2 ≤ k then L1.setIfInBounds c2 true else L1
  let L3 := if p then L2.setIfInBounds b1 true else L2
  if q then L3.setIfInBounds b2 true else L3
def rdP (c1 c2 b1 b2 : Nat) (k : Nat) (p q : Bool) : List Nat :=
  (if k = 0 then [c1] else if k = 1 then [c2] else []) ++ ((if p then [] else [b1]) ++ (if q then [] else [b2]))
def okP (ops : Array Oper) (c1 c2 b1 b2 : Nat) (L : Array Bool) : Bool :=
  decide (c1 ≠ c2 ∧ c1 ≠ b1 ∧ c1 ≠ b2 ∧ c2 ≠ b1 ∧ c2 ≠ b2 ∧ b1 ≠ b2) && (List.range 3).all fun k => [false, true].all fun p => [false, true].all fun q => (k == 2 && p && q) || (Region.ready .any ops (selP c1 c2 b1 b2 L k p q) == rdP c1 c2 b1 b2 k p q)
theorem okP_ready {ops : Array Oper} {c1 c2 b1 b2 : Nat} {L : Array Bool} (h : okP ops c1 c2 b1 b2 L = true) (k : Nat) (hk : k ≤ 2) (p q : Bool) (hne : ¬ (k = 2 ∧ p = true ∧ q = true)) :
    Region.ready .any ops (selP c1 c2 b1 b2 L k p q) = rdP c1 c2 b1 b2 k p q := by
  unfold okP at h
  rw [Bool.and_eq_true, List.all_eq_true] at h
  have h1 := h.2 k (List.mem_range.2 (by omega))
  rw [List.all_eq_true] at h1
  have h2 := h1 p (by cases p <;> simp)
  rw [List.all_eq_true] at h2
  have h3 := h2 q (by cases q <;> simp)
  rw [Bool.or_eq_true] at h3
  rcases h3 with h3 | h3
  · simp only [Bool.and_eq_true, beq_iff_eq] at h3
    exact absurd ⟨h3.1.1, h3.1.2, h3.2⟩ hne
  · simpa using h3
theorem okP_apart {ops : Array Oper} {c1 c2 b1 b2 : Nat} {L : Array Bool} (h : okP ops c1 c2 b1 b2 L = true) : c1 ≠ c2 ∧ c1 ≠ b1 ∧ c1 ≠ b2 ∧ c2 ≠ b1 ∧ c2 ≠ b2 ∧ b1 ≠ b2 := by
  unfold okP at h
  rw [Bool.and_eq_true] at h
  exact of_decide_eq_true h.1
/-- The frame: the two variables' slots, the two calls' slots. -/
def frP (a : Act) (d1 d2 e1 e2 : Nat) (u1 u2 r1 r2 : Value) : Act := (((a.put (some d1) u1).put (some d2) u2).put (some e1) r1).put (some e2) r2
section
variable {P : Program} {ops : Array Oper} {Q : Exit → Act → World → Prop} {T : World → Prop} {m : Nat}
theorem anyT_pair {c1 c2 b1 b2 d1 d2 e1 e2 fuel ty : Nat} {L : Array Bool} {a : Act} {W : World} {Z : Array Value} {pt : Nat → Value} {v1 v2 : Value} (hok : okP ops c1 c2 b1 b2 L = true)
    (ha : frP a d1 d2 e1 e2 undef undef undef undef = a) (hZ : Z = (uV (fun _ => 0) 4).toArray)
    (hT : ∀ X, Below W.heap.size W X → T X)
    (hc1 : ∀ u1 u2 X, T X → wpOp P ops Q c1 (fun a' w' => a' = frP a d1 d2 e1 e2 u1 u2 v1 undef ∧ Below X.heap.size X w') (frP a d1 d2 e1 e2 u1 u2 undef undef) X)
    (hc2 : ∀ u1 u2 X, T X → wpOp P ops Q c2 (fun a' w' => a' = frP a d1 d2 e1 e2 u1 u2 v1 v2 ∧ Below X.heap.size X w') (frP a d1 d2 e1 e2 u1 u2 v1 undef) X)
    (hb1 : ∀ u2 r1 r2 X, wpOp P ops Q b1 (fun a' w' => a' = frP a d1 d2 e1 e2 (pt X.heap.size) u2 r1 r2 ∧ w' = X.alloc (.cells Z ty)) (frP a d1 d2 e1 e2 undef u2 r1 r2) X)
    (hb2 : ∀ u1 r1 r2 X, wpOp P ops Q b2 (fun a' w' => a' = frP a d1 d2 e1 e2 u1 (pt X.heap.size) r1 r2 ∧ w' = X.alloc (.cells Z ty)) (frP a d1 d2 e1 e2 u1 undef r1 r2) X)
    (hend : ∀ X g1 g2, Below W.heap.size W X → RowU ty 4 X W.heap.size g1 (fun _ => 0) → RowU ty 4 X W.heap.size g2 (fun _ => 0) → g1 ≠ g2 →
      AnyT P ops Q T (fun _ => True) m fuel (selP c1 c2 b1 b2 L 2 true true) (frP a d1 d2 e1 e2 (pt g1) (pt g2) v1 v2) X) :
    AnyT P ops Q T (fun _ => True) m (fuel + 4) L a W := by
  obtain ⟨n12, n13, n14, n23, n24, n34⟩ := okP_apart hok
  have key : ∀ n k p q, k ≤ 2 → (2 - k) + ((if p then 0 else 1) + (if q then 0 else 1)) = n → ∀ X g1 g2, Below W.heap.size W X → (p = true → RowU ty 4 X W.heap.size g1 (fun _ => 0)) → (q = true → RowU ty 4 X W.heap.size g2 (fun _ => 0)) → (p = true → q = true → g1 ≠ g2) →
      AnyT P ops Q T (fun _ => True) m (fuel + n) (selP c1 c2 b1 b2 L k p q) (frP a d1 d2 e1 e2 (if p then pt g1 else undef) (if q then pt g2 else undef) (if 1 ≤ k then v1 else undef) (if 2 ≤ k then v2 else undef)) X := by
    intro n
    induction n with
    | zero =>
      intro k p q hk hn X g1 g2 hX h1 h2 h12
      have hk2 : k = 2 := by omega
      have hp : p = true := by cases p <;> simp_all
      have hq : q = true := by cases q <;> simp_all
      subst hk2 hp hq
      exact hend X g1 g2 hX (h1 rfl) (h2 rfl) (h12 rfl rfl)
    | succ n ih =>
      intro k p q hk hn X g1 g2 hX h1 h2 h12
      have hne : ¬ (k = 2 ∧ p = true ∧ q = true) := by
        rintro ⟨rfl, rfl, rfl⟩
        simp at hn
      have hrd := okP_ready hok k hk p q hne
      refine ⟨fun e => ?_, fun i hi => ?_⟩
      · rw [hrd] at e
        have hk2 : k = 0 ∨ k = 1 ∨ k = 2 := by omega
        rcases hk2 with rfl | rfl | rfl <;> cases p <;> cases q <;> simp [rdP] at e
        exact absurd ⟨rfl, rfl, rfl⟩ hne
      · rw [hrd, rdP, List.mem_append, List.mem_append] at hi
        rcases hi with hi | hi | hi
        · by_cases hk0 : k = 0
          · subst hk0
            rw [if_pos rfl, List.mem_singleton] at hi
            subst hi
            refine wpOp_mono (fun a' w' hh => ?_) (hc1 (if p then pt g1 else undef) (if q then pt g2 else undef) X (hT X hX))
            obtain ⟨rfl, hb⟩ := hh
            have hX' := below_on hX hb
            refine ⟨hT _ hX', fun _ => trivial, ?_⟩
            have hL : (selP i c2 b1 b2 L 0 p q).setIfInBounds i true = selP i c2 b1 b2 L 1 p q := by
              cases p <;> cases q <;> simp [selP]
              · rw [Array.setIfInBounds_comm _ _ (Ne.symm n14)]
              · rw [Array.setIfInBounds_comm _ _ (Ne.symm n13)]
              · rw [Array.setIfInBounds_comm _ _ (Ne.symm n14), Array.setIfInBounds_comm _ _ (Ne.symm n13)]
            rw [hL]
            exact ih 1 p q (by omega) (by omega) w' g1 g2 hX' (fun h => (h1 h).below hb) (fun h => (h2 h).below hb) h12
          · by_cases hk1 : k = 1
            · subst hk1
              rw [if_neg hk0, if_pos rfl, List.mem_singleton] at hi
              subst hi
              refine wpOp_mono (fun a' w' hh => ?_) (hc2 (if p then pt g1 else undef) (if q then pt g2 else undef) X (hT X hX))
              obtain ⟨rfl, hb⟩ := hh
              have hX' := below_on hX hb
              refine ⟨hT _ hX', fun _ => trivial, ?_⟩
              have hL : (selP c1 i b1 b2 L 1 p q).setIfInBounds i true = selP c1 i b1 b2 L 2 p q := by
                cases p <;> cases q <;> simp [selP]
                · rw [Array.setIfInBounds_comm _ _ (Ne.symm n24)]
                · rw [Array.setIfInBounds_comm _ _ (Ne.symm n23)]
                · rw [Array.setIfInBounds_comm _ _ (Ne.symm n24), Array.setIfInBounds_comm _ _ (Ne.symm n23)]
              rw [hL]
              exact ih 2 p q (by omega) (by omega) w' g1 g2 hX' (fun h => (h1 h).below hb) (fun h => (h2 h).below hb) h12
            · rw [if_neg hk0, if_neg hk1] at hi
              exact absurd hi List.not_mem_nil
        · cases p with
          | true => exact absurd hi (by simp)
          | false =>
            have hi' : i = b1 := by simpa using hi
            subst hi'
            refine wpOp_mono (fun a' w' hh => ?_) (hb1 (if q then pt g2 else undef) (if 1 ≤ k then v1 else undef) (if 2 ≤ k then v2 else undef) X)
            obtain ⟨rfl, rfl⟩ := hh
            have hb : Below X.heap.size X (X.alloc (.cells Z ty)) := (Below.refl _ _).alloc (Nat.le_refl _) _
            have hX' := below_on hX hb
            have hr := RowU.made X ty 4 W.heap.size (fun _ => 0) (by decide) hX.size
            rw [← hZ] at hr
            refine ⟨hT _ hX', fun _ => trivial, ?_⟩
            have hL : (selP c1 c2 i b2 L k false q).setIfInBounds i true = selP c1 c2 i b2 L k true q := by
              cases q <;> simp [selP]
              rw [Array.setIfInBounds_comm _ _ (Ne.symm n34)]
            rw [hL]
            exact ih k true q hk (by simp at hn ⊢; omega) _ X.heap.size g2 hX' (fun _ => hr) (fun h => (h2 h).below hb) (fun _ h => by have := (h2 h).lt; omega)
        · cases q with
          | true => exact absurd hi (by simp)
          | false =>
            have hi' : i = b2 := by simpa using hi
            subst hi'
            refine wpOp_mono (fun a' w' hh => ?_) (hb2 (if p then pt g1 else undef) (if 1 ≤ k then v1 else undef) (if 2 ≤ k then v2 else undef) X)
            obtain ⟨rfl, rfl⟩ := hh
            have hb : Below X.heap.size X (X.alloc (.cells Z ty)) := (Below.refl _ _).alloc (Nat.le_refl _) _
            have hX' := below_on hX hb
            have hr := RowU.made X ty 4 W.heap.size (fun _ => 0) (by decide) hX.size
            rw [← hZ] at hr
            refine ⟨hT _ hX', fun _ => trivial, ?_⟩
            have hL : (selP c1 c2 b1 i L k p false).setIfInBounds i true = selP c1 c2 b1 i L k p true := by
              cases p <;> simp [selP]
            rw [hL]
            exact ih k p true hk (by simp at hn ⊢; omega) _ g1 X.heap.size hX' (fun h => (h1 h).below hb) (fun _ => hr) (fun h _ => by have := (h1 h).lt; omega)
  have h := key 4 0 false false (by omega) rfl W 0 0 (Below.refl _ _) (fun h => by cases h) (fun h => by cases h) (fun h => by cases h)
  have e : selP c1 c2 b1 b2 L 0 false false = L := by simp [selP]
  rw [e] at h
  simp only [Bool.false_eq_true, if_false, show ¬ (1 ≤ 0) by omega, show ¬ (2 ≤ 0) by omega] at h
  rw [ha] at h
  exact h
end

end Go.Proofs.YtdjdanpicbaieaaGreatDoor

namespace Go.Proofs.YtdjdanpicbaieaaGreatDoor
open Go.RowKit

set_option maxRecDepth 100000 in
set_option maxHeartbeats 8000000 in
theorem plus_any (x y : Int) (w : World) (hx0 : 0 ≤ x) (hy0 : 0 ≤ y) (hs : x + y < bU ^ 4) :
    Calls Tryz.prog 131 #[uP x, uP y] w fun e w' => e = .returned (uP ((x + y) % fldP)) ∧ Below w.heap.size w w' := by
  have HC : Hid (∀ k, 0 ≤ carU (plusT x y) 0 k ∧ carU (plusT x y) 0 k < bU) := fun k => carU_le (plusT_le x y) (by decide) k
  have HD : Hid (∀ k, k < 4 → digU (plusT x y) 0 k = numU (x + y) k) := fun k hk => dig_plus hx0 (by omega) hy0 (by omega) hk
  have CR := fun X => rest_any (x + y) X (by omega) hs
  clear hx0 hy0 hs
  unfold uP at CR
  have hz := (zero_of_info infoU4).1
  unfold uP
  obtain ⟨V, hV⟩ : ∃ V, V = numU ((x + y) % fldP) := ⟨_, rfl⟩
  rw [← hV] at CR ⊢
  clear hV
  obtain ⟨U, hU⟩ : ∃ U, U = numU (x + y) := ⟨_, rfl⟩
  rw [← hU] at CR HD
  clear hU
  obtain ⟨A, hA⟩ : ∃ A, A = (uV (numU x) 4).toArray := ⟨_, rfl⟩
  obtain ⟨B, hB⟩ : ∃ B, B = (uV (numU y) 4).toArray := ⟨_, rfl⟩
  obtain ⟨Z, hZ⟩ : ∃ Z, Z = (uV (fun _ => 0) 4).toArray := ⟨_, rfl⟩
  obtain ⟨m0, m1, m2, bel, sz⟩ := rows3 w (numU x) (numU y) (fun _ => 0) hA hB hZ
  rw [← hA, ← hB]
  rw [← hZ] at hz
  clear hA hB hZ
  go_enter Tryz.func131, Tryz.ntmps131
  go_wp2_with (fail)
  obtain ⟨G1, hG1⟩ : ∃ G1, G1 = w.heap.size + 1 := ⟨_, rfl⟩
  obtain ⟨G2, hG2⟩ : ∃ G2, G2 = G1 + 1 := ⟨_, rfl⟩
  rw [← hG1] at m1 m2 sz ⊢
  rw [← hG2] at m2 sz ⊢
  generalize ((w.alloc (.cells A 84)).alloc (.cells B 84)).alloc (.cells Z 84) = wb at m0 m1 m2 bel sz ⊢
  refine (sums_any 0 _).mono ?_
  rintro e w1 ⟨rfl, rfl⟩
  have mo := overRow wb w.heap.size 0 (by omega)
  obtain ⟨GO, hGO⟩ : ∃ GO, GO = wb.heap.size := ⟨_, rfl⟩
  rw [← hGO] at mo ⊢
  generalize wb.alloc (.cells #[.int .u64 0] 82) = wc at mo ⊢
  have bo : Below wb.heap.size wb wc := by rw [← hGO]; exact mo.2
  have DS : Apart4 w.heap.size G1 G2 GO := ⟨by omega, by omega, by omega, by omega, by omega, by omega⟩
  have hI0 : SumI w w.heap.size w.heap.size G1 G2 GO (numU x) (numU y) (fun _ => 0) 0 wc := ⟨m0.below bo, m1.below bo, m2.below bo, mo.1, below_on bel bo⟩
  have hloR : w.heap.size ≤ G2 := by omega
  clear m0 m1 m2 mo bo bel sz hG1 hG2 hGO hz
  unfold tellV
  go_wp2_with (fail)
  go_loopw [8] (fun i wr => ∃ k : Nat, k ≤ 4 ∧ i = .int .i64 k ∧ SumI w w.heap.size w.heap.size G1 G2 GO (mixU (digU (plusT x y) 0) (numU x) k) (numU y) (fun _ => 0) (carU (plusT x y) 0 k) wr)
    (fun i _ => 4 - (intOf i).toNat)
  case atStart => exact ⟨0, by omega, rfl, hI0.congr fun i _ => (mixU_zero _ _ i).symm⟩
  case round =>
    clear hI0
    obtain ⟨k, hk, rfl, hI⟩ := hrel
    by_cases hlt : k < 4
    · have hlt' : (k : Int) < 4 := by omega
      have hD := hI.drew
      obtain ⟨wX, hwX⟩ : ∃ wX, wX = wr.drew := ⟨_, rfl⟩
      rw [← hwX] at hD
      have cn := hD.n.cell k hlt
      rw [mixU_at] at cn
      have cm := hD.m.cell k hlt
      have co := hD.o.cell 0 (by decide)
      have fo := hD.o.frozen 0
      have fn0 := hD.n.frozen k
      have la := numU_range x k
      have lb := numU_range y k
      have lc := HC.out k
      have h2 := (hD.tell DS (carU (plusT x y) 0 (k + 1))).store DS k (digU (plusT x y) 0 k)
      replace h2 := h2.congr fun i _ => mixU_step (digU (plusT x y) 0) (numU x) k i
      have h1 := hD.tell DS (carU (plusT x y) 0 (k + 1))
      have cn1 := h1.n.cell k hlt
      rw [mixU_at] at cn1
      have cm1 := h1.m.cell k hlt
      have fn1 := h1.n.frozen k
      have cm2 := h2.m.cell k hlt
      have EQ : Hid (plusT x y k = numU x k + numU y k * 1) := by show numU x k + numU y k = _; (try unfold bU); omega
      have CT := fun h h' => tell_any GO (numU x k) (numU y k) 1 (carU (plusT x y) 0 k) (digU (plusT x y) 0 k) (carU (plusT x y) 0 (k + 1)) wX la (by unfold bU at lb ⊢; omega) (by decide) lc (by rw [← EQ.out]; rfl) (by rw [← EQ.out]; rfl) h h'
      have CT' := CT co fo
      clear CT EQ
      have ld := digU_range (plusT x y) 0 k
      obtain ⟨o, ho⟩ : ∃ o, o = carU (plusT x y) 0 (k + 1) := ⟨_, rfl⟩
      rw [← ho] at CT' h1 h2 cn1 cm1 cm2 fn1
      replace ho : Hid (o = carU (plusT x y) 0 (k + 1)) := ho
      generalize digU (plusT x y) 0 k = r at CT' h2 cm2 ld
      generalize numU x k = a at cn cn1 CT' la
      generalize numU y k = b at cm cm1 cm2 CT' lb
      generalize carU (plusT x y) 0 k = cc at co lc
      unfold bU at la lb lc ld
      clear co fo hI h1 hD
      replace hwX : Hid (wX = wr.drew) := hwX
      go_wp2_with (fail)
      refine wp_region_noPanic ?_
      refine wp_region_T 10 (fun X => X.cell? ⟨G1, k, none⟩ = some (.int .u64 b)) (fun X => X.cell? ⟨w.heap.size, k, none⟩ = some (.int .u64 a)) (by kernel_rfl) ?_
      rw [← hwX.out]
      clear hwX
      refine anyT_takeT (i := 0) (v := .int .i64 (k : Int)) rfl (by kernel_rfl) (by kernel_rfl) (by kernel_rfl) (by kernel_rfl) (fun _ _ _ h => h) (Or.inl ⟨by rfl, fun X hSw => by ((try dsimp only at hSw); go_simp)⟩) cm (fun _ => cn) ?_
      simp only [Act.put, List.getElem_toArray, List.getElem_cons_zero, List.setIfInBounds_toArray, List.set_cons_zero, List.set_cons_succ]
      refine anyT_takeT (i := 1) (v := tellV GO) rfl (by kernel_rfl) (by kernel_rfl) (by kernel_rfl) (by kernel_rfl) (fun _ _ _ h => h) (Or.inl ⟨by rfl, fun X hSw => by ((try dsimp only at hSw); unfold tellV; go_simp)⟩) cm (fun _ => cn) ?_
      simp only [Act.put, List.getElem_toArray, List.getElem_cons_zero, List.getElem_cons_succ, List.setIfInBounds_toArray, List.set_cons_zero, List.set_cons_succ]
      refine anyT_takeT (i := 2) (v := .int .i64 (k : Int)) rfl (by kernel_rfl) (by kernel_rfl) (by kernel_rfl) (by kernel_rfl) (fun _ _ _ h => h) (Or.inl ⟨by rfl, fun X hSw => by ((try dsimp only at hSw); go_simp)⟩) cm (fun _ => cn) ?_
      simp only [Act.put, List.getElem_toArray, List.getElem_cons_zero, List.getElem_cons_succ, List.setIfInBounds_toArray, List.set_cons_zero, List.set_cons_succ]
      refine anyT_takeT (i := 3) (v := .pointer (some ⟨w.heap.size, k, none⟩)) rfl (by kernel_rfl) (by kernel_rfl) (by kernel_rfl) (by kernel_rfl) (fun _ _ _ h => h) (Or.inl ⟨by rfl, fun X hSw => by ((try dsimp only at hSw); go_simp)⟩) cm (fun _ => cn) ?_
      simp only [Act.put, List.getElem_toArray, List.getElem_cons_zero, List.getElem_cons_succ, List.setIfInBounds_toArray, List.set_cons_zero, List.set_cons_succ]
      refine anyT_takeS (i := 4) (v := .int .u64 a) rfl rfl (by kernel_rfl) (by kernel_rfl) (by kernel_rfl) (by kernel_rfl) (by kernel_rfl) (fun _ _ _ h => h) (Or.inl ⟨by rfl, fun X hSw => by (obtain ⟨q0, q1⟩ := hSw; go_simp)⟩) cm cn ?_
      simp only [Act.put, List.getElem_toArray, List.getElem_cons_zero, List.getElem_cons_succ, List.setIfInBounds_toArray, List.set_cons_zero, List.set_cons_succ]
      refine anyT_takeT (i := 5) (v := .int .i64 (k : Int)) rfl (by kernel_rfl) (by kernel_rfl) (by kernel_rfl) (by kernel_rfl) (fun _ _ _ h => h) (Or.inl ⟨by rfl, fun X hSw => by ((try dsimp only at hSw); go_simp)⟩) cm (fun _ => cn) ?_
      simp only [Act.put, List.getElem_toArray, List.getElem_cons_zero, List.getElem_cons_succ, List.setIfInBounds_toArray, List.set_cons_zero, List.set_cons_succ]
      refine anyT_takeT (i := 6) (v := .pointer (some ⟨G1, k, none⟩)) rfl (by kernel_rfl) (by kernel_rfl) (by kernel_rfl) (by kernel_rfl) (fun _ _ _ h => h) (Or.inl ⟨by rfl, fun X hSw => by ((try dsimp only at hSw); go_simp)⟩) cm (fun _ => cn) ?_
      simp only [Act.put, List.getElem_toArray, List.getElem_cons_zero, List.getElem_cons_succ, List.setIfInBounds_toArray, List.set_cons_zero, List.set_cons_succ]
      refine anyT_takeT (i := 7) (v := .int .u64 b) rfl (by kernel_rfl) (by kernel_rfl) (by kernel_rfl) (by kernel_rfl) (fun _ _ _ h => h) (Or.inl ⟨by rfl, fun X hSw => by ((try dsimp only at hSw); go_simp)⟩) cm (fun _ => cn) ?_
      simp only [Act.put, List.getElem_toArray, List.getElem_cons_zero, List.getElem_cons_succ, List.setIfInBounds_toArray, List.set_cons_zero, List.set_cons_succ]
      refine anyT_one (i := 8) (by kernel_rfl) rfl (fun K hK => ?_)
      unfold tellV
      go_simp
      refine CT'.mono ?_
      rintro e w9 ⟨rfl, rfl⟩
      go_wp2_with (fail)
      refine hK.out _ _ cm1 (fun _ => cn1) ?_
      clear hK K
      refine anyT_takeT (i := 9) (v := .pointer (some ⟨w.heap.size, k, none⟩)) rfl (by kernel_rfl) (by kernel_rfl) (by kernel_rfl) (by kernel_rfl) (fun _ _ _ h => h) (Or.inl ⟨by rfl, fun X hSw => by ((try dsimp only at hSw); go_simp)⟩) cm1 (fun _ => cn1) ?_
      simp only [Act.put, List.getElem_toArray, List.getElem_cons_zero, List.getElem_cons_succ, List.setIfInBounds_toArray, List.set_cons_zero, List.set_cons_succ]
      refine anyT_one (i := 10) (by kernel_rfl) rfl (fun K hK => ?_)
      go_simp
      refine hK.out _ _ cm2 (fun h => by cases h) ?_
      clear hK K
      refine anyT_done (by kernel_rfl) ?_ _
      refine NoPanic.normal ?_
      clear cm cn cm1 cn1 fn0 fn1 cm2 CT'
      go_wp2_with (fail)
      go_roundw
      case rel => exact ⟨k + 1, by omega, by go_num, by rw [← ho.out]; exact h2⟩
      case measure => simp [intOf]; omega
    · obtain rfl : k = 4 := by omega
      have hno : ¬ ((4 : Nat) : Int) < 4 := by omega
      replace hI := hI.congr (f' := U) fun i hi => by rw [mixU_end _ _ hi, HD.out i hi]
      have hra := hI.n.range
      have hr := hI.r
      have bel := hI.b
      have hsw := hI.n.lt
      clear HC HD hI
      go_wp2_with (refine wpList_load_mid rfl 84 _ rfl w.heap.size 0 rfl (uV U 4) _ hra Tryz.underlying84 rfl sizeU ?_)
      refine (CR _).mono ?_
      rintro e w2 ⟨rfl, b2⟩
      have hr2 := hr.below b2
      have bel2 := below_on bel b2
      have hsz5 := b2.size
      clear hr bel hra b2 CR
      have hp := RowU.put hr2 (f' := V)
      have hth := RowU.there2 hr2 (f' := V)
      have hbel := Below.grown bel2 hp.2 (by omega) (fun k hk => by cases hk; exact hloR)
      have hld := run_loadVar_mid (P := Tryz.prog) _ G2 0 84 _ _ hp.1.range Tryz.underlying84 rfl sizeU
      clear hp
      go_wp2_with (refine wpList_store_mid rfl 84 _ _ rfl G2 0 (uV V 4).toArray rfl rfl hth sizeU2 (all_oneCell_toArray (uV_one V 4)) ?_)
      (try simp only [Exit.inBlock, Exit.then])
      refine bodyPost_ret (v := .agg (uV V 4).toArray) ?_ rfl ⟨rfl, hbel⟩
      simp [results, asAddr, Act.put, hld]

set_option maxRecDepth 100000 in
set_option maxHeartbeats 8000000 in
theorem minus_any (x y : Int) (w : World) (hx0 : 0 ≤ x) (hx : x < fldP) (hy0 : 0 ≤ y) (hy : y < fldP) :
    Calls Tryz.prog 132 #[uP x, uP y] w fun e w' => e = .returned (uP ((x - y) % fldP)) ∧ Below w.heap.size w w' := by
  have h4 := b4U
  have CP := fun X => fieldP_any X
  have CL := fun X => less_any fldP y X (by omega) (by omega) hy0 (by omega)
  have CS := fun X => plus_any x (fldP - y) X hx0 (by omega) (by omega)
  have e1 : (fldP - y) % bU ^ 4 = fldP - y := Int.emod_eq_of_lt (by omega) (by omega)
  have e2 : (x + (fldP - y)) % fldP = (x - y) % fldP := by rw [show x + (fldP - y) = (x - y) + fldP by omega, Int.add_emod_right]
  have e3 : decide (y ≤ fldP) = true := by simp; omega
  rw [e1, e3] at CL
  simp only [e2] at CS
  clear hx0 hx hy0 hy h4 e1 e2 e3
  unfold uP at CP CL CS
  have hz := (zero_of_info infoU4).1
  unfold uP
  obtain ⟨V, hV⟩ : ∃ V, V = numU ((x - y) % fldP) := ⟨_, rfl⟩
  rw [← hV] at CS ⊢
  clear hV
  obtain ⟨L, hL⟩ : ∃ L, L = numU (fldP - y) := ⟨_, rfl⟩
  rw [← hL] at CS CL
  clear hL
  obtain ⟨A, hA⟩ : ∃ A, A = (uV (numU x) 4).toArray := ⟨_, rfl⟩
  obtain ⟨B, hB⟩ : ∃ B, B = (uV (numU y) 4).toArray := ⟨_, rfl⟩
  obtain ⟨Z, hZ⟩ : ∃ Z, Z = (uV (fun _ => 0) 4).toArray := ⟨_, rfl⟩
  obtain ⟨m0, m1, m2, bel, sz⟩ := rows3 w (numU x) (numU y) (fun _ => 0) hA hB hZ
  rw [← hA, ← hB]
  rw [← hZ] at hz
  clear hA hB
  replace hZ : Hid (Z = (uV (fun _ => 0) 4).toArray) := hZ
  go_enter Tryz.func132, Tryz.ntmps132
  go_wp2_with (fail)
  obtain ⟨G1, hG1⟩ : ∃ G1, G1 = w.heap.size + 1 := ⟨_, rfl⟩
  obtain ⟨G2, hG2⟩ : ∃ G2, G2 = G1 + 1 := ⟨_, rfl⟩
  rw [← hG1] at m1 m2 sz ⊢
  rw [← hG2] at m2 sz ⊢
  generalize ((w.alloc (.cells A 84)).alloc (.cells B 84)).alloc (.cells Z 84) = wb at m0 m1 m2 bel sz ⊢
  have hn := m0.drew
  have hm := m1.drew
  have hr := m2.drew
  replace bel := bel.drew
  have hlo2 : w.heap.size ≤ G2 := by omega
  clear m0 m1 m2 sz hG1 hG2
  obtain ⟨W, hW⟩ : ∃ W, W = wb.drew := ⟨_, rfl⟩
  rw [← hW] at hn hm hr bel
  replace hW : Hid (W = wb.drew) := hW
  refine wp_region_noPanic ?_
  refine wp_region_T 99 (fun X => X.rangeAt G1 0 (uV (numU y) 4)) (fun _ => True) (by kernel_rfl) ?_
  rw [← hW.out]
  clear hW
  have kX : Below W.heap.size W W := Below.refl _ _
  have hLO : Hid (∃ LO, LO = W.heap.size) := ⟨_, rfl⟩
  obtain ⟨LO, hLO⟩ := hLO.out
  replace hLO : Hid (LO = W.heap.size) := hLO
  refine anyT_takeT (i := 1) rfl (by kernel_rfl) (by kernel_rfl) (by kernel_rfl) (by kernel_rfl) (fun _ _ _ h => h) (yieldsIf_load_mid (by rfl) _ _ rfl _ _ rfl (uV (numU y) 4) _ (fun _ hw => hw) Tryz.underlying84 rfl sizeU) (hm.below kX).range (fun _ => trivial) ?_
  simp only [Act.put, List.getElem_toArray, List.getElem_cons_zero, List.getElem_cons_succ, List.setIfInBounds_toArray, List.set_cons_zero, List.set_cons_succ]
  refine anyT_two (i := 0) (j := 6) (by kernel_rfl) rfl rfl (fun K hK => ?_) (fun K hK => ?_)
  · go_simp
    refine (CP _).mono ?_
    rintro e wY1 ⟨rfl, bY1⟩
    have kY1 := below_on kX bY1
    go_wp2_with (fail)
    refine hK.out _ _ (hm.below kY1).range (fun _ => trivial) ?_
    clear hK K
    refine anyT_two (i := 2) (j := 6) (by kernel_rfl) rfl rfl (fun K hK => ?_) (fun K hK => ?_)
    · go_simp
      refine (CL _).mono ?_
      rintro e wY2 ⟨rfl, bY2⟩
      have kY2 := below_on kY1 bY2
      go_wp2_with (fail)
      refine hK.out _ _ (hm.below kY2).range (fun _ => trivial) ?_
      clear hK K
      refine anyT_takeT (i := 3) (v := .tuple #[.agg (uV L 4).toArray, .bool true]) rfl (by kernel_rfl) (by kernel_rfl) (by kernel_rfl) (by kernel_rfl) (fun _ _ _ h => h) (Or.inl ⟨by rfl, fun X hSw => by ((try dsimp only at hSw); go_simp)⟩) (hm.below kY2).range (fun _ => trivial) ?_
      simp only [Act.put, List.getElem_toArray, List.getElem_cons_zero, List.getElem_cons_succ, List.setIfInBounds_toArray, List.set_cons_zero, List.set_cons_succ]
      refine anyT_takeT (i := 4) (v := .agg (uV L 4).toArray) rfl (by kernel_rfl) (by kernel_rfl) (by kernel_rfl) (by kernel_rfl) (fun _ _ _ h => h) (Or.inl ⟨by rfl, fun X hSw => by ((try dsimp only at hSw); go_simp)⟩) (hm.below kY2).range (fun _ => trivial) ?_
      simp only [Act.put, List.getElem_toArray, List.getElem_cons_zero, List.getElem_cons_succ, List.setIfInBounds_toArray, List.set_cons_zero, List.set_cons_succ]
      refine anyT_takeT (i := 5) (v := .bool true) rfl (by kernel_rfl) (by kernel_rfl) (by kernel_rfl) (by kernel_rfl) (fun _ _ _ h => h) (Or.inl ⟨by rfl, fun X hSw => by ((try dsimp only at hSw); go_simp)⟩) (hm.below kY2).range (fun _ => trivial) ?_
      simp only [Act.put, List.getElem_toArray, List.getElem_cons_zero, List.getElem_cons_succ, List.setIfInBounds_toArray, List.set_cons_zero, List.set_cons_succ]
      refine anyT_one (i := 6) (by kernel_rfl) rfl (fun K hK => ?_)
      go_simp
      have h3_3 := RowU.made wY2 84 4 LO (fun _ => 0) (by decide) (by rw [hLO.out]; exact Below.size kY2)
      rw [← hZ.out] at h3_3
      have bY3 : Below wY2.heap.size wY2 (wY2.alloc (.cells Z 84)) := (Below.refl _ _).alloc (Nat.le_refl _) _
      have kY3 := below_on kY2 bY3
      refine hK.out _ _ (hm.below kY3).range (fun _ => trivial) ?_
      clear hK K
      generalize wY2.alloc (.cells Z 84) = wY3 at h3_3 bY3 kY3 ⊢
      obtain ⟨g3, hg3⟩ : ∃ g3, g3 = wY2.heap.size := ⟨_, rfl⟩
      rw [← hg3] at h3_3 ⊢
      clear hg3
      have hp := RowU.put h3_3 (f' := L)
      have hth2 := RowU.there2 h3_3 (f' := L)
      have hlt3 := RowU.lt h3_3
      rw [hLO.out] at hlt3
      have hnw := hn.lt
      have hrw := hr.lt
      have hmw := hm.lt
      have hn2 := (hn.below kY3).kept hp.2 (by omega)
      have hr2 := (hr.below kY3).kept hp.2 (by omega)
      have hm2 := (hm.below kY3).kept hp.2 (by omega)
      have bel1 := below_on bel kY3
      have hsk := Below.size kY3
      have bel2 := bel1.grown hp.2 (by omega) (fun k hk => by cases hk; omega)
      have h32 := hp.1
      refine anyT_one (i := 7) (by kernel_rfl) rfl (fun K hK => ?_)
      refine wp_store_mid 84 _ _ rfl g3 0 (uV L 4).toArray rfl rfl hth2 sizeU2 (all_oneCell_toArray (uV_one L 4)) ?_
      refine hK.out _ _ hm2.range (fun _ => trivial) ?_
      clear hK K
      refine anyT_takeT (i := 8) (v := .bool true) rfl (by kernel_rfl) (by kernel_rfl) (by kernel_rfl) (by kernel_rfl) (fun _ _ _ h => h) (Or.inl ⟨by rfl, fun X hSw => by ((try dsimp only at hSw); go_simp)⟩) hm2.range (fun _ => trivial) ?_
      simp only [Act.put, List.getElem_toArray, List.getElem_cons_zero, List.getElem_cons_succ, List.setIfInBounds_toArray, List.set_cons_zero, List.set_cons_succ]
      refine anyT_done (by kernel_rfl) ?_ _
      refine NoPanic.normal ?_
      generalize World.setCells wY3 g3 0 _ = w5 at hp hn2 hr2 hm2 bel2 h32 ⊢
      have hrn := hn2.range
      have hr3 := h32.range
      have hws := hn2.lt
      clear hp hth2 h3_3 hlt3 hnw hrw hmw bel1 CP CL hn2 hm2 h32 hsk
      go_wp2_with (first | (refine wpList_load_mid rfl 84 _ rfl w.heap.size 0 rfl (uV (numU x) 4) _ hrn Tryz.underlying84 rfl sizeU ?_) | (refine wpList_load_mid rfl 84 _ rfl g3 0 rfl (uV L 4) _ hr3 Tryz.underlying84 rfl sizeU ?_))
      refine (CS _).mono ?_
      rintro e w6 ⟨rfl, b6⟩
      have hr6 := hr2.below b6
      have bel6 := below_on bel2 b6
      have hsz6 := b6.size
      clear hr2 bel2 b6 CS hrn hr3
      have hp := RowU.put hr6 (f' := V)
      have hth := RowU.there2 hr6 (f' := V)
      have hbel := Below.grown bel6 hp.2 (by omega) (fun k hk => by cases hk; exact hlo2)
      have hld := run_loadVar_mid (P := Tryz.prog) _ G2 0 84 _ _ hp.1.range Tryz.underlying84 rfl sizeU
      clear hp
      go_wp2_with (refine wpList_store_mid rfl 84 _ _ rfl G2 0 (uV V 4).toArray rfl rfl hth sizeU2 (all_oneCell_toArray (uV_one V 4)) ?_)
      (try simp only [Exit.inBlock, Exit.then])
      refine bodyPost_ret (v := .agg (uV V 4).toArray) ?_ rfl ⟨rfl, hbel⟩
      simp [results, asAddr, Act.put, hld]
    · go_simp
      have h3_4 := RowU.made wY1 84 4 LO (fun _ => 0) (by decide) (by rw [hLO.out]; exact Below.size kY1)
      rw [← hZ.out] at h3_4
      have bY4 : Below wY1.heap.size wY1 (wY1.alloc (.cells Z 84)) := (Below.refl _ _).alloc (Nat.le_refl _) _
      have kY4 := below_on kY1 bY4
      refine hK.out _ _ (hm.below kY4).range (fun _ => trivial) ?_
      clear hK K
      generalize wY1.alloc (.cells Z 84) = wY4 at h3_4 bY4 kY4 ⊢
      obtain ⟨g3, hg3⟩ : ∃ g3, g3 = wY1.heap.size := ⟨_, rfl⟩
      rw [← hg3] at h3_4 ⊢
      clear hg3
      refine anyT_one (i := 2) (by kernel_rfl) rfl (fun K hK => ?_)
      go_simp
      refine (CL _).mono ?_
      rintro e wY5 ⟨rfl, bY5⟩
      have kY5 := below_on kY4 bY5
      have h3_5 := RowU.below h3_4 bY5
      go_wp2_with (fail)
      refine hK.out _ _ (hm.below kY5).range (fun _ => trivial) ?_
      clear hK K
      refine anyT_takeT (i := 3) (v := .tuple #[.agg (uV L 4).toArray, .bool true]) rfl (by kernel_rfl) (by kernel_rfl) (by kernel_rfl) (by kernel_rfl) (fun _ _ _ h => h) (Or.inl ⟨by rfl, fun X hSw => by ((try dsimp only at hSw); go_simp)⟩) (hm.below kY5).range (fun _ => trivial) ?_
      simp only [Act.put, List.getElem_toArray, List.getElem_cons_zero, List.getElem_cons_succ, List.setIfInBounds_toArray, List.set_cons_zero, List.set_cons_succ]
      refine anyT_takeT (i := 4) (v := .agg (uV L 4).toArray) rfl (by kernel_rfl) (by kernel_rfl) (by kernel_rfl) (by kernel_rfl) (fun _ _ _ h => h) (Or.inl ⟨by rfl, fun X hSw => by ((try dsimp only at hSw); go_simp)⟩) (hm.below kY5).range (fun _ => trivial) ?_
      simp only [Act.put, List.getElem_toArray, List.getElem_cons_zero, List.getElem_cons_succ, List.setIfInBounds_toArray, List.set_cons_zero, List.set_cons_succ]
      refine anyT_takeT (i := 5) (v := .bool true) rfl (by kernel_rfl) (by kernel_rfl) (by kernel_rfl) (by kernel_rfl) (fun _ _ _ h => h) (Or.inl ⟨by rfl, fun X hSw => by ((try dsimp only at hSw); go_simp)⟩) (hm.below kY5).range (fun _ => trivial) ?_
      simp only [Act.put, List.getElem_toArray, List.getElem_cons_zero, List.getElem_cons_succ, List.setIfInBounds_toArray, List.set_cons_zero, List.set_cons_succ]
      have hp := RowU.put h3_5 (f' := L)
      have hth2 := RowU.there2 h3_5 (f' := L)
      have hlt3 := RowU.lt h3_5
      rw [hLO.out] at hlt3
      have hnw := hn.lt
      have hrw := hr.lt
      have hmw := hm.lt
      have hn2 := (hn.below kY5).kept hp.2 (by omega)
      have hr2 := (hr.below kY5).kept hp.2 (by omega)
      have hm2 := (hm.below kY5).kept hp.2 (by omega)
      have bel1 := below_on bel kY5
      have hsk := Below.size kY5
      have bel2 := bel1.grown hp.2 (by omega) (fun k hk => by cases hk; omega)
      have h32 := hp.1
      refine anyT_one (i := 7) (by kernel_rfl) rfl (fun K hK => ?_)
      refine wp_store_mid 84 _ _ rfl g3 0 (uV L 4).toArray rfl rfl hth2 sizeU2 (all_oneCell_toArray (uV_one L 4)) ?_
      refine hK.out _ _ hm2.range (fun _ => trivial) ?_
      clear hK K
      refine anyT_takeT (i := 8) (v := .bool true) rfl (by kernel_rfl) (by kernel_rfl) (by kernel_rfl) (by kernel_rfl) (fun _ _ _ h => h) (Or.inl ⟨by rfl, fun X hSw => by ((try dsimp only at hSw); go_simp)⟩) hm2.range (fun _ => trivial) ?_
      simp only [Act.put, List.getElem_toArray, List.getElem_cons_zero, List.getElem_cons_succ, List.setIfInBounds_toArray, List.set_cons_zero, List.set_cons_succ]
      refine anyT_done (by kernel_rfl) ?_ _
      refine NoPanic.normal ?_
      generalize World.setCells wY5 g3 0 _ = w5 at hp hn2 hr2 hm2 bel2 h32 ⊢
      have hrn := hn2.range
      have hr3 := h32.range
      have hws := hn2.lt
      clear hp hth2 h3_5 hlt3 hnw hrw hmw bel1 CP CL hn2 hm2 h32 hsk
      go_wp2_with (first | (refine wpList_load_mid rfl 84 _ rfl w.heap.size 0 rfl (uV (numU x) 4) _ hrn Tryz.underlying84 rfl sizeU ?_) | (refine wpList_load_mid rfl 84 _ rfl g3 0 rfl (uV L 4) _ hr3 Tryz.underlying84 rfl sizeU ?_))
      refine (CS _).mono ?_
      rintro e w6 ⟨rfl, b6⟩
      have hr6 := hr2.below b6
      have bel6 := below_on bel2 b6
      have hsz6 := b6.size
      clear hr2 bel2 b6 CS hrn hr3
      have hp := RowU.put hr6 (f' := V)
      have hth := RowU.there2 hr6 (f' := V)
      have hbel := Below.grown bel6 hp.2 (by omega) (fun k hk => by cases hk; exact hlo2)
      have hld := run_loadVar_mid (P := Tryz.prog) _ G2 0 84 _ _ hp.1.range Tryz.underlying84 rfl sizeU
      clear hp
      go_wp2_with (refine wpList_store_mid rfl 84 _ _ rfl G2 0 (uV V 4).toArray rfl rfl hth sizeU2 (all_oneCell_toArray (uV_one V 4)) ?_)
      (try simp only [Exit.inBlock, Exit.then])
      refine bodyPost_ret (v := .agg (uV V 4).toArray) ?_ rfl ⟨rfl, hbel⟩
      simp [results, asAddr, Act.put, hld]
  · go_simp
    have h3_6 := RowU.made W 84 4 LO (fun _ => 0) (by decide) (by rw [hLO.out]; exact Below.size kX)
    rw [← hZ.out] at h3_6
    have bY6 : Below W.heap.size W (W.alloc (.cells Z 84)) := (Below.refl _ _).alloc (Nat.le_refl _) _
    have kY6 := below_on kX bY6
    refine hK.out _ _ (hm.below kY6).range (fun _ => trivial) ?_
    clear hK K
    generalize W.alloc (.cells Z 84) = wY6 at h3_6 bY6 kY6 ⊢
    obtain ⟨g3, hg3⟩ : ∃ g3, g3 = W.heap.size := ⟨_, rfl⟩
    rw [← hg3] at h3_6 ⊢
    clear hg3
    refine anyT_one (i := 0) (by kernel_rfl) rfl (fun K hK => ?_)
    go_simp
    refine (CP _).mono ?_
    rintro e wY7 ⟨rfl, bY7⟩
    have kY7 := below_on kY6 bY7
    have h3_7 := RowU.below h3_6 bY7
    go_wp2_with (fail)
    refine hK.out _ _ (hm.below kY7).range (fun _ => trivial) ?_
    clear hK K
    refine anyT_one (i := 2) (by kernel_rfl) rfl (fun K hK => ?_)
    go_simp
    refine (CL _).mono ?_
    rintro e wY8 ⟨rfl, bY8⟩
    have kY8 := below_on kY7 bY8
    have h3_8 := RowU.below h3_7 bY8
    go_wp2_with (fail)
    refine hK.out _ _ (hm.below kY8).range (fun _ => trivial) ?_
    clear hK K
    refine anyT_takeT (i := 3) (v := .tuple #[.agg (uV L 4).toArray, .bool true]) rfl (by kernel_rfl) (by kernel_rfl) (by kernel_rfl) (by kernel_rfl) (fun _ _ _ h => h) (Or.inl ⟨by rfl, fun X hSw => by ((try dsimp only at hSw); go_simp)⟩) (hm.below kY8).range (fun _ => trivial) ?_
    simp only [Act.put, List.getElem_toArray, List.getElem_cons_zero, List.getElem_cons_succ, List.setIfInBounds_toArray, List.set_cons_zero, List.set_cons_succ]
    refine anyT_takeT (i := 4) (v := .agg (uV L 4).toArray) rfl (by kernel_rfl) (by kernel_rfl) (by kernel_rfl) (by kernel_rfl) (fun _ _ _ h => h) (Or.inl ⟨by rfl, fun X hSw => by ((try dsimp only at hSw); go_simp)⟩) (hm.below kY8).range (fun _ => trivial) ?_
    simp only [Act.put, List.getElem_toArray, List.getElem_cons_zero, List.getElem_cons_succ, List.setIfInBounds_toArray, List.set_cons_zero, List.set_cons_succ]
    refine anyT_takeT (i := 5) (v := .bool true) rfl (by kernel_rfl) (by kernel_rfl) (by kernel_rfl) (by kernel_rfl) (fun _ _ _ h => h) (Or.inl ⟨by rfl, fun X hSw => by ((try dsimp only at hSw); go_simp)⟩) (hm.below kY8).range (fun _ => trivial) ?_
    simp only [Act.put, List.getElem_toArray, List.getElem_cons_zero, List.getElem_cons_succ, List.setIfInBounds_toArray, List.set_cons_zero, List.set_cons_succ]
    have hp := RowU.put h3_8 (f' := L)
    have hth2 := RowU.there2 h3_8 (f' := L)
    have hlt3 := RowU.lt h3_8
    rw [hLO.out] at hlt3
    have hnw := hn.lt
    have hrw := hr.lt
    have hmw := hm.lt
    have hn2 := (hn.below kY8).kept hp.2 (by omega)
    have hr2 := (hr.below kY8).kept hp.2 (by omega)
    have hm2 := (hm.below kY8).kept hp.2 (by omega)
    have bel1 := below_on bel kY8
    have hsk := Below.size kY8
    have bel2 := bel1.grown hp.2 (by omega) (fun k hk => by cases hk; omega)
    have h32 := hp.1
    refine anyT_one (i := 7) (by kernel_rfl) rfl (fun K hK => ?_)
    refine wp_store_mid 84 _ _ rfl g3 0 (uV L 4).toArray rfl rfl hth2 sizeU2 (all_oneCell_toArray (uV_one L 4)) ?_
    refine hK.out _ _ hm2.range (fun _ => trivial) ?_
    clear hK K
    refine anyT_takeT (i := 8) (v := .bool true) rfl (by kernel_rfl) (by kernel_rfl) (by kernel_rfl) (by kernel_rfl) (fun _ _ _ h => h) (Or.inl ⟨by rfl, fun X hSw => by ((try dsimp only at hSw); go_simp)⟩) hm2.range (fun _ => trivial) ?_
    simp only [Act.put, List.getElem_toArray, List.getElem_cons_zero, List.getElem_cons_succ, List.setIfInBounds_toArray, List.set_cons_zero, List.set_cons_succ]
    refine anyT_done (by kernel_rfl) ?_ _
    refine NoPanic.normal ?_
    generalize World.setCells wY8 g3 0 _ = w5 at hp hn2 hr2 hm2 bel2 h32 ⊢
    have hrn := hn2.range
    have hr3 := h32.range
    have hws := hn2.lt
    clear hp hth2 h3_8 hlt3 hnw hrw hmw bel1 CP CL hn2 hm2 h32 hsk
    go_wp2_with (first | (refine wpList_load_mid rfl 84 _ rfl w.heap.size 0 rfl (uV (numU x) 4) _ hrn Tryz.underlying84 rfl sizeU ?_) | (refine wpList_load_mid rfl 84 _ rfl g3 0 rfl (uV L 4) _ hr3 Tryz.underlying84 rfl sizeU ?_))
    refine (CS _).mono ?_
    rintro e w6 ⟨rfl, b6⟩
    have hr6 := hr2.below b6
    have bel6 := below_on bel2 b6
    have hsz6 := b6.size
    clear hr2 bel2 b6 CS hrn hr3
    have hp := RowU.put hr6 (f' := V)
    have hth := RowU.there2 hr6 (f' := V)
    have hbel := Below.grown bel6 hp.2 (by omega) (fun k hk => by cases hk; exact hlo2)
    have hld := run_loadVar_mid (P := Tryz.prog) _ G2 0 84 _ _ hp.1.range Tryz.underlying84 rfl sizeU
    clear hp
    go_wp2_with (refine wpList_store_mid rfl 84 _ _ rfl G2 0 (uV V 4).toArray rfl rfl hth sizeU2 (all_oneCell_toArray (uV_one V 4)) ?_)
    (try simp only [Exit.inBlock, Exit.then])
    refine bodyPost_ret (v := .agg (uV V 4).toArray) ?_ rfl ⟨rfl, hbel⟩
    simp [results, asAddr, Act.put, hld]

end Go.Proofs.YtdjdanpicbaieaaGreatDoor
