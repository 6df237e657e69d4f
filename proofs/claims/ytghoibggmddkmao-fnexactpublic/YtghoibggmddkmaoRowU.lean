/-
  Rows of words of 64 bits in a block that the call made, by their parts; what tells sums (the closure of sums), math/bits' Mul64 and Add64 at this program. Conditions: each law's own.
-/
import Derived.Test.YtghoibggmddkmaoFieldU
import Derived.Test.YtghoibggmddkmaoRegionT
import Derived.Shelf.Bits.Mul64
import Derived.Shelf.Spec.BitsCarry
namespace Go.Proofs.Ytghoibggmddkmao
open Go.RowKit

def uV (f : Nat → Int) (n : Nat) : List Value := (zL f n).map (Value.int .u64)
theorem uV_length (f : Nat → Int) (n : Nat) : (uV f n).length = n := by simp [uV, zL]
theorem uV_get (f : Nat → Int) {n k : Nat} (h : k < n) : (uV f n)[k]? = some (.int .u64 (f k)) := by simp [uV, zL, h]
theorem uV_one (f : Nat → Int) (n : Nat) : ∀ v ∈ uV f n, v.oneCell' = true := by
  intro v hv
  simp only [uV, List.mem_map] at hv
  obtain ⟨x, _, rfl⟩ := hv
  rfl
theorem uV_set (f : Nat → Int) (n k : Nat) (v : Int) : (uV f n).set k (.int .u64 v) = uV (fun i => if i = k then v else f i) n := by
  apply List.ext_getElem?
  intro j
  by_cases hj : j < n
  · by_cases hk : k = j
    · subst hk
      rw [List.getElem?_set_self (by rw [uV_length]; exact hj), uV_get _ hj]
      simp
    · rw [List.getElem?_set_ne hk, uV_get _ hj, uV_get _ hj]
      simp [Ne.symm hk]
  · rw [List.getElem?_eq_none (by simp [uV_length]; omega), List.getElem?_eq_none (by simp [uV_length]; omega)]
theorem uV_congr {f g : Nat → Int} {n : Nat} (h : ∀ i, i < n → f i = g i) : uV f n = uV g n := by
  have e : zL f n = zL g n := List.map_congr_left fun i hi => h i (List.mem_range.1 hi)
  rw [uV, e, uV]
/-- n ints in a block g of their own. -/
def RowU (ty n : Nat) (w : World) (lo g : Nat) (f : Nat → Int) : Prop := w.ownsRow lo ty 1 (.slice (some ⟨g, 0, none⟩) n n) n (uV f n)
section
variable {ty n : Nat} {w w' : World} {lo g : Nat} {f : Nat → Int}
theorem RowU.cell (h : RowU ty n w lo g f) (i : Nat) (hi : i < n) : w.cell? ⟨g, i, none⟩ = some (.int .u64 (f i)) := by
  have h' : w.ownsRow lo ty 1 (.slice (some ⟨g, 0, none⟩) n n) n (uV f n) := h
  rw [h'.cellAt i (by omega), uV_get _ hi]
theorem RowU.frozen (h : RowU ty n w lo g f) (i : Nat) : w.frozen? ⟨g, i, none⟩ = false := World.ownsRow.frozenAt h i
theorem RowU.lt (h : RowU ty n w lo g f) : lo ≤ g ∧ g < w.heap.size := World.ownsRow.lt h g rfl
theorem RowU.below (h : RowU ty n w lo g f) (hb : Below w.heap.size w w') : RowU ty n w' lo g f := owns_below h hb
theorem RowU.kept {r : Nat} (h : RowU ty n w lo g f) (hg : w.grownBy w' (some r)) (hne : g ≠ r) : RowU ty n w' lo g f := World.ownsRow.kept h hg (.inr (by simp [Value.ownBlock]; exact fun e => hne e))
theorem RowU.set (h : RowU ty n w lo g f) (k : Nat) (v : Int) : RowU ty n (w.setCell ⟨g, k, none⟩ (.int .u64 v)) lo g (fun i => if i = k then v else f i) ∧ w.grownBy (w.setCell ⟨g, k, none⟩ (.int .u64 v)) (some g) := by
  have st := World.ownsRow.stored h k (.int .u64 v)
  rw [uV_set] at st
  exact st
theorem RowU.congr {f' : Nat → Int} (h : RowU ty n w lo g f) (he : ∀ i, i < n → f i = f' i) : RowU ty n w lo g f' := by
  unfold RowU at *
  rw [← uV_congr he]
  exact h
theorem RowU.made (w : World) (ty n lo : Nat) (f : Nat → Int) (hn : n ≤ 1000) (hlo : lo ≤ w.heap.size) : RowU ty n (w.alloc (.cells (uV f n).toArray ty)) lo w.heap.size f := by
  refine ⟨by simp [uV_length], .inr ⟨w.heap.size, n, _, rfl, hlo, heap_alloc_new w _, Nat.le_refl _, by unfold maxLen; omega, by simp [uV_length], ?_⟩⟩
  rw [List.take_of_length_le (by simp [uV_length])]
theorem RowU.range (h : RowU ty n w lo g f) : w.rangeAt g 0 (uV f n) := by
  intro j v hv
  have hj : j < n := by have := (List.getElem?_eq_some_iff.1 hv).1; rwa [uV_length] at this
  rw [Nat.zero_add, World.ownsRow.cellAt h j (by omega), hv]
theorem RowU.there (h : RowU ty n w lo g f) : w.there g 0 n := by
  intro j hj
  rw [Nat.zero_add, h.cell j hj]
  exact ⟨rfl, h.frozen j⟩
theorem RowU.put {f' : Nat → Int} (h : RowU ty n w lo g f) : RowU ty n (w.setCells g 0 (uV f' n)) lo g f' ∧ w.grownBy (w.setCells g 0 (uV f' n)) (some g) := by
  have k := zPut (uV f' n) 0 w (uV f n) (by rw [uV_length]; omega) (uV_length f n) h
  refine ⟨?_, k.2⟩
  have k1 := k.1
  rw [List.take_zero, List.nil_append] at k1
  exact k1
end
theorem infoU4 : (Try.prog.info? 38).map (fun i => (i.zero, i.size)) = some (some (.agg (uV (fun _ => 0) 4).toArray), 4) := by kernel_rfl

/-- The value of a number of four parts. -/
def uP (z : Int) : Value := .agg (uV (numU z) 4).toArray

set_option maxRecDepth 100000 in
set_option maxHeartbeats 2000000 in
theorem mul64_any (x y : Nat) (hx : x < 18446744073709551616) (hy : y < 18446744073709551616) (w : World) :
    Calls Try.prog 52 #[.int .u64 x, .int .u64 y] w fun e w' => e = .returned (.tuple #[.int .u64 ((x * y / 18446744073709551616 : Nat) : Int), .int .u64 ((x * y % 18446744073709551616 : Nat) : Int)]) ∧ w' = w := by
  obtain ⟨bd, bt, bw, hhi⟩ := Lib.mul64_hi x y hx hy
  have ba := Lib.half_mul_le (a := x / 4294967296) (b := y / 4294967296) (by omega) (by omega)
  have bb := Lib.half_mul_le (a := x / 4294967296) (b := y % 4294967296) (by omega) (by omega)
  have bc := Lib.half_mul_le (a := x % 4294967296) (b := y / 4294967296) (by omega) (by omega)
  have ba' : x / 4294967296 * (y / 4294967296) < 18446744073709551616 := by omega
  have bb' : x / 4294967296 * (y % 4294967296) < 18446744073709551616 := by omega
  have bc' : x % 4294967296 * (y / 4294967296) < 18446744073709551616 := by omega
  have bh1 : x / 4294967296 * (y / 4294967296) + (x / 4294967296 * (y % 4294967296) + x % 4294967296 * (y % 4294967296) / 4294967296) / 4294967296 < 18446744073709551616 := by omega
  have bh : x / 4294967296 * (y / 4294967296) + (x / 4294967296 * (y % 4294967296) + x % 4294967296 * (y % 4294967296) / 4294967296) / 4294967296 + ((x / 4294967296 * (y % 4294967296) + x % 4294967296 * (y % 4294967296) / 4294967296) % 4294967296 + x % 4294967296 * (y / 4294967296)) / 4294967296 < 18446744073709551616 := by omega
  go_enter Try.func52, Try.ntmps52
  go_wp2
  simp only [Mul64.maskN x hx, Mul64.maskN y hy, Mul64.divN, Mul64.mulN, Mul64.addN, Mul64.wrapN _ bd, Mul64.wrapN _ bb', Mul64.wrapN _ bt, Mul64.maskN _ bt, Mul64.wrapN _ bc', Mul64.wrapN _ bw, Mul64.wrapN _ ba', Mul64.wrapN _ bh1, Mul64.wrapN _ bh, Mul64.wrapM (x * y)]
  rw [hhi]
  go_ret2
  exact ⟨rfl, rfl⟩
theorem add64_run (x y c : Nat) (hc : c ≤ 1) (w : World) :
    (callFunc 53 #[.int .u64 x, .int .u64 y, .int .u64 c]).run Try.prog w =
      .ok (.value (.tuple #[.int .u64 (((x + y + c) % 18446744073709551616 : Nat) : Int), .int .u64 (((x + y + c) / 18446744073709551616 : Nat) : Int)])) w := by
  rw [run_callFunc_extern Try.func53 (by kernel_rfl) (by kernel_rfl) (by kernel_rfl) (e := add64Entry) (by kernel_rfl), run_add64 x y c (by omega) (by omega) (by omega) (by omega)]
  simp only [Result.andThen]
  congr 5 <;> omega
/-- Add64 of whole numbers, nothing carried in. -/
theorem add64_int (x y s v : Int) (hx : 0 ≤ x) (hy : 0 ≤ y) (hs : (x + y) % 18446744073709551616 = s) (hv : (x + y) / 18446744073709551616 = v) (w : World) :
    (callFunc 53 #[.int .u64 x, .int .u64 y, .int .u64 0]).run Try.prog w = .ok (.value (.tuple #[.int .u64 s, .int .u64 v])) w := by
  obtain ⟨a, rfl⟩ : ∃ a : Nat, x = a := ⟨x.toNat, by omega⟩
  obtain ⟨b, rfl⟩ : ∃ b : Nat, y = b := ⟨y.toNat, by omega⟩
  have h := add64_run a b 0 (by omega) w
  have e1 : (((a + b + 0) % 18446744073709551616 : Nat) : Int) = s := by omega
  have e2 : (((a + b + 0) / 18446744073709551616 : Nat) : Int) = v := by omega
  rw [e1, e2] at h
  exact h
theorem mul64_int (x y h l : Int) (hx : 0 ≤ x ∧ x < 18446744073709551616) (hy : 0 ≤ y ∧ y < 18446744073709551616) (hh : x * y / 18446744073709551616 = h) (hl : x * y % 18446744073709551616 = l) (w : World) :
    Calls Try.prog 52 #[.int .u64 x, .int .u64 y] w fun e w' => e = .returned (.tuple #[.int .u64 h, .int .u64 l]) ∧ w' = w := by
  obtain ⟨a, rfl⟩ : ∃ a : Nat, x = a := ⟨x.toNat, by omega⟩
  obtain ⟨b, rfl⟩ : ∃ b : Nat, y = b := ⟨y.toNat, by omega⟩
  have k := mul64_any a b (by omega) (by omega) w
  have e1 : ((a * b / 18446744073709551616 : Nat) : Int) = h := by rw [← hh, Int.natCast_ediv, Int.natCast_mul]; rfl
  have e2 : ((a * b % 18446744073709551616 : Nat) : Int) = l := by rw [← hl, Int.natCast_emod, Int.natCast_mul]; rfl
  rw [e1, e2] at k
  exact k

end Go.Proofs.Ytghoibggmddkmao
