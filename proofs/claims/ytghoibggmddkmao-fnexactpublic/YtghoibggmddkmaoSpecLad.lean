/-
  What the specification's l9Ladder answers: the bytes of the point's number. Conditions: 32 bytes; parts of 16 bits or nearly so.
-/
import Derived.Test.YtghoibggmddkmaoLadMath
namespace Go.Proofs.Ytghoibggmddkmao
open Go.RowKit

theorem szZ {f : Nat → Int} : (Try.prog.info? 32).map (·.size) = some (zV f 16).length := by rw [zV_length]; exact (zero_of_info infoZ16).2
theorem szZ2 {f : Nat → Int} : (Try.prog.info? 32).map (·.size) = some (zV f 16).toArray.size := by
  have : (zV f 16).toArray.size = 16 := by simp [zV_length]
  rw [this]; exact (zero_of_info infoZ16).2
theorem RowZ.there2 {ty : Nat} {w : World} {lo g : Nat} {f f' : Nat → Int} (h : RowZ ty 16 w lo g f) : w.there g 0 (zV f' 16).toArray.size := by
  have : (zV f' 16).toArray.size = 16 := by simp [zV_length]
  rw [this]; exact h.there
theorem RowZ.drew {ty n : Nat} {w : World} {lo g : Nat} {f : Nat → Int} (h : RowZ ty n w lo g f) : RowZ ty n w.drew lo g f := h.below (Below.refl _ _).drew
/-- A list of 16 parts: f's. -/
structure IsZ (L : List Value) (f : Nat → Int) : Prop where
  eq : zV f 16 = L
theorem IsZ.sz {L : List Value} {f : Nat → Int} (h : IsZ L f) : (Try.prog.info? 32).map (·.size) = some L.length := by rw [← h.eq]; exact szZ
theorem IsZ.sz2 {L : List Value} {f : Nat → Int} (h : IsZ L f) : (Try.prog.info? 32).map (·.size) = some L.toArray.size := by rw [← h.eq]; exact szZ2
theorem IsZ.one {L : List Value} {f : Nat → Int} (h : IsZ L f) : ∀ v ∈ L, v.oneCell' = true := by rw [← h.eq]; exact zV_one f 16
theorem IsZ.range {L : List Value} {f : Nat → Int} {ty : Nat} {w : World} {lo g : Nat} (h : IsZ L f) (r : RowZ ty 16 w lo g f) : w.rangeAt g 0 L := by rw [← h.eq]; exact r.range
/-- A new variable with a value. -/
theorem IsZ.made {L : List Value} {f : Nat → Int} (h : IsZ L f) (w : World) (lo : Nat) (hlo : lo ≤ w.heap.size) {Z : Array Value} (hZ : Z = (zV (fun _ => 0) 16).toArray) :
    RowZ 32 16 ((w.alloc (.cells Z 32)).setCells w.heap.size 0 L) lo w.heap.size f ∧ Below w.heap.size w ((w.alloc (.cells Z 32)).setCells w.heap.size 0 L) ∧ (w.alloc (.cells Z 32)).there w.heap.size 0 L.toArray.size := by
  have m := RowZ.made w 32 16 lo (fun _ => 0) (by decide) hlo
  rw [← hZ] at m
  have p := m.put (f' := f)
  have t := m.there2 (f' := f)
  have b : Below w.heap.size w (w.alloc (.cells Z 32)) := (Below.refl _ _).alloc (Nat.le_refl _) _
  rw [h.eq] at p t
  exact ⟨p.1, b.grown p.2 (Nat.le_trans (Nat.le_refl _) b.size) (fun k hk => by cases hk; exact Nat.le_refl _), t⟩
theorem IsZ.put {L : List Value} {f f0 : Nat → Int} {w : World} {lo g : Nat} (h : IsZ L f) (r : RowZ 32 16 w lo g f0) :
    RowZ 32 16 (w.setCells g 0 L) lo g f ∧ w.grownBy (w.setCells g 0 L) (some g) ∧ w.there g 0 L.toArray.size := by
  have p := r.put (f' := f)
  have t := r.there2 (f' := f)
  rw [h.eq] at p t
  exact ⟨p.1, p.2, t⟩

theorem cAdd {La Lc Le : List Value} {fa fc : Nat → Int} (ia : IsZ La fa) (ic : IsZ Lc fc) (ie : IsZ Le (addZ fa fc)) (ha : okZ fa) (hc : okZ fc) (X : World) : Calls Try.prog 31 #[.agg La.toArray, .agg Lc.toArray] X fun e w' => e = .returned (.agg Le.toArray) ∧ Below X.heap.size X w' := by
  have h := l8Add_any fa fc X (fun i => by have := ha i; omega) (fun i => by have := hc i; omega)
  have h2 : zV (fun i => fa i + fc i) 16 = Le := ie.eq
  rw [h2, ia.eq, ic.eq] at h
  exact h

theorem cSub {La Lc Le : List Value} {fa fc : Nat → Int} (ia : IsZ La fa) (ic : IsZ Lc fc) (ie : IsZ Le (subZ fa fc)) (ha : okZ fa) (hc : okZ fc) (X : World) : Calls Try.prog 32 #[.agg La.toArray, .agg Lc.toArray] X fun e w' => e = .returned (.agg Le.toArray) ∧ Below X.heap.size X w' := by
  have h := l8Sub_any fa fc X (fun i => by have := ha i; omega) (fun i => by have := hc i; omega)
  have h2 : zV (fun i => fa i - fc i) 16 = Le := ie.eq
  rw [h2, ia.eq, ic.eq] at h
  exact h

theorem cMul {La Lc Le : List Value} {fa fc : Nat → Int} (ia : IsZ La fa) (ic : IsZ Lc fc) (ie : IsZ Le (mulZ fa fc)) (ha : okZ fa) (hc : okZ fc) (X : World) : Calls Try.prog 33 #[.agg La.toArray, .agg Lc.toArray] X fun e w' => e = .returned (.agg Le.toArray) ∧ Below X.heap.size X w' := by
  have h := l8Mul_any fa fc X ha hc
  rw [ie.eq, ia.eq, ic.eq] at h
  exact h

theorem mZ_set (i : Nat) : (if i = 1 then 1 else if i = 0 then 56129 else (0 : Int)) = mZ i := by
  unfold mZ
  by_cases h0 : i = 0
  · subst h0; rfl
  · by_cases h1 : i = 1
    · subst h1; rfl
    · rw [if_neg h1, if_neg h0, if_neg h0, if_neg h1]
def bitI (b : Bool) : Int := if b then 1 else 0
theorem and7 (j : Nat) (h : j < 256) : bits .and .i64 (j : Int) 7 = ((j % 8 : Nat) : Int) := by
  have e : bits .and .i64 (j : Int) 7 = IntKind.i64.wrap ((BitVec.ofInt 64 (j : Int) &&& BitVec.ofInt 64 7).toNat : Int) := rfl
  have e1 : (BitVec.ofInt 64 (j : Int)).toNat = j := by rw [BitVec.toNat_ofInt]; omega
  have e2 : (BitVec.ofInt 64 7).toNat = 2 ^ 3 - 1 := rfl
  rw [e, BitVec.toNat_and, e1, e2, Nat.and_two_pow_sub_one_eq_mod, IntKind.wrap_i64]
  omega
theorem and1 (v : Nat) (h : v < 256) : bits .and .i64 (v : Int) 1 = bitI (decide (v % 2 = 1)) := by
  have e : bits .and .i64 (v : Int) 1 = IntKind.i64.wrap ((BitVec.ofInt 64 (v : Int) &&& BitVec.ofInt 64 1).toNat : Int) := rfl
  have e1 : (BitVec.ofInt 64 (v : Int)).toNat = v := by rw [BitVec.toNat_ofInt]; omega
  have e2 : (BitVec.ofInt 64 1).toNat = 2 ^ 1 - 1 := rfl
  rw [e, BitVec.toNat_and, e1, e2, Nat.and_two_pow_sub_one_eq_mod, IntKind.wrap_i64]
  unfold bitI
  by_cases h2 : v % 2 = 1
  · simp [h2]
  · have : v % 2 = 0 := by omega
    simp [this]

end Go.Proofs.Ytghoibggmddkmao
