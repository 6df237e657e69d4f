/-
  What stands in a book at a place, as lists. No conditions beyond each fact's own.
-/
import Derived.Test.YtelfejgpphoifaaDoorImplLineBytes
import Derived.Test.YtelfejgpphoifaaDoorGreatAny
import Derived.Test.YtelfejgpphoifaaDoorCuts
import Derived.Test.YtelfejgpphoifaaDoorHex
namespace Go.Proofs.YtelfejgpphoifaaDoor
open Go.RowKit
set_option maxRecDepth 100000

def laN (bs : List Int) (a : Nat) : Nat := gN ((bs.drop (a + 14)).take 2)
def laK (bs : List Int) (a : Nat) : Int := bs.getD a 0
def laT (bs : List Int) (a : Nat) : Int := bs.getD (a + 9) 0
def laD (bs : List Int) (a : Nat) : Int := (gN ((bs.drop (a + 10)).take 4) : Nat)
def laS (bs : List Int) (a : Nat) : ByteArray := if laK bs a = 3 then ByteArray.empty else strOfNums (hexL ((bs.drop (a + 1)).take 8))
def laX (bs : List Int) (a : Nat) : List Int := (bs.drop (a + 16)).take (laN bs a)
noncomputable def laB (bs : List Int) (a : Nat) : Bool := (strOfNums (lineL (laK bs a) (laS bs a) (laT bs a) (laD bs a) (laN bs a) (laX bs a))).toList == (strOfNums ((bs.drop a).take (18 + laN bs a))).toList
/-- A line begins at that place. -/
def laOk (bs : List Int) (at_ : Int) : Prop := 0 ≤ at_ ∧ at_.toNat + 18 + laN bs at_.toNat ≤ bs.length ∧ laB bs at_.toNat = true
theorem laN_lt {bs : List Int} (hb : ∀ x ∈ bs, 0 ≤ x ∧ x < 256) (a : Nat) : laN bs a < 65536 := by
  have h1 : ∀ x ∈ (bs.drop (a + 14)).take 2, 0 ≤ x ∧ x < 256 := fun x hx => hb x (List.mem_of_mem_drop (List.mem_of_mem_take hx))
  have h2 : ((bs.drop (a + 14)).take 2).length ≤ 2 := by rw [List.length_take]; omega
  have h3 := gN_lt h1 _ (Nat.le_refl _)
  rw [List.take_length] at h3
  have h4 : 256 ^ ((bs.drop (a + 14)).take 2).length ≤ 256 ^ 2 := Nat.pow_le_pow_right (by omega) h2
  unfold laN
  omega
theorem laD_lt {bs : List Int} (hb : ∀ x ∈ bs, 0 ≤ x ∧ x < 256) (a : Nat) : 0 ≤ laD bs a ∧ laD bs a < 4294967296 := by
  have h1 : ∀ x ∈ (bs.drop (a + 10)).take 4, 0 ≤ x ∧ x < 256 := fun x hx => hb x (List.mem_of_mem_drop (List.mem_of_mem_take hx))
  have h2 : ((bs.drop (a + 10)).take 4).length ≤ 4 := by rw [List.length_take]; omega
  have h3 := gN_lt h1 _ (Nat.le_refl _)
  rw [List.take_length] at h3
  have h4 : 256 ^ ((bs.drop (a + 10)).take 4).length ≤ 256 ^ 4 := Nat.pow_le_pow_right (by omega) h2
  unfold laD
  omega
theorem laX_len {bs : List Int} {a : Nat} (h : a + 18 + laN bs a ≤ bs.length) : (laX bs a).length = laN bs a := by
  unfold laX
  rw [List.length_take, List.length_drop]
  omega
theorem laB_ln {bs : List Int} {a : Nat} (h : a + 18 + laN bs a ≤ bs.length) (hB : laB bs a = true) : lnB (laK bs a) (laS bs a) (laT bs a) (laD bs a) (laN bs a) = true := by
  cases e : lnB (laK bs a) (laS bs a) (laT bs a) (laD bs a) (laN bs a) with
  | true => rfl
  | false =>
    exfalso
    unfold laB lineL at hB
    rw [e, if_neg (by decide)] at hB
    have h1 : ((bs.drop a).take (18 + laN bs a)).length = 18 + laN bs a := by rw [List.length_take, List.length_drop]; omega
    cases hl : (bs.drop a).take (18 + laN bs a) with
    | nil => rw [hl, List.length_nil] at h1; omega
    | cons y r =>
      rw [hl] at hB
      simp [strOfNums, ByteArray.toList_eq] at hB

end Go.Proofs.YtelfejgpphoifaaDoor
