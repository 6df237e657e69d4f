/-
  A line's bytes, as lists. No conditions beyond each fact's own.
-/
import Derived.Test.YtelfejgpphoifaaDoorImplLineOk
import Derived.Test.YtelfejgpphoifaaDoorGreat
import Derived.Test.YtelfejgpphoifaaDoorConcat
namespace Go.Proofs.YtelfejgpphoifaaDoor
open Go.RowKit
set_option maxRecDepth 100000

def rtL (kd : Int) (s : ByteArray) : List Int := if kd = 3 then List.replicate 8 0 else unL s
/-- A line's bytes but for the last two. -/
def lyL (kd : Int) (s : ByteArray) (t d : Int) (n : Nat) (xs : List Int) : List Int := [kd] ++ rtL kd s ++ [t] ++ (fitL d 4).reverse ++ (fitL (n : Int) 2).reverse ++ xs
noncomputable def lineN (kd : Int) (s : ByteArray) (t d : Int) (n : Nat) : Nat := if lnB kd s t d n = true then 18 + n else 0
noncomputable def lineL (kd : Int) (s : ByteArray) (t d : Int) (n : Nat) (xs : List Int) : List Int := if lnB kd s t d n = true then lyL kd s t d n xs ++ (fitL ((16 + n : Nat) : Int) 2).reverse else []
theorem unL_len (s : ByteArray) : (unL s).length = unN s := by
  unfold unL unN
  split
  · exact outL_length s _
  · rfl
theorem lnB_facts {kd : Int} {s : ByteArray} {t d : Int} {n : Nat} (h : lnB kd s t d n = true) : (kd = 1 ∨ kd = 2 ∨ kd = 3) ∧ (0 ≤ t ∧ t ≤ 9) ∧ (0 ≤ d ∧ d ≤ 100000) ∧ n ≤ 1560 ∧ (kd ≠ 3 → unN s = 8) ∧ (kd = 3 → s = ByteArray.empty) := by
  unfold lnB at h
  by_cases h1 : kd = 1
  · rw [if_pos h1] at h
    simp only [itB, rtB, Bool.and_eq_true, decide_eq_true_eq] at h
    obtain ⟨⟨⟨⟨_, h2⟩, h3⟩, h4⟩, h5⟩ := h
    exact ⟨.inl h1, h3, h4, h5, fun _ => h2, fun k => by omega⟩
  · rw [if_neg h1] at h
    by_cases h2 : kd = 2
    · rw [if_pos h2] at h
      simp only [rtB, Bool.and_eq_true, decide_eq_true_eq] at h
      obtain ⟨⟨_, h3⟩, h4, h5, h6⟩ := h
      exact ⟨.inr (.inl h2), by omega, by omega, by omega, fun _ => h3, fun k => by omega⟩
    · rw [if_neg h2] at h
      by_cases h3 : kd = 3
      · rw [if_pos h3] at h
        simp only [Bool.and_eq_true, decide_eq_true_eq] at h
        obtain ⟨h4, h5, h6, h7⟩ := h
        exact ⟨.inr (.inr h3), by omega, h6, by omega, fun k => absurd h3 k, fun _ => h4⟩
      · rw [if_neg h3] at h
        cases h
theorem fit_two (a : Int) (ha : 0 ≤ a) : fitN a 2 = 2 := by simp [fitN, fitB, ha]
theorem fit_four (a : Int) (ha : 0 ≤ a) : fitN a 4 = 4 := by simp [fitN, fitB, ha]
theorem fit_two' (a : Int) (ha : 0 ≤ a) : ((fitL a 2).reverse).length = 2 := by rw [List.length_reverse, fitL, littleL_length, fit_two a ha]
theorem fit_four' (a : Int) (ha : 0 ≤ a) : ((fitL a 4).reverse).length = 4 := by rw [List.length_reverse, fitL, littleL_length, fit_four a ha]
theorem rtL_len {kd : Int} {s : ByteArray} (h : kd ≠ 3 → unN s = 8) : (rtL kd s).length = 8 := by
  unfold rtL
  split
  · simp
  · rename_i k
    rw [unL_len, h k]
theorem lyL_len {kd : Int} {s : ByteArray} {t d : Int} {n : Nat} {xs : List Int} (h : lnB kd s t d n = true) (hx : xs.length = n) : (lyL kd s t d n xs).length = 16 + n := by
  obtain ⟨_, _, hd, _, hr, _⟩ := lnB_facts h
  have h4 := fit_four' d hd.1
  have h2 := fit_two' (n : Int) (by omega)
  have h8 := rtL_len hr
  simp only [lyL, List.length_append, List.length_singleton]
  omega
theorem hid_ex (a : Nat) : ∃ N : Nat, Hid (N = a) := ⟨a, show a = a from rfl⟩
theorem made_eq {w V : World} {o : Obj} (h : V = w.alloc o) : Below w.heap.size w V := by rw [h]; exact made_below _ _ (Below.refl _ _)
theorem in_byte (w : World) (ty B : Nat) (v : Int) (h : w.heap.size = B) : BytesIn (w.alloc (.cells #[.int .u8 v] ty)) (some ⟨B, 0, none⟩) 1 [v] := by
  subst h
  intro _
  refine ⟨w.heap.size, 0, rfl, fun i hi => ?_⟩
  obtain rfl : i = 0 := by omega
  rw [cell_of_row _ _ _ _ _ _ (heap_alloc_new w _)]
  rfl
theorem in_byte_eq {w V : World} {ty : Nat} {v : Int} (h : V = w.alloc (.cells #[.int .u8 v] ty)) : BytesIn V (some ⟨w.heap.size, 0, none⟩) 1 [v] := by rw [h]; exact in_byte _ _ _ _ rfl

end Go.Proofs.YtelfejgpphoifaaDoor
