/-
  What both sides' Extract answers: the code by the salt, or by 32 noughts where it is empty. Conditions: bytes all; for the program the table of the rounds' numbers is as its text says.
-/
import Derived.Test.YtdjdanpicbaieaaDoorMac
import Derived.Test.YtdjdanpicbaieaaDoorSpecMac
namespace Go.Proofs.YtdjdanpicbaieaaDoor
open Go.RowKit
set_option maxRecDepth 100000

def saltN (n : Nat) : Nat := if n = 0 then 32 else n
def saltL (xs : List Int) : List Int := if xs.length = 0 then List.replicate 32 0 else xs
def extN (n m : Nat) : Nat := macN (saltN n) m
def extL (xs ys : List Int) : List Int := macL (saltL xs) ys
theorem extN_le (n m : Nat) : extN n m ≤ 32 := macN_le _ _
theorem saltL_length (xs : List Int) : (saltL xs).length = saltN xs.length := by
  unfold saltL saltN
  split
  · exact List.length_replicate
  · rfl
theorem extL_length (xs ys : List Int) : (extL xs ys).length = extN xs.length ys.length := by rw [extL, macL_length, saltL_length]; rfl
theorem extL_byte (xs ys : List Int) : ∀ x ∈ extL xs ys, 0 ≤ x ∧ x < 256 := macL_byte _ _
theorem rep_byte : ∀ x ∈ List.replicate 32 (0 : Int), 0 ≤ x ∧ x < 256 := fun x hx => by
  have := List.eq_of_mem_replicate hx
  omega
theorem make32 (W : World) : (Instr.makeSlice 22 (.int .i64 32) (.int .i64 32)).run Tryd.prog W = .ok (.slice (some ⟨W.heap.size, 0, none⟩) 32 32) (W.alloc (.cells (madeCells #[.int .u8 0] 32) 5)) := by
  obtain ⟨i0, hi, hz0, hz1, hz2⟩ := info_parts infoByte
  have := run_makeSlice (P := Tryd.prog) W 22 5 i0 (.int .u8 0) Tryd.underlying22 hi hz0 .i64 .i64 32 32 (by omega) (by omega) (by rw [hz1]; simp) (by rw [hz2]; omega) (by omega)
  rw [hz1] at this
  exact this

set_option maxHeartbeats 1000000 in
theorem implExtract_any (p q : Option Addr) (n m c d : Nat) (xs ys : List Int) (w : World) (hx : xs.length = n) (hy : ys.length = m) (h : BytesIn w p n xs) (h' : BytesIn w q m ys) (hb : ∀ x ∈ xs, 0 ≤ x ∧ x < 256) (hb' : ∀ x ∈ ys, 0 ≤ x ∧ x < 256) (hK : KeysIs w) :
    Calls Tryd.prog 66 #[.slice p n c, .slice q m d] w fun e w' => ∃ p' c', e = .returned (.slice p' (extN n m) c') ∧ Own 5 w' w.heap.size w'.heap.size (.slice p' (extN n m) c') (extN n m) (extL xs ys) ∧ Below w.heap.size w w' := by
  unfold extN extL saltN saltL
  rw [hx]
  by_cases h0 : n = 0
  · subst h0
    rw [if_pos rfl, if_pos rfl]
    have hmk := make32
    have hin0 := in_zeros w 5 32
    have C := fun X h1 h2 hKX => implMac_any (some ⟨w.heap.size, 0, none⟩) q 32 m 32 d (List.replicate 32 0) ys X List.length_replicate hy h1 h2 rep_byte hb' hKX
    generalize madeCells #[Value.int .u8 0] 32 = Zc at hmk hin0
    generalize List.replicate 32 (0 : Int) = R at hin0 C ⊢
    have ba : Below w.heap.size w (w.alloc (.cells Zc 5)) := (Below.refl _ _).alloc (Nat.le_refl _) _
    have hin1 := in_below h' ba
    have hK1 := keys_below hK ba
    clear hx
    go_enter Tryd.func66, Tryd.ntmps66
    go_wp2_with (fail)
    refine (C _ hin0 hin1 hK1).mono ?_
    rintro e w1 ⟨p1, c1, rfl, r1, b1⟩
    have hs := ba.size
    go_wp2
    go_ret
    exact ⟨_, _, rfl, ⟨owns_mono r1.1 hs, r1.2⟩, below_on ba b1⟩
  · rw [if_neg h0, if_neg h0]
    have d1 : ((n : Int) == 0) = false := beq_eq_false_iff_ne.2 (by omega)
    have C := implMac_any p q n m c d xs ys w hx hy h h' hb hb' hK
    go_enter Tryd.func66, Tryd.ntmps66
    go_wp2_with (fail)
    refine C.mono ?_
    rintro e w1 ⟨p1, c1, rfl, r1, b1⟩
    go_wp2
    go_ret
    exact ⟨_, _, rfl, r1, b1⟩

set_option maxHeartbeats 1000000 in
theorem specExtract_any (p q : Option Addr) (n m c d : Nat) (xs ys : List Int) (w : World) (hx : xs.length = n) (hy : ys.length = m) (h : BytesIn w p n xs) (h' : BytesIn w q m ys) (hb : ∀ x ∈ xs, 0 ≤ x ∧ x < 256) (hb' : ∀ x ∈ ys, 0 ≤ x ∧ x < 256) :
    Calls Tryd.prog 50 #[.slice p n c, .slice q m d] w fun e w' => ∃ p' c', e = .returned (.slice p' (extN n m) c') ∧ Own 5 w' w.heap.size w'.heap.size (.slice p' (extN n m) c') (extN n m) (extL xs ys) ∧ Below w.heap.size w w' := by
  unfold extN extL saltN saltL
  rw [hx]
  by_cases h0 : n = 0
  · subst h0
    rw [if_pos rfl, if_pos rfl]
    have hmk := make32
    have hin0 := in_zeros w 5 32
    have C := fun X h1 h2 => specMac_any (some ⟨w.heap.size, 0, none⟩) q 32 m 32 d (List.replicate 32 0) ys X List.length_replicate hy h1 h2 rep_byte hb'
    generalize madeCells #[Value.int .u8 0] 32 = Zc at hmk hin0
    generalize List.replicate 32 (0 : Int) = R at hin0 C ⊢
    have ba : Below w.heap.size w (w.alloc (.cells Zc 5)) := (Below.refl _ _).alloc (Nat.le_refl _) _
    have hin1 := in_below h' ba
    clear hx
    go_enter Tryd.func50, Tryd.ntmps50
    go_wp2_with (fail)
    refine (C _ hin0 hin1).mono ?_
    rintro e w1 ⟨p1, c1, rfl, r1, b1⟩
    have hs := ba.size
    go_wp2
    go_ret
    exact ⟨_, _, rfl, ⟨owns_mono r1.1 hs, r1.2⟩, below_on ba b1⟩
  · rw [if_neg h0, if_neg h0]
    have d1 : ((n : Int) == 0) = false := beq_eq_false_iff_ne.2 (by omega)
    have C := specMac_any p q n m c d xs ys w hx hy h h' hb hb'
    go_enter Tryd.func50, Tryd.ntmps50
    go_wp2_with (fail)
    refine C.mono ?_
    rintro e w1 ⟨p1, c1, rfl, r1, b1⟩
    go_wp2
    go_ret
    exact ⟨_, _, rfl, r1, b1⟩

end Go.Proofs.YtdjdanpicbaieaaDoor
