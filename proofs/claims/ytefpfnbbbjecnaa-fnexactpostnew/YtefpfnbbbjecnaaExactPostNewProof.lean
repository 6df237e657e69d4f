/-
  FnExactPostNew returns true: a new post is as the specification's, whatever the memory; no conditions. (The frame round the walk is the guide's.)
-/
import Derived.Test.YtefpfnbbbjecnaaRows
import Derived.Test.YtefpfnbbbjecnaaCells
import Derived.Test.YtefpfnbbbjecnaaEq
import Derived.Test.YtefpfnbbbjecnaaMarks
import Derived.WalkKit
import Derived.ProofKit
import Derived.OpenShut
import Derived.ShutString
import Derived.ChangeOld
import Derived.Below
namespace Go.Proofs.Ytefpfnbbbjecnaa.fnExactPostNew
open Go.ChangeShapes Go.WideShapes Go.ChangeAt Go.RowKit
open Go.ChangeMaps (open_string shut_string)
set_option linter.unusedVariables false      -- a walk need not use every 'w<i>' (that an integer argument fits its kind)

theorem own : ownKnob Try.prog.godebug = none := by kernel_rfl

theorem nil_in (w : World) : BytesIn w none 0 [] := fun h => by omega

theorem specPostNew_is (w : World) : Calls Try.prog 4 #[] w fun e w' => e = .returned (.agg #[.slice none 0 0, .int .i64 0, .slice none 0 0, .int .i64 0]) ∧ Below w.heap.size w w' := by
  go_enter Try.func4, Try.ntmps4
  go_wp2_with (fail)
  refine bodyPost_ret (v := .agg #[.slice none 0 0, .int .i64 0, .slice none 0 0, .int .i64 0]) ?_ rfl ⟨rfl, ?_⟩
  · simp only [results, Try.f4]
    go_simp
  · exact made_below _ _ (Below.refl _ _)

theorem implPostNew_is (w : World) : Calls Try.prog 5 #[] w fun e w' => e = .returned (.agg #[.slice none 0 0, .int .i64 0, .slice none 0 0, .int .i64 0]) ∧ Below w.heap.size w w' := by
  go_enter Try.func5, Try.ntmps5
  go_wp2_with (fail)
  refine bodyPost_ret (v := .agg #[.slice none 0 0, .int .i64 0, .slice none 0 0, .int .i64 0]) ?_ rfl ⟨rfl, ?_⟩
  · simp only [results, Try.f5]
    go_simp
  · exact made_below _ _ (Below.refl _ _)

theorem eqItemS_nil (w : World) : Calls Try.prog 9 #[.slice none 0 0, .slice none 0 0] w fun e w' => e = .returned (.bool true) ∧ Below w.heap.size w w' := by
  go_enter Try.func9, Try.ntmps9
  go_wp2
  go_loopw [5] (fun i wr => i = .int .i64 0 ∧ wr = w) (fun _ _ => 0)
  case atStart => exact ⟨rfl, rfl⟩
  case round =>
    obtain ⟨rfl, rfl⟩ := hrel
    go_wp2
    go_ret
    exact ⟨rfl, Below.refl _ _⟩

theorem markItemS_nil (w : World) : Calls Try.prog 11 #[.slice none 0 0, .int .i64 1] w fun e w' => e = .returned (.int .i64 1) ∧ Below w.heap.size w w' := by
  go_enter Try.func11, Try.ntmps11
  go_wp2
  go_loopw [1, 5] (fun q i wr => q = .int .i64 1 ∧ i = .int .i64 0 ∧ wr = w) (fun _ _ _ => 0)
  case atStart => exact ⟨rfl, rfl, rfl⟩
  case round =>
    obtain ⟨rfl, rfl, rfl⟩ := hrel
    go_wp2
    go_ret
    exact ⟨rfl, Below.refl _ _⟩

theorem heldItemS_nil (w : World) : Calls Try.prog 13 #[.slice none 0 0, .int .i64 1] w fun e w' => e = .returned (.int .i64 1) ∧ Below w.heap.size w w' := by
  go_enter Try.func13, Try.ntmps13
  go_wp2
  go_loopw [1, 5] (fun q i wr => q = .int .i64 1 ∧ i = .int .i64 0 ∧ wr = w) (fun _ _ _ => 0)
  case atStart => exact ⟨rfl, rfl, rfl⟩
  case round =>
    obtain ⟨rfl, rfl, rfl⟩ := hrel
    go_wp2
    go_ret
    exact ⟨rfl, Below.refl _ _⟩

theorem markByteS_nil (w : World) : Calls Try.prog 12 #[.slice none 0 0, .int .i64 1] w fun e w' => e = .returned (.int .i64 1) ∧ Below w.heap.size w w' := by
  go_enter Try.func12, Try.ntmps12
  go_wp2
  go_loopw [1, 5] (fun q i wr => q = .int .i64 1 ∧ i = .int .i64 0 ∧ wr = w) (fun _ _ _ => 0)
  case atStart => exact ⟨rfl, rfl, rfl⟩
  case round =>
    obtain ⟨rfl, rfl, rfl⟩ := hrel
    go_wp2
    go_ret
    exact ⟨rfl, Below.refl _ _⟩

theorem eqPost_zero (w : World) : Calls Try.prog 6 #[.agg #[.slice none 0 0, .int .i64 0, .slice none 0 0, .int .i64 0], .agg #[.slice none 0 0, .int .i64 0, .slice none 0 0, .int .i64 0]] w fun e w' => e = .returned (.bool true) ∧ Below w.heap.size w w' := by
  have sz : ∀ (W : World) o, (W.alloc o).heap.size = W.heap.size + 1 := fun W o => by simp
  go_enter Try.func6, Try.ntmps6
  go_wp2_with (fail)
  refine (eqItemS_nil _).mono ?_
  rintro e w1 ⟨rfl, b1⟩
  have C1 := (Cells.made w _ _).on (made_below _ _ b1)
  have C2 := (Cells.made (w.alloc _) _ _).on b1
  have k1 := made_below _ _ (made_below _ _ b1)
  rw [sz] at C2
  clear b1 sz
  have l0 : w1.cell? ⟨w.heap.size, 0, none⟩ = some (.slice none 0 0) := (C1.2 0).1
  have l1 : w1.cell? ⟨w.heap.size, 1, none⟩ = some (.int .i64 0) := (C1.2 1).1
  have l2 : w1.cell? ⟨w.heap.size, 2, none⟩ = some (.slice none 0 0) := (C1.2 2).1
  have l3 : w1.cell? ⟨w.heap.size, 3, none⟩ = some (.int .i64 0) := (C1.2 3).1
  have m0 : w1.cell? ⟨w.heap.size + 1, 0, none⟩ = some (.slice none 0 0) := (C2.2 0).1
  have m1 : w1.cell? ⟨w.heap.size + 1, 1, none⟩ = some (.int .i64 0) := (C2.2 1).1
  have m2 : w1.cell? ⟨w.heap.size + 1, 2, none⟩ = some (.slice none 0 0) := (C2.2 2).1
  have m3 : w1.cell? ⟨w.heap.size + 1, 3, none⟩ = some (.int .i64 0) := (C2.2 3).1
  have C := eqByteS_any none none 0 0 0 0 [] [] w1 (by omega) rfl rfl (nil_in _) (nil_in _)
  rw [decide_eq_true rfl] at C
  go_wp2_with (fail)
  refine C.mono ?_
  clear C l0 l1 l2 l3 m0 m1 m2 m3
  rintro e w2 ⟨rfl, b2⟩
  replace C1 := C1.on b2
  replace C2 := C2.on b2
  replace k1 := below_on k1 b2
  clear b2
  have l0 : w2.cell? ⟨w.heap.size, 0, none⟩ = some (.slice none 0 0) := (C1.2 0).1
  have l1 : w2.cell? ⟨w.heap.size, 1, none⟩ = some (.int .i64 0) := (C1.2 1).1
  have l2 : w2.cell? ⟨w.heap.size, 2, none⟩ = some (.slice none 0 0) := (C1.2 2).1
  have l3 : w2.cell? ⟨w.heap.size, 3, none⟩ = some (.int .i64 0) := (C1.2 3).1
  have m0 : w2.cell? ⟨w.heap.size + 1, 0, none⟩ = some (.slice none 0 0) := (C2.2 0).1
  have m1 : w2.cell? ⟨w.heap.size + 1, 1, none⟩ = some (.int .i64 0) := (C2.2 1).1
  have m2 : w2.cell? ⟨w.heap.size + 1, 2, none⟩ = some (.slice none 0 0) := (C2.2 2).1
  have m3 : w2.cell? ⟨w.heap.size + 1, 3, none⟩ = some (.int .i64 0) := (C2.2 3).1
  go_wp2_with (fail)
  go_ret
  exact ⟨rfl, k1⟩

theorem markPost_zero (w : World) : Calls Try.prog 7 #[.agg #[.slice none 0 0, .int .i64 0, .slice none 0 0, .int .i64 0], .int .i64 1] w fun e w' => e = .returned (.int .i64 1) ∧ Below w.heap.size w w' := by
  go_enter Try.func7, Try.ntmps7
  go_wp2_with (fail)
  refine (markItemS_nil _).mono ?_
  rintro e w1 ⟨rfl, b1⟩
  have C1 := (Cells.made w _ _).on b1
  have k1 := made_below _ _ b1
  clear b1
  have l0 : w1.cell? ⟨w.heap.size, 0, none⟩ = some (.slice none 0 0) := (C1.2 0).1
  have l1 : w1.cell? ⟨w.heap.size, 1, none⟩ = some (.int .i64 0) := (C1.2 1).1
  have l2 : w1.cell? ⟨w.heap.size, 2, none⟩ = some (.slice none 0 0) := (C1.2 2).1
  have l3 : w1.cell? ⟨w.heap.size, 3, none⟩ = some (.int .i64 0) := (C1.2 3).1
  go_wp2_with (fail)
  refine (markByteS_nil _).mono ?_
  rintro e w2 ⟨rfl, b2⟩
  replace k1 := below_on k1 b2
  clear l0 l1 l2 l3 C1 b2
  go_wp2_with (fail)
  go_ret
  exact ⟨rfl, k1⟩

theorem heldPost_zero (w : World) : Calls Try.prog 8 #[.agg #[.slice none 0 0, .int .i64 0, .slice none 0 0, .int .i64 0], .int .i64 1] w fun e w' => e = .returned (.int .i64 1) ∧ Below w.heap.size w w' := by
  go_enter Try.func8, Try.ntmps8
  go_wp2_with (fail)
  refine (heldItemS_nil _).mono ?_
  rintro e w1 ⟨rfl, b1⟩
  have C1 := (Cells.made w _ _).on b1
  have k1 := made_below _ _ b1
  clear b1
  have l0 : w1.cell? ⟨w.heap.size, 0, none⟩ = some (.slice none 0 0) := (C1.2 0).1
  have l1 : w1.cell? ⟨w.heap.size, 1, none⟩ = some (.int .i64 0) := (C1.2 1).1
  have l2 : w1.cell? ⟨w.heap.size, 2, none⟩ = some (.slice none 0 0) := (C1.2 2).1
  have l3 : w1.cell? ⟨w.heap.size, 3, none⟩ = some (.int .i64 0) := (C1.2 3).1
  have C := heldByteS_any none 0 0 1 w1 (by omega) (by omega) (by omega) (fun h => by omega)
  go_wp2_with (fail)
  refine C.mono ?_
  rintro e w2 ⟨rfl, b2⟩
  replace k1 := below_on k1 b2
  clear C l0 l1 l2 l3 C1 b2
  go_wp2_with (fail)
  go_ret
  exact ⟨rfl, k1⟩

set_option maxHeartbeats 2000000 in
theorem walk  (w : World) :
    Calls Try.prog 3 #[] w fun e w' => e = .returned (.bool true) ∧ Below w.heap.size w w' := by
  go_enter Try.func3, Try.ntmps3
  go_wp2_with (fail)
  refine (specPostNew_is _).mono ?_
  rintro e w1 ⟨rfl, b1⟩
  go_wp2_with (fail)
  refine (implPostNew_is _).mono ?_
  rintro e w2 ⟨rfl, b2⟩
  have CA := (Cells.made w1 _ _).on b2
  have k2 := below_on b1 (made_below _ _ b2)
  clear b2 b1
  obtain ⟨A, hA⟩ : ∃ A, A = w1.heap.size := ⟨_, rfl⟩
  rw [← hA] at CA ⊢
  clear hA
  obtain ⟨w3, hw3⟩ : ∃ X, X = w2.alloc (.cells #[.slice none 0 0, .int .i64 0, .slice none 0 0, .int .i64 0] 25) := ⟨_, rfl⟩
  have b3 : Below w2.heap.size w2 w3 := by rw [hw3]; exact made_below _ _ (Below.refl _ _)
  have CB : Cells w3 w2.heap.size #[.slice none 0 0, .int .i64 0, .slice none 0 0, .int .i64 0] := by rw [hw3]; exact Cells.made _ _ _
  replace hw3 : Hid (w2.alloc (.cells #[.slice none 0 0, .int .i64 0, .slice none 0 0, .int .i64 0] 25) = w3) := hw3.symm
  replace CA := CA.on b3
  have k3 := below_on k2 b3
  have l0 : w3.cell? ⟨A, 0, none⟩ = some (.slice none 0 0) := (CA.2 0).1
  have l1 : w3.cell? ⟨A, 1, none⟩ = some (.int .i64 0) := (CA.2 1).1
  have l2 : w3.cell? ⟨A, 2, none⟩ = some (.slice none 0 0) := (CA.2 2).1
  have l3 : w3.cell? ⟨A, 3, none⟩ = some (.int .i64 0) := (CA.2 3).1
  have m0 : w3.cell? ⟨w2.heap.size, 0, none⟩ = some (.slice none 0 0) := (CB.2 0).1
  have m1 : w3.cell? ⟨w2.heap.size, 1, none⟩ = some (.int .i64 0) := (CB.2 1).1
  have m2 : w3.cell? ⟨w2.heap.size, 2, none⟩ = some (.slice none 0 0) := (CB.2 2).1
  have m3 : w3.cell? ⟨w2.heap.size, 3, none⟩ = some (.int .i64 0) := (CB.2 3).1
  rw [← hw3.out] at l0 l1 l2 l3
  clear m0 m1 m2 m3
  go_wp2_with (fail)
  rw [hw3.out]
  obtain ⟨B, hB⟩ : ∃ B, B = w2.heap.size := ⟨_, rfl⟩
  rw [← hB] at CB ⊢
  clear l0 l1 l2 l3
  clear hB b3 hw3 k2
  refine (eqPost_zero _).mono ?_
  rintro e w4 ⟨rfl, b4⟩
  replace CA := CA.on b4
  replace CB := CB.on b4
  have k4 := below_on k3 b4
  clear b4 k3
  have m0 : w4.cell? ⟨B, 0, none⟩ = some (.slice none 0 0) := (CB.2 0).1
  have m1 : w4.cell? ⟨B, 1, none⟩ = some (.int .i64 0) := (CB.2 1).1
  have m2 : w4.cell? ⟨B, 2, none⟩ = some (.slice none 0 0) := (CB.2 2).1
  have m3 : w4.cell? ⟨B, 3, none⟩ = some (.int .i64 0) := (CB.2 3).1
  go_wp2_with (fail)
  refine (markPost_zero _).mono ?_
  rintro e w5 ⟨rfl, b5⟩
  clear m0 m1 m2 m3
  replace CA := CA.on b5
  replace CB := CB.on b5
  have k5 := below_on k4 b5
  clear b5 k4
  have m0 : w5.cell? ⟨B, 0, none⟩ = some (.slice none 0 0) := (CB.2 0).1
  have m1 : w5.cell? ⟨B, 1, none⟩ = some (.int .i64 0) := (CB.2 1).1
  have m2 : w5.cell? ⟨B, 2, none⟩ = some (.slice none 0 0) := (CB.2 2).1
  have m3 : w5.cell? ⟨B, 3, none⟩ = some (.int .i64 0) := (CB.2 3).1
  go_wp2_with (fail)
  refine (heldPost_zero _).mono ?_
  rintro e w6 ⟨rfl, b6⟩
  clear m0 m1 m2 m3
  replace CA := CA.on b6
  replace CB := CB.on b6
  have k6 := below_on k5 b6
  clear b6 k5
  go_wp2_with (fail)
  refine (implPostNew_is _).mono ?_
  rintro e w7 ⟨rfl, b7⟩
  replace CA := CA.on b7
  replace CB := CB.on b7
  have k7 := below_on k6 b7
  clear b7 k6
  obtain ⟨w8, hw8⟩ : ∃ X, X = w7.alloc (.cells #[.slice none 0 0, .int .i64 0, .slice none 0 0, .int .i64 0] 25) := ⟨_, rfl⟩
  have b8 : Below w7.heap.size w7 w8 := by rw [hw8]; exact made_below _ _ (Below.refl _ _)
  have CH : Cells w8 w7.heap.size #[.slice none 0 0, .int .i64 0, .slice none 0 0, .int .i64 0] := by rw [hw8]; exact Cells.made _ _ _
  replace hw8 : Hid (w7.alloc (.cells #[.slice none 0 0, .int .i64 0, .slice none 0 0, .int .i64 0] 25) = w8) := hw8.symm
  replace CA := CA.on b8
  replace CB := CB.on b8
  have k8 := below_on k7 b8
  have l0 : w8.cell? ⟨A, 0, none⟩ = some (.slice none 0 0) := (CA.2 0).1
  have l1 : w8.cell? ⟨A, 1, none⟩ = some (.int .i64 0) := (CA.2 1).1
  have l2 : w8.cell? ⟨A, 2, none⟩ = some (.slice none 0 0) := (CA.2 2).1
  have l3 : w8.cell? ⟨A, 3, none⟩ = some (.int .i64 0) := (CA.2 3).1
  have m0 : w8.cell? ⟨w7.heap.size, 0, none⟩ = some (.slice none 0 0) := (CH.2 0).1
  have m1 : w8.cell? ⟨w7.heap.size, 1, none⟩ = some (.int .i64 0) := (CH.2 1).1
  have m2 : w8.cell? ⟨w7.heap.size, 2, none⟩ = some (.slice none 0 0) := (CH.2 2).1
  have m3 : w8.cell? ⟨w7.heap.size, 3, none⟩ = some (.int .i64 0) := (CH.2 3).1
  rw [← hw8.out] at l0 l1 l2 l3
  clear m0 m1 m2 m3
  go_wp2_with (fail)
  rw [hw8.out]
  clear l0 l1 l2 l3
  clear CH hw8 b8 k7
  refine (eqPost_zero _).mono ?_
  rintro e w9 ⟨rfl, b9⟩
  replace CB := CB.on b9
  have k9 := below_on k8 b9
  clear b9 k8 CA
  have m0 : w9.cell? ⟨B, 0, none⟩ = some (.slice none 0 0) := (CB.2 0).1
  have m1 : w9.cell? ⟨B, 1, none⟩ = some (.int .i64 0) := (CB.2 1).1
  have m2 : w9.cell? ⟨B, 2, none⟩ = some (.slice none 0 0) := (CB.2 2).1
  have m3 : w9.cell? ⟨B, 3, none⟩ = some (.int .i64 0) := (CB.2 3).1
  go_wp2_with (fail)
  refine (heldPost_zero _).mono ?_
  rintro e w10 ⟨rfl, b10⟩
  clear m0 m1 m2 m3
  have k10 := below_on k9 b10
  clear b10 k9 CB
  go_wp2_with (fail)
  go_ret
  exact ⟨rfl, k10⟩

/-! ### THE ROW's STEP: WRITTEN OUT: LEAVE IT -/
set_option maxRecDepth 100000 in
theorem lifted (os : Os) (started : os.Started) (H : Type) (enc : TypeId × Value → H) :
    ReturnsInHanded {} Try.checked os 3 .any (Rows.fnExactPostNewSpec.pre6 enc Try.prog Try.f3 Rows.fnExactPostNewRow.domain false) (Rows.fnExactPostNewSpec.post enc Try.prog Try.f3 false true false false) := by
  refine returnsInHanded_of_change (C := Try.checked) own started (by kernel_rfl) Try.func3
    (ChangeSpec.witness6 (enc := enc) (C := Try.checked) false ⟨#[], #[], []⟩ 8 (by kernel_rfl) (by kernel_rfl) (by kernel_rfl) (by kernel_rfl)) ?_
  intro W base args ds gs before hval0 hW hcnd _
  have hval : ∀ (j : Nat) t v, Try.f3.params[j]? = some t → args[j]? = some v → Value.okWide Try.prog W .any base t v := hval0
  have hW' := hW
  obtain ⟨p, q, hA0, hV, rfl, hfz, hnd⟩ := hW
  have hA : DataW.TrodAll enc Try.prog W 0 (fun _ => true) true Try.f3.params.toList args.toList ds p := hA0
  rw [Try.params3] at hA hval
  obtain ⟨rfl, rfl, rfl⟩ := trodAll_none hA
  obtain ⟨rfl, rfl⟩ := trodVars_none hV
  clear hA0 hval0
  simp only [List.append_nil] at hW'
  refine (walk  W).mono fun e W' ⟨he, hg⟩ => ?_
  subst he
  exact ⟨_, rfl, _, _, _, [], _, [], hW', trodAll_mk1 (shut_bool Try.underlying4 _), trodAll_mk0, rfl, hg.frame _, fun h => by cases h⟩

theorem over : Rows.fnExactPostNewRow.holds Try.pinned (OpenSpec.ofChange Rows.fnExactPostNewSpec) :=
  OpenClaim.holds_of_wide 3 Try.f3 rfl rfl rfl rfl rfl rfl rfl ⟨rfl, rfl, rfl, rfl, rfl⟩ rfl rfl rfl rfl rfl (by kernel_rfl) Try.func3 (by kernel_rfl)
    (of_decide_eq_true (by kernel_rfl)) (by unfold Func.isWrapper; first | (rw [if_pos (by decide +kernel)]; kernel_rfl) | (rw [if_neg (by decide +kernel)]; exact ⟨rfl, rfl⟩))
    (fun os started H enc _ => lifted os started H enc)

end Go.Proofs.Ytefpfnbbbjecnaa.fnExactPostNew
namespace Go.Proofs.Ytefpfnbbbjecnaa
theorem fnExactPostNew_holds : Rows.FnExactPostNewSaid := fnExactPostNew.over
#print axioms fnExactPostNew_holds
end Go.Proofs.Ytefpfnbbbjecnaa
