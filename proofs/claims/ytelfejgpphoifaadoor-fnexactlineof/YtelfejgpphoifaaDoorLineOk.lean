/-
  What is told of a line's kind, and whether a line is right, by the program and by the specification. Conditions: lengths that a law hands over, bytes that lie there.
-/
import Derived.Test.YtelfejgpphoifaaDoorLineKind
namespace Go.Proofs.YtelfejgpphoifaaDoor
open Go.RowKit
set_option maxRecDepth 100000
theorem is1 (v : Value) (W : World) : (Instr.typeAssert (.iface 69 v) 38 69 true).run Tryd.prog W = .ok (.tuple #[v, .bool true]) W := by kernel_rfl
theorem not12 (v : Value) (W : World) : (Instr.typeAssert (.iface 69 v) 38 71 true).run Tryd.prog W = .ok (.tuple #[.agg #[.string { data := #[] }], .bool false]) W := by kernel_rfl
theorem not13 (v : Value) (W : World) : (Instr.typeAssert (.iface 69 v) 38 73 true).run Tryd.prog W = .ok (.tuple #[.agg #[.int .i64 0], .bool false]) W := by kernel_rfl
theorem not01 (W : World) : (Instr.typeAssert .nilIface 38 69 true).run Tryd.prog W = .ok (.tuple #[.agg #[.string { data := #[] }, .int .i64 0, .int .i64 0, .slice none 0 0], .bool false]) W := by kernel_rfl
theorem fits1 (v : Value) (W : World) : (Go.method 231 69 v "loop.example/g00473/impl.fits").run Tryd.prog W = .ok (73, v) W := by kernel_rfl
theorem is2 (v : Value) (W : World) : (Instr.typeAssert (.iface 71 v) 38 71 true).run Tryd.prog W = .ok (.tuple #[v, .bool true]) W := by kernel_rfl
theorem not21 (v : Value) (W : World) : (Instr.typeAssert (.iface 71 v) 38 69 true).run Tryd.prog W = .ok (.tuple #[.agg #[.string { data := #[] }, .int .i64 0, .int .i64 0, .slice none 0 0], .bool false]) W := by kernel_rfl
theorem not23 (v : Value) (W : World) : (Instr.typeAssert (.iface 71 v) 38 73 true).run Tryd.prog W = .ok (.tuple #[.agg #[.int .i64 0], .bool false]) W := by kernel_rfl
theorem not02 (W : World) : (Instr.typeAssert .nilIface 38 71 true).run Tryd.prog W = .ok (.tuple #[.agg #[.string { data := #[] }], .bool false]) W := by kernel_rfl
theorem fits2 (v : Value) (W : World) : (Go.method 231 71 v "loop.example/g00473/impl.fits").run Tryd.prog W = .ok (77, v) W := by kernel_rfl
theorem is3 (v : Value) (W : World) : (Instr.typeAssert (.iface 73 v) 38 73 true).run Tryd.prog W = .ok (.tuple #[v, .bool true]) W := by kernel_rfl
theorem not31 (v : Value) (W : World) : (Instr.typeAssert (.iface 73 v) 38 69 true).run Tryd.prog W = .ok (.tuple #[.agg #[.string { data := #[] }, .int .i64 0, .int .i64 0, .slice none 0 0], .bool false]) W := by kernel_rfl
theorem not32 (v : Value) (W : World) : (Instr.typeAssert (.iface 73 v) 38 71 true).run Tryd.prog W = .ok (.tuple #[.agg #[.string { data := #[] }], .bool false]) W := by kernel_rfl
theorem not03 (W : World) : (Instr.typeAssert .nilIface 38 73 true).run Tryd.prog W = .ok (.tuple #[.agg #[.int .i64 0], .bool false]) W := by kernel_rfl
theorem fits3 (v : Value) (W : World) : (Go.method 231 73 v "loop.example/g00473/impl.fits").run Tryd.prog W = .ok (78, v) W := by kernel_rfl

theorem told1 (s : ByteArray) (t d : Int) (p : Option Addr) (n c : Nat) (w : World) :
    Calls Tryd.prog 18 #[.iface 69 (.agg #[.string s, .int .i64 t, .int .i64 d, .slice p n c])] w fun e w' => e = .returned (.agg #[.int .i64 1, .string s, .int .i64 t, .int .i64 d, .slice p n c]) ∧ Below w.heap.size w w' := by
  have kA : ∀ o1 o2, Below w.heap.size w ((w.alloc o1).alloc o2) := fun o1 o2 => made_below _ _ (made_below _ _ (Below.refl _ _))
  have y1 := is1
  go_enter Tryd.func18, Tryd.ntmps18
  go_wp2_with (fail)
  refine bodyPost_ret (v := .agg #[.int .i64 1, .string s, .int .i64 t, .int .i64 d, .slice p n c]) ?_ rfl ⟨rfl, kA _ _⟩
  simp only [results, Tryd.f18]
  go_simp

theorem told2 (s : ByteArray) (w : World) :
    Calls Tryd.prog 18 #[.iface 71 (.agg #[.string s])] w fun e w' => e = .returned (.agg #[.int .i64 2, .string s, .int .i64 0, .int .i64 0, .slice none 0 0]) ∧ Below w.heap.size w w' := by
  have kA : ∀ o1 o2, Below w.heap.size w ((w.alloc o1).alloc o2) := fun o1 o2 => made_below _ _ (made_below _ _ (Below.refl _ _))
  have y1 := not21
  have y2 := is2
  go_enter Tryd.func18, Tryd.ntmps18
  go_wp2_with (fail)
  refine bodyPost_ret (v := .agg #[.int .i64 2, .string s, .int .i64 0, .int .i64 0, .slice none 0 0]) ?_ rfl ⟨rfl, kA _ _⟩
  simp only [results, Tryd.f18]
  go_simp

theorem told3 (d : Int) (w : World) :
    Calls Tryd.prog 18 #[.iface 73 (.agg #[.int .i64 d])] w fun e w' => e = .returned (.agg #[.int .i64 3, .string { data := #[] }, .int .i64 0, .int .i64 d, .slice none 0 0]) ∧ Below w.heap.size w w' := by
  have kA : ∀ o1 o2, Below w.heap.size w ((w.alloc o1).alloc o2) := fun o1 o2 => made_below _ _ (made_below _ _ (Below.refl _ _))
  have y1 := not31
  have y2 := not32
  have y3 := is3
  go_enter Tryd.func18, Tryd.ntmps18
  go_wp2_with (fail)
  refine bodyPost_ret (v := .agg #[.int .i64 3, .string { data := #[] }, .int .i64 0, .int .i64 d, .slice none 0 0]) ?_ rfl ⟨rfl, kA _ _⟩
  simp only [results, Tryd.f18]
  go_simp

set_option maxHeartbeats 2000000 in
theorem sameLine_any (kd kd' : Int) (s s' : ByteArray) (t t' d d' : Int) (p p' : Option Addr) (n c n' c' : Nat) (xs xs' : List Int) (w : World) (hx : xs.length = n) (hx' : xs'.length = n') (h1 : BytesIn w p n xs) (h2 : BytesIn w p' n' xs') :
    Calls Tryd.prog 47 #[.agg #[.int .i64 kd, .string s, .int .i64 t, .int .i64 d, .slice p n c], .agg #[.int .i64 kd', .string s', .int .i64 t', .int .i64 d', .slice p' n' c']] w fun z w' => z = .returned (.bool ((decide (kd = kd' ∧ s = s' ∧ t = t' ∧ d = d') && ((strOfNums xs).toList == (strOfNums xs').toList)))) ∧ Below w.heap.size w w' := by
  have kA : ∀ o1 o2, Below w.heap.size w ((w.alloc o1).alloc o2) := fun o1 o2 => made_below _ _ (made_below _ _ (Below.refl _ _))
  obtain ⟨R, hR⟩ : ∃ R : Bool, R = (decide (kd = kd' ∧ s = s' ∧ t = t' ∧ d = d') && ((strOfNums xs).toList == (strOfNums xs').toList)) := ⟨_, rfl⟩
  rw [← hR]
  replace hR : Hid (R = (decide (kd = kd' ∧ s = s' ∧ t = t' ∧ d = d') && ((strOfNums xs).toList == (strOfNums xs').toList))) := hR
  by_cases hk : kd = kd'
  · subst hk
    by_cases hs : s = s'
    · subst hs
      by_cases ht : t = t'
      · subst ht
        by_cases hd : d = d'
        · subst hd
          go_enter Tryd.func47, Tryd.ntmps47
          go_wp2_with (fail)
          refine (implSame_any p p' n n' c c' xs xs' _ hx hx' (in_below h1 (kA _ _)) (in_below h2 (kA _ _))).mono ?_
          rintro z w1 ⟨rfl, b1⟩
          have k1 := made_below _ _ (made_below _ _ b1)
          clear b1 kA
          generalize ((strOfNums xs).toList == (strOfNums xs').toList) = Q at hR ⊢
          cases Q
          · have hr : R = false := by rw [hR.out]; simp
            subst hr
            clear hR
            go_wp2_with (fail)
            go_ret
            exact ⟨rfl, k1⟩
          · have hr : R = true := by rw [hR.out]; simp
            subst hr
            clear hR
            go_wp2_with (fail)
            go_ret
            exact ⟨rfl, k1⟩
        · have hr : R = false := by rw [hR.out]; simp [hd]
          subst hr
          have hd' : (d == d') = false := by simp [hd]
          clear hR hd
          go_enter Tryd.func47, Tryd.ntmps47
          go_wp2_with (fail)
          go_ret
          exact ⟨rfl, kA _ _⟩
      · have hr : R = false := by rw [hR.out]; simp [ht]
        subst hr
        have ht' : (t == t') = false := by simp [ht]
        clear hR ht
        go_enter Tryd.func47, Tryd.ntmps47
        go_wp2_with (fail)
        go_ret
        exact ⟨rfl, kA _ _⟩
    · have hr : R = false := by rw [hR.out]; simp [hs]
      subst hr
      have hs' : (s.toList == s'.toList) = false := str_ne hs
      clear hR hs
      go_enter Tryd.func47, Tryd.ntmps47
      go_wp2_with (fail)
      go_ret
      exact ⟨rfl, kA _ _⟩
  · have hr : R = false := by rw [hR.out]; simp [hk]
    subst hr
    have hk' : (kd == kd') = false := by simp [hk]
    clear hR hk
    go_enter Tryd.func47, Tryd.ntmps47
    go_wp2_with (fail)
    go_ret
    exact ⟨rfl, kA _ _⟩

end Go.Proofs.YtelfejgpphoifaaDoor
