/-
  What errors.As does where the error is the very type that the target points to (a torn line): true, and nothing below the target changes. Condition: the library's variable is as its text says.
-/
import Derived.Test.YthfnechcddmjkaaGreatDoorPar08
import Derived.Test.YthfnechcddmjkaaGreatDoorPar03
import Derived.Deep.MidRow
namespace Go.Proofs.YthfnechcddmjkaaGreatDoor
open Go.RowKit Go.Extern.Stop Go.Stop Go.Extern
set_option maxRecDepth 100000

theorem as_load (b : Nat) (x : Int) (W : World) (hb : W.cell? ⟨b, 0, none⟩ = some (.int .i64 x)) : (loadVar 166 ⟨b, 0, none⟩).run Tryz.prog W = .ok (.agg #[.int .i64 x]) W := by
  have hi : (Tryz.prog.info? 166).map (·.size) = some 1 := by kernel_rfl
  refine run_loadVar_mid W b 0 166 [.int .i64 x] _ ?_ Tryz.underlying166 rfl hi
  intro j v hv
  match j, hv with
  | 0, hv =>
    rw [hb]
    simpa using hv
  | j + 1, hv => simp at hv
theorem as_store (ta : Nat) (x : Int) (old : Value) (W : World) (ht : W.cell? ⟨ta, 0, none⟩ = some old) (hf : W.frozen? ⟨ta, 0, none⟩ = false) : (storeVar 166 ⟨ta, 0, none⟩ (.agg #[.int .i64 x])).run Tryz.prog W = .ok () (W.setCell ⟨ta, 0, none⟩ (.int .i64 x)) := by
  simp [storeVar, Value.cells, storeCells, Addr.add]
  rw [run_store Tryz.prog W ⟨ta, 0, none⟩ _ _ (by rfl)]
  simp [ht, hf]
theorem as_set (ta b : Nat) (x : Int) (old : Value) (W : World) (hb : W.cell? ⟨b, 0, none⟩ = some (.int .i64 x)) (ht : W.cell? ⟨ta, 0, none⟩ = some old) (hf : W.frozen? ⟨ta, 0, none⟩ = false) :
    (ReflectliteValue.set #[(.agg #[.pointer (some ⟨3, 166, none⟩), .pointer (some ⟨ta, 0, none⟩), .int .u64 409]), (.agg #[.pointer (some ⟨3, 166, none⟩), .pointer (some ⟨b, 0, none⟩), .int .u64 153])]).run Tryz.prog W = .ok (.tuple #[]) (W.setCell ⟨ta, 0, none⟩ (.int .i64 x)) := by
  obtain ⟨k, k2, k3, k4, k5, e1, e2, e3, e4, e5, e6⟩ : ∃ (k : Option (TypeId × Addr × Nat) → Sem Value) (k2 : Option (TypeId × Addr × Nat) → Sem Value) (k3 : Value → Sem Value) (k4 : Value → Bool → Sem Value) (k5 : Unit → Sem Value), ReflectliteValue.set #[(.agg #[.pointer (some ⟨3, 166, none⟩), .pointer (some ⟨ta, 0, none⟩), .int .u64 409]), (.agg #[.pointer (some ⟨3, 166, none⟩), .pointer (some ⟨b, 0, none⟩), .int .u64 153])] = ReflectliteValue.parts (.agg #[.pointer (some ⟨3, 166, none⟩), .pointer (some ⟨ta, 0, none⟩), .int .u64 409]) >>= k ∧ k (some (166, ⟨ta, 0, none⟩, 409)) = ReflectliteValue.parts (.agg #[.pointer (some ⟨3, 166, none⟩), .pointer (some ⟨b, 0, none⟩), .int .u64 153]) >>= k2 ∧ k2 (some (166, ⟨b, 0, none⟩, 153)) = loadVar 166 ⟨b, 0, none⟩ >>= k3 ∧ (∀ v, k3 v = Rtype.directlyAssignable 166 166 >>= k4 v) ∧ (∀ v, k4 v true = storeVar 166 ⟨ta, 0, none⟩ v >>= k5) ∧ k5 () = pure (.tuple #[]) := ⟨_, _, _, _, _, rfl, rfl, rfl, fun _ => rfl, fun _ => rfl, rfl⟩
  rw [e1, Sem.run_bind, as_partsA]
  simp only [Result.andThen, e2, Sem.run_bind, as_partsT, e3, as_load b x W hb, e4, as_direct, e5, as_store ta x old W ht hf, e6, Sem.run_pure]

set_option maxHeartbeats 8000000 in
theorem as_inner (x : Int) (T0 V0 : Nat) (old tgt : Value) (w : World) (hv : w.cell? ⟨V0, 0, none⟩ = some (.pointer (some ⟨T0, 0, none⟩))) (C : Cells w T0 #[old]) :
    Calls Tryz.prog 165 #[.iface 166 (.agg #[.int .i64 x]), tgt, .agg #[.pointer (some ⟨3, 174, none⟩), .pointer (some ⟨V0, 0, none⟩), .int .u64 150], .iface 232 (.agg #[.pointer (some ⟨3, 166, none⟩)])] w fun e w' => e = .returned (.bool true) ∧ Below T0 w w' ∧ w'.cell? ⟨T0, 0, none⟩ = some (.int .i64 x) := by
  have h44 := @run_callFunc_extern Tryz.prog 186 _ ReflectliteType.typeOf Tryz.func186 (by kernel_rfl) (by kernel_rfl) (by kernel_rfl) (by kernel_rfl)
  have h80 := @run_callFunc_extern Tryz.prog 266 _ (ReflectliteType.relation "AssignableTo" ReflectliteType.assignableTo) Tryz.func266 (by kernel_rfl) (by kernel_rfl) (by kernel_rfl) (by kernel_rfl)
  have h45 := @run_callFunc_extern Tryz.prog 187 _ (ReflectliteValue.method (ReflectliteValue.valueError "reflectlite.Value.Elem" 0) ReflectliteValue.elem) Tryz.func187 (by kernel_rfl) (by kernel_rfl) (by kernel_rfl) (by kernel_rfl)
  have h29 := @run_callFunc_extern Tryz.prog 162 _ (fun args => ReflectliteValue.unpack (args.getD 0 (.tuple #[]))) Tryz.func162 (by kernel_rfl) (by kernel_rfl) (by kernel_rfl) (by kernel_rfl)
  have h46 := @run_callFunc_extern Tryz.prog 188 _ ReflectliteValue.set Tryz.func188 (by kernel_rfl) (by kernel_rfl) (by kernel_rfl) (by kernel_rfl)
  have f8 := as_mAssign
  have f11 := as_typeOf
  have f12 := as_assign
  have f13 := as_valT
  obtain ⟨W1, hW1⟩ : ∃ X, X = w.alloc (.cells #[.pointer (some ⟨3, 174, none⟩), .pointer (some ⟨V0, 0, none⟩), .int .u64 150] 207) := ⟨_, rfl⟩
  have b1 : Below w.heap.size w W1 := by rw [hW1]; exact made_below _ _ (Below.refl _ _)
  have c1 : Cells W1 w.heap.size #[.pointer (some ⟨3, 174, none⟩), .pointer (some ⟨V0, 0, none⟩), .int .u64 150] := by rw [hW1]; exact Cells.made _ _ _
  have v1 : W1.cell? ⟨V0, 0, none⟩ = some (.pointer (some ⟨T0, 0, none⟩)) := (b1.cell (p := ⟨V0, 0, none⟩) (World.block_lt_of_cell? w _ hv)).trans hv
  have l0 : W1.cell? ⟨w.heap.size, 0, none⟩ = some (.pointer (some ⟨3, 174, none⟩)) := (c1.2 0).1
  have l1 : W1.cell? ⟨w.heap.size, 1, none⟩ = some (.pointer (some ⟨V0, 0, none⟩)) := (c1.2 1).1
  have l2 : W1.cell? ⟨w.heap.size, 2, none⟩ = some (.int .u64 150) := (c1.2 2).1
  have el := as_elemV ⟨V0, 0, none⟩ ⟨T0, 0, none⟩ W1 v1
  obtain ⟨W2, hW2⟩ : ∃ X, X = W1.alloc (.cells #[.int .i64 x] 166) := ⟨_, rfl⟩
  have b2 : Below W1.heap.size W1 W2 := by rw [hW2]; exact made_below _ _ (Below.refl _ _)
  have c2 : Cells W2 W1.heap.size #[.int .i64 x] := by rw [hW2]; exact Cells.made _ _ _
  have t2 : Cells W2 T0 #[old] := (C.on b1).on b2
  have st := as_set T0 W1.heap.size x old W2 (c2.2 0).1 (t2.2 0).1 (t2.2 0).2
  have hT : T0 < w.heap.size := C.1
  obtain ⟨W3, hW3⟩ : ∃ X, X = W2.setCell ⟨T0, 0, none⟩ (.int .i64 x) := ⟨_, rfl⟩
  have b3 : Below T0 w W3 := by
    rw [hW3]
    exact (((b1.mono (Nat.le_of_lt hT)).trans (b2.mono (Nat.le_of_lt (Nat.lt_of_lt_of_le hT b1.size)))).setCell (Nat.le_refl _) _)
  have r3 : W3.cell? ⟨T0, 0, none⟩ = some (.int .i64 x) := by rw [hW3]; exact ((t2.set 0 (by simp) (.int .i64 x)).2 0).1
  rw [← hW3] at st
  replace hW1 : Hid (w.alloc (.cells #[.pointer (some ⟨3, 174, none⟩), .pointer (some ⟨V0, 0, none⟩), .int .u64 150] 207) = W1) := hW1.symm
  replace hW2 : Hid (W1.alloc (.cells #[.int .i64 x] 166) = W2) := hW2.symm
  clear hW3 c1 c2 t2 b1 b2 v1
  go_enter Tryz.func165, Tryz.ntmps165
  go_wp2_with (first | rw [hW1.out] | rw [hW2.out])
  refine wp_loop_rounds 1 ?_
  rw [rounds_succ]
  go_wp2_with (first | rw [hW1.out] | rw [hW2.out])
  go_ret
  exact ⟨rfl, b3, r3⟩

set_option maxHeartbeats 8000000 in
theorem as_hit (x : Int) (T0 : Nat) (old : Value) (w : World) (hg : w.cell? ⟨0, 0, none⟩ = some (.iface 232 (.agg #[.pointer (some ⟨3, 170, none⟩)]))) (C : Cells w T0 #[old]) :
    Calls Tryz.prog 131 #[.iface 166 (.agg #[.int .i64 x]), .iface 174 (.pointer (some ⟨T0, 0, none⟩))] w fun e w' => e = .returned (.bool true) ∧ Below T0 w w' ∧ w'.cell? ⟨T0, 0, none⟩ = some (.int .i64 x) := by
  have h29 := @run_callFunc_extern Tryz.prog 162 _ (fun args => ReflectliteValue.unpack (args.getD 0 (.tuple #[]))) Tryz.func162 (by kernel_rfl) (by kernel_rfl) (by kernel_rfl) (by kernel_rfl)
  have h30 := @run_callFunc_extern Tryz.prog 163 _ (ReflectliteValue.methodAny (ReflectliteValue.valueError "reflectlite.Value.Type" 0) (fun t _ _ _ => ReflectliteType.toType t)) Tryz.func163 (by kernel_rfl) (by kernel_rfl) (by kernel_rfl) (by kernel_rfl)
  have h31 := @run_callFunc_extern Tryz.prog 164 _ (ReflectliteValue.method (ReflectliteValue.valueError "reflectlite.Value.IsNil" 0) ReflectliteValue.isNil) Tryz.func164 (by kernel_rfl) (by kernel_rfl) (by kernel_rfl) (by kernel_rfl)
  have h66 := @run_callFunc_extern Tryz.prog 255 _ (ReflectliteType.abiMethod fun t => do pure (.int .u8 (← Rtype.kind t))) Tryz.func255 (by kernel_rfl) (by kernel_rfl) (by kernel_rfl) (by kernel_rfl)
  have h82 := @run_callFunc_extern Tryz.prog 268 _ (ReflectliteType.method ReflectliteType.elem) Tryz.func268 (by kernel_rfl) (by kernel_rfl) (by kernel_rfl) (by kernel_rfl)
  have h83 := @run_callFunc_extern Tryz.prog 269 _ (ReflectliteType.relation "Implements" ReflectliteType.implements_) Tryz.func269 (by kernel_rfl) (by kernel_rfl) (by kernel_rfl) (by kernel_rfl)
  have f1 := as_val
  have f2 := as_type
  have f3 := as_mKind
  have f4 := as_kindP
  have f5 := as_kindT
  have f6 := as_mElem
  have f7 := as_mImpl
  have f9 := as_elem
  have f10 := as_impl
  have h0 : 0 < w.heap.size := World.block_lt_of_cell? w _ hg
  obtain ⟨W1, hW1⟩ : ∃ X, X = w.alloc (.cells #[.pointer (some ⟨T0, 0, none⟩)] 174) := ⟨_, rfl⟩
  have b1 : Below w.heap.size w W1 := by rw [hW1]; exact made_below _ _ (Below.refl _ _)
  have c1 : Cells W1 w.heap.size #[.pointer (some ⟨T0, 0, none⟩)] := by rw [hW1]; exact Cells.made _ _ _
  obtain ⟨W2, hW2⟩ : ∃ X, X = W1.alloc (.cells #[.pointer (some ⟨3, 174, none⟩), .pointer (some ⟨w.heap.size, 0, none⟩), .int .u64 150] 207) := ⟨_, rfl⟩
  have b2 : Below W1.heap.size W1 W2 := by rw [hW2]; exact made_below _ _ (Below.refl _ _)
  have c2 : Cells W2 W1.heap.size #[.pointer (some ⟨3, 174, none⟩), .pointer (some ⟨w.heap.size, 0, none⟩), .int .u64 150] := by rw [hW2]; exact Cells.made _ _ _
  have k2 := below_on b1 b2
  have hv : W2.cell? ⟨w.heap.size, 0, none⟩ = some (.pointer (some ⟨T0, 0, none⟩)) := ((c1.on b2).2 0).1
  have n31 := as_isNil ⟨w.heap.size, 0, none⟩ ⟨T0, 0, none⟩ W2 hv
  have g2 : W2.cell? ⟨0, 0, none⟩ = some (.iface 232 (.agg #[.pointer (some ⟨3, 170, none⟩)])) := (k2.cell (p := ⟨0, 0, none⟩) h0).trans hg
  have l0 : W2.cell? ⟨W1.heap.size, 0, none⟩ = some (.pointer (some ⟨3, 174, none⟩)) := (c2.2 0).1
  have l1 : W2.cell? ⟨W1.heap.size, 1, none⟩ = some (.pointer (some ⟨w.heap.size, 0, none⟩)) := (c2.2 1).1
  have l2 : W2.cell? ⟨W1.heap.size, 2, none⟩ = some (.int .u64 150) := (c2.2 2).1
  have CI := as_inner x T0 w.heap.size old (.iface 174 (.pointer (some ⟨T0, 0, none⟩))) W2 hv (C.on k2)
  have hT : T0 ≤ w.heap.size := Nat.le_of_lt C.1
  replace hW1 : Hid (w.alloc (.cells #[.pointer (some ⟨T0, 0, none⟩)] 174) = W1) := hW1.symm
  replace hW2 : Hid (W1.alloc (.cells #[.pointer (some ⟨3, 174, none⟩), .pointer (some ⟨w.heap.size, 0, none⟩), .int .u64 150] 207) = W2) := hW2.symm
  clear c1 c2 b1 b2 hg C h0 hv
  go_enter Tryz.func131, Tryz.ntmps131
  go_wp2_with (first | rw [hW1.out] | rw [hW2.out])
  refine CI.mono ?_
  rintro e w3 ⟨rfl, b3, r3⟩
  have k3 : Below T0 w w3 := (k2.mono hT).trans b3
  go_wp2_with (fail)
  go_ret
  exact ⟨rfl, k3, r3⟩

end Go.Proofs.YthfnechcddmjkaaGreatDoor
