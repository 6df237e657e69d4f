/-
  What bytes.Repeat answers of one byte and 64: 64 times that byte, in memory of its own. Condition: the byte lies there.
-/
import Derived.Test.YthfnechcddmjkaaGreatDoorParf01
import Derived.Test.YthfnechcddmjkaaGreatDoorParf02
import Derived.Lib.MakeNoZero
import Derived.Lib.SlBuf
import Derived.BigRegion
namespace Go.Proofs.YthfnechcddmjkaaGreatDoor
open Go.RowKit

structure Rep (w0 wr : World) (h bp : Nat) (x : Int) : Prop where
  below : Below h w0 wr
  there : ∀ j, j < 64 → (wr.cell? ⟨h, j, none⟩).isSome = true
  free : ∀ j, j < 64 → wr.frozen? ⟨h, j, none⟩ = false
  holds : ∀ j, j < bp → wr.cell? ⟨h, j, none⟩ = some (.int .u8 x)

section
variable {w0 wr : World} {h bp : Nat} {x : Int}
theorem Rep.drew (r : Rep w0 wr h bp x) : Rep w0 wr.drew h bp x := ⟨r.below.drew, r.there, r.free, r.holds⟩
theorem Rep.put (r : Rep w0 wr h bp x) (d : Nat) (hd : bp + d ≤ 64) : Rep w0 (wr.setCells h bp (List.replicate d (.int .u8 x))) h (bp + d) x := by
  have hin := World.cell?_setCells_in h (List.replicate d (Value.int .u8 x)) bp wr (fun j hj => by rw [List.length_replicate] at hj; exact r.there _ (by omega))
  have hout := World.cell?_setCells_out h (List.replicate d (Value.int .u8 x)) bp wr
  refine ⟨Lib.below_setCells h (Nat.le_refl _) _ _ r.below, ?_, ?_, ?_⟩
  · intro j hj
    by_cases h1 : bp ≤ j ∧ j < bp + d
    · obtain ⟨k, rfl⟩ : ∃ k, j = bp + k := ⟨j - bp, by omega⟩
      rw [hin k (by rw [List.length_replicate]; omega)]
      rfl
    · rw [hout ⟨h, j, none⟩ (fun _ _ => by rw [List.length_replicate]; show j < _ ∨ _ ≤ j; omega)]
      exact r.there j hj
  · intro j hj
    rw [World.frozen?_setCells]
    exact r.free j hj
  · intro j hj
    by_cases h1 : j < bp
    · rw [hout ⟨h, j, none⟩ (fun _ _ => Or.inl h1)]
      exact r.holds j h1
    · obtain ⟨k, rfl⟩ : ∃ k, j = bp + k := ⟨j - bp, by omega⟩
      rw [hin k (by rw [List.length_replicate]; omega)]
      simp
theorem Rep.copy {P : Program} (r : Rep w0 wr h bp x) (t ty e : TypeId) (hu : P.underlying t = some (.slice e)) (hs : (P.info? e).map (·.size) = some 1) (d : Nat) (hd : d = Nat.min bp (64 - bp)) (c1 c2 : Nat) :
    (Builtin.copy_ #[t, t] ty #[.slice (some ⟨h, bp, none⟩) (64 - bp) c1, .slice (some ⟨h, 0, none⟩) bp c2]).run P wr = .ok (.int .i64 (d : Int)) (wr.setCells h bp (List.replicate d (.int .u8 x))) := by
  have hl1 : d ≤ bp := by rw [hd]; exact Nat.min_le_left _ _
  have hl2 : d ≤ 64 - bp := by rw [hd]; exact Nat.min_le_right _ _
  have hr := run_copy_cells (P := P) wr t t ty e h bp (64 - bp) c1 ⟨h, 0, none⟩ bp c2 (List.replicate d (.int .u8 x)) hu hs (by rw [List.length_replicate]; exact hd)
    (fun j v hj => by
      have hjd : j < d := by have := (List.getElem?_eq_some_iff.1 hj).1; simpa using this
      have hv : v = .int .u8 x := by have := (List.getElem?_eq_some_iff.1 hj).2; simpa using this.symm
      subst hv
      rw [show (⟨h, 0, none⟩ : Addr).add j = ⟨h, j, none⟩ by unfold Addr.add; split <;> simp_all]
      exact r.holds j (by omega))
    (fun j hj => by rw [List.length_replicate] at hj; exact r.there _ (by omega)) (fun j hj => by rw [List.length_replicate] at hj; exact r.free _ (by omega))
    (fun v hv => by have := List.eq_of_mem_replicate hv; subst this; rfl)
  rw [List.length_replicate] at hr
  exact hr
theorem step_copyR {P : Program} {ops : Array Oper} {o : Oper} {a : Act} {w : World} {K : Act → World → Prop} {Q : Exit → Act → World → Prop} {E : Prop}
    (hg : o.guard = none) (d x : Operand) (t t' : TypeId) (hop : o.op = Op.call { callee := Callee.builtin Builtin.copy, args := #[d, x], argTypes := #[t, t'] })
    (v u : Value) (hd : a.eval d = v) (hx : a.eval x = u) {v' : Value} {w' : World} (hr : (Builtin.copy_ #[t, t'] o.type #[v, u]).run P w = .ok v' w') (hK : K (a.put o.dst v') w') :
    if Region.wanted o (yielded ops a.tmps) = true then Oper.wp P o a w K Q else E := by
  have hw : Region.wanted o (yielded ops a.tmps) = true := by simp [Region.wanted, hg]
  rw [if_pos hw]
  exact Lib.wp_copy_run w d x t t' hop v u hd hx hr hK
end

theorem mul64_same (w : World) : Calls Tryz.prog 220 #[.int .u64 1, .int .u64 64] w fun e w' => e = .returned (.tuple #[.int .u64 0, .int .u64 64]) ∧ w' = w := by
  go_enter Tryz.func220, Tryz.ntmps220
  go_wp2
  go_ret2
  exact ⟨rfl, rfl⟩

theorem mul_same (w : World) : Calls Tryz.prog 205 #[.int .u64 1, .int .u64 64] w fun e w' => e = .returned (.tuple #[.int .u64 0, .int .u64 64]) ∧ w' = w := by
  go_enter Tryz.func205, Tryz.ntmps205
  go_wp2_with (fail)
  refine (mul64_same _).mono ?_
  rintro e w1 ⟨rfl, rfl⟩
  go_wp2
  go_ret2
  exact ⟨rfl, rfl⟩

set_option maxRecDepth 100000 in
set_option maxHeartbeats 2000000 in
theorem repeat64 (b o c : Nat) (x : Int) (Y : List Int) (hY : Hid (∀ i, i < 64 → Y.getD i 0 = x)) (w : World) (hc : w.cell? ⟨b, o, none⟩ = some (.int .u8 x)) :
    Calls Tryz.prog 177 #[.slice (some ⟨b, o, none⟩) 1 c, .int .i64 64] w fun e w' => e = .returned (.slice (some ⟨w.heap.size, 0, none⟩) 64 64) ∧ BytesIn w' (some ⟨w.heap.size, 0, none⟩) 64 Y ∧ Below w.heap.size w w' := by
  obtain ⟨i0, hi, hz0, hz1, hz2⟩ := info_parts infoByte
  have hs5 : (Tryz.prog.info? 5).map (·.size) = some 1 := by rw [hi]; simp [hz1]
  have hb : b < w.heap.size := World.block_lt_of_cell? w ⟨b, o, none⟩ hc
  obtain ⟨cs, hrunM, hle, _⟩ := Lib.run_makeNoZero (P := Tryz.prog) w #[3] 22 5 Tryz.underlying22 64 (by omega)
  have hcall : (callFunc 206 #[.int .i64 64]).run Tryz.prog w = .ok (.value (.slice (some ⟨w.heap.size, 0, none⟩) 64 cs.size)) ((w.alloc (.cells cs 5)).drewN 2) := by
    rw [run_callFunc_extern Tryz.func206 (by kernel_rfl) (by kernel_rfl) (by kernel_rfl) (e := Extern.BytealgMakeNoZero.makeNoZero #[3] #[22]) (by kernel_rfl)]
    exact congrArg (fun r => Result.andThen r _) hrunM
  clear hrunM
  have i1 : (64 : Int) ≤ (cs.size : Int) := by omega
  have B0 := Lib.Buf.start w cs 5 64 2 hle
  generalize (w.alloc (.cells cs 5)).drewN 2 = wM at hcall B0
  have R0 : Rep w wM w.heap.size 0 x := ⟨B0.below, B0.there, B0.free, fun j hj => absurd hj (by omega)⟩
  have hr1 : ∀ ty, (Builtin.copy_ #[22, 22] ty #[.slice (some ⟨w.heap.size, 0, none⟩) 64 64, .slice (some ⟨b, o, none⟩) 1 c]).run Tryz.prog wM = .ok (.int .i64 1) (wM.setCells w.heap.size 0 (List.replicate 1 (.int .u8 x))) := fun ty =>
    run_copy_cells (P := Tryz.prog) wM 22 22 ty 5 w.heap.size 0 64 64 ⟨b, o, none⟩ 1 c (List.replicate 1 (.int .u8 x)) Tryz.underlying22 hs5 rfl
      (fun j v hj => by
        have hj0 : j = 0 := by have := (List.getElem?_eq_some_iff.1 hj).1; simp at this; omega
        subst hj0
        have hv : Value.int .u8 x = v := by simpa using hj
        subst hv
        have := (B0.below.cell (p := ⟨b, o, none⟩) hb).trans hc
        simpa [Addr.add] using this)
      (fun j hj => by simp at hj; exact R0.there _ (by omega)) (fun j hj => by simp at hj; exact R0.free _ (by omega)) (fun v hv => by have := List.eq_of_mem_replicate hv; subst this; rfl)
  have R1 := R0.put 1 (by omega)
  generalize wM.setCells w.heap.size 0 (List.replicate 1 (Value.int .u8 x)) = w1 at hr1 R1
  clear B0 R0 hc
  go_enter Tryz.func177, Tryz.ntmps177
  go_wp2_with (fail)
  refine (mul_same _).mono ?_
  rintro e wm ⟨rfl, rfl⟩
  go_wp2_with (at_builtin; refine Lib.wpList_copy_run _ rfl _ _ 22 22 rfl _ _ rfl rfl (hr1 _) ?_)
  clear hr1 hcall
  go_loopw [10, 11] (fun v _ wr => ∃ bp : Nat, 1 ≤ bp ∧ bp ≤ 64 ∧ v = .int .i64 bp ∧ Rep wm wr wm.heap.size bp x)
    (fun v _ _ => 64 - (intOf v).toNat)
  case atStart => exact ⟨1, by omega, by omega, rfl, R1⟩
  case round =>
    clear R1
    obtain ⟨bp, h1, h64, rfl, R⟩ := hrel
    by_cases hlt : bp < 64
    · obtain ⟨d, hd⟩ : ∃ d, d = Nat.min bp (64 - bp) := ⟨_, rfl⟩
      have hd1 : 1 ≤ d := by rw [hd]; exact Nat.le_min.2 ⟨h1, by omega⟩
      have hd2 : bp + d ≤ 64 := by have : d ≤ 64 - bp := by rw [hd]; exact Nat.min_le_right _ _
                                   omega
      have hm : min (bp : Int) 64 = (bp : Int) := by omega
      have i2 : (bp : Int) ≤ 64 := by omega
      have i3 : ¬ 64 = bp := by omega
      have i4 : IntKind.i64.wrap ((bp : Int) + (d : Int)) = ((bp + d : Nat) : Int) := by rw [IntKind.wrap_i64]; omega
      have hcp := fun ty => R.drew.copy (P := Tryz.prog) 22 ty 5 Tryz.underlying22 hs5 d hd (64 - bp) 64
      have RP := R.drew.put d hd2
      generalize wr.drew.setCells wm.heap.size bp (List.replicate d (Value.int .u8 x)) = w2 at hcp RP
      clear hd R
      go_wp2_with (fail)
      go_region_law (refine step_copyR (by rfl) (.tmp 70) (.tmp 73) 22 22 (by rfl) (.slice (some ⟨wm.heap.size, bp, none⟩) (64 - bp) (64 - bp)) (.slice (some ⟨wm.heap.size, 0, none⟩) bp 64) (by simp [Act.eval, Act.put]) (by simp [Act.eval, Act.put]) (hcp _) ?_)
      all_goals
        simp only [Act.put, List.getElem_toArray, List.getElem_cons_zero, List.getElem_cons_succ, List.setIfInBounds_toArray, List.set_cons_zero, List.set_cons_succ]
        go_wp2
        go_roundw
        case rel => exact ⟨bp + d, by omega, by omega, by go_num, RP⟩
        case measure => simp [intOf]; omega
    · have hnl : ¬ (bp : Int) < 64 := by omega
      go_wp2
      go_ret
      refine ⟨rfl, fun _ => ⟨_, 0, rfl, fun i hi => ?_⟩, R.below⟩
      rw [Nat.zero_add, R.holds i (by omega), hY.out i hi]

end Go.Proofs.YthfnechcddmjkaaGreatDoor
