/-
  A part of the proof.
-/
import Derived.Test.YtnpffnhiefgglaaGreatDoorParw10
import Derived.Laws.Tables
import Derived.Conc.SmallLaws
import Derived.Laws.OwnMore
import Derived.Conc.TokenWalk
import Derived.Test.YtnpffnhiefgglaaGreatDoorParw09
import Derived.Test.YtnpffnhiefgglaaGreatDoorChecked
import Derived.Deep.QuietTactic
import Derived.BigQuiet
namespace Go.Proofs.YtnpffnhiefgglaaGreatDoor
open Go Go.Conc
set_option maxRecDepth 100000
section
variable {P : Program} {main : Bool} {Sh : Nat → Prop} {Stop : (Nat → Prop) → Goroutine → World → Prop} {M : Nat → Prop} {w : World} {b : Frame} {a : Act} {k : List Item} {cs : List Frame} {ops : Array Oper} {i : Nat} {rest : List Nat} {o : Oper}
theorem Co.unwanted (ho : ops[i]? = some o) (hw : Region.wanted o (yielded ops a.tmps) = false)
    (h : Co P main Sh Stop M (G (b.at (a.put o.dst undef) (.inRegion ops rest :: k)) cs) w) : Co P main Sh Stop M (G (b.at a (.inRegion ops (i :: rest) :: k)) cs) w := .ctlG (fun _ => stepG_unwanted ho hw) h
theorem Co.allocV {e : TypeId} {Z : Array Value} {ti : TypeInfo} (ho : ops[i]? = some o) (hw : Region.wanted o (yielded ops a.tmps) = true) (hk : b.kind ≠ .early) (hop : o.op = .alloc e) (hi : P.info? e = some ti) (hz : ti.zero = some (.agg Z)) (hM : ∀ b, M b → b < w.heap.size)
    (next : ∀ w1, Keeps M w w1 → Co P main Sh Stop (fun b => M b ∨ b = w1.heap.size) (G (b.at (a.put o.dst (.pointer (some ⟨w1.heap.size, 0, none⟩))) (.inRegion ops rest :: k)) cs) { w1 with heap := w1.heap.push (.cells Z e) }) : Co P main Sh Stop M (G (b.at a (.inRegion ops (i :: rest) :: k)) cs) w := by
  have hr : ∀ w1, (execOp a.eval o).run P w1 = .ok (.value (.pointer (some ⟨w1.heap.size, 0, none⟩))) { w1 with heap := w1.heap.push (.cells Z e) } := fun w1 => by
    unfold execOp
    rw [hop]
    simp [Instr.alloc, zeroValue, typeInfo, hi, hz, newVar, newRow, Value.cells]
  have he : ∀ w1, (execOp a.eval o).events P w1 #[] = #[] := fun w1 => by
    unfold execOp
    rw [hop]
    simp [Instr.alloc, zeroValue, typeInfo, hi, hz, newVar, newRow]
  exact Co.alloc (g' := fun n => G (b.at (a.put o.dst (.pointer (some ⟨n, 0, none⟩))) (.inRegion ops rest :: k)) cs) rfl (fun w1 _ => ⟨#[], by rw [stepG_value ho hw hk (hr w1)]; unfold listed; rw [he w1, seen_none], by simp⟩) hM next
theorem Co.makeChan {t e : TypeId} {dir : ChanDir} {ti : TypeInfo} {x : Operand} {kd : IntKind} {n : Nat} (ho : ops[i]? = some o) (hw : Region.wanted o (yielded ops a.tmps) = true) (hk : b.kind ≠ .early) (hop : o.op = .makeChan t x) (hx : a.eval x = .int kd n) (ht : P.underlying t = some (.chan dir e)) (hi : P.info? e = some ti) (h63 : (n : Int) ≤ 9223372036854775807) (hb : (ti.bytes : Int) * n ≤ 281474976710544) (hM : ∀ b, M b → b < w.heap.size)
    (next : ∀ w1, Keeps M w w1 → Co P main Sh Stop (fun b => M b ∨ b = w1.heap.size) (G (b.at (a.put o.dst (.chan (some w1.heap.size))) (.inRegion ops rest :: k)) cs) { w1 with heap := w1.heap.push (.chan n #[] false 0 0 false) }) : Co P main Sh Stop M (G (b.at a (.inRegion ops (i :: rest) :: k)) cs) w := by
  have hr : ∀ w1, (execOp a.eval o).run P w1 = .ok (.value (.chan (some w1.heap.size))) { w1 with heap := w1.heap.push (.chan n #[] false 0 0 false) } := fun w1 => by
    unfold execOp
    rw [hop]
    simp [hx, run_makeChan ht hi kd n h63 hb]
  have he : ∀ w1, (execOp a.eval o).events P w1 #[] = #[] := fun w1 => by
    unfold execOp
    rw [hop]
    simp [hx, events_makeChan ht hi kd n h63 hb]
  exact Co.alloc (g' := fun n => G (b.at (a.put o.dst (.chan (some n))) (.inRegion ops rest :: k)) cs) rfl (fun w1 _ => ⟨#[], by rw [stepG_value ho hw hk (hr w1)]; unfold listed; rw [he w1, seen_none], by simp⟩) hM next
end
section
variable {P : Program} {main : Bool} {Sh : Nat → Prop} {Stop : (Nat → Prop) → Goroutine → World → Prop} {M N : Nat → Prop} {w : World} {n : Nat} {A : Nat → Prop}
theorem Co.skips {b : Frame} {a : Act} {k : List Item} {cs : List Frame} {ops : Array Oper} {i : Nat} {rest : List Nat} {o : Oper} (ho : ops[i]? = some o) (hw : Region.wanted o (yielded ops a.tmps) = true) (hk : b.kind ≠ .early)
    (hN : ∀ b, N b → M b) (hlow : ∀ b, M b → b < w.heap.size) (sim : SimS P P RelN (idr N n A) (execOp a.eval o) (execOp a.eval o)) (hm : ∀ w1, Keeps M w w1 → Mine Sh N n A w1) (hr : ∀ w1, Keeps M w w1 → ∃ w2, (execOp a.eval o).run P w1 = .ok .skip w2)
    (h : ∀ w1, Keeps M w w1 → ∀ w2, (execOp a.eval o).run P w1 = .ok .skip w2 → Co P main Sh Stop (grown M w1 w2) (G (b.at (a.put o.dst undef) (.inRegion ops rest :: k)) cs) w2) : Co P main Sh Stop M (G (b.at a (.inRegion ops (i :: rest) :: k)) cs) w := by
  refine .step rfl (fun w1 hk1 => ?_) fun w1 hk1 g' w2 es he => ?_
  · obtain ⟨w2, hr1⟩ := hr w1 hk1
    have M1 := hm w1 hk1
    cases hrt : (execOp a.eval o).runT P w1 #[] with
    | mk r es0 =>
      have hr2 : r = .ok .skip w2 := by rw [← hr1, ← Sem.runT_fst P _ w1 #[], hrt]
      subst hr2
      obtain ⟨ρ1, v', w2', more, r1, _, r3, r4, r5⟩ := sim.runs #[] (M1.rel w2.drawn) M1.sh M1.big hrt (Nat.le_refl _)
      rw [hrt] at r1
      simp only [Prod.mk.injEq, Result.ok.injEq, Array.empty_append] at r1
      obtain ⟨⟨_, rfl⟩, rfl⟩ := r1
      have hpair : ∀ b b', ρ1 b b' → grown N w1 w2 b' := fun b b' hb => by
        rcases r4.new b b' hb with x | ⟨j, _, x⟩
        · exact .inl (x.1 ▸ x.2)
        · exact .inr ⟨by omega, (r3.lt hb).2⟩
      have hsame : ∀ b b', ρ1 b b' → b = b' := fun b b' hb => by
        rcases r4.new b b' hb with x | ⟨j, x, y⟩
        · exact x.1
        · omega
      refine ⟨_, _, _, stepG_none ho hw hk hr1, r4.size', fun b hb hn => r4.rest b hb fun c hc => hn (hN b (hc.1 ▸ hc.2)), fun b hs hmb => ?_, r4.os, r4.output, r4.tape, fun e he => ?_⟩
      · by_cases hnb : N b
        · exact r4.still b b hs ⟨rfl, hnb⟩
        · exact r4.rest b (Nat.lt_of_lt_of_le (hlow b hmb) hk1.size) fun c hc => hnb (hc.1 ▸ hc.2)
      · have he' : e ∈ es0 := by
          have := seen_sub _ _ he
          have hev : (execOp a.eval o).events P w1 #[] = es0 := by
            show ((execOp a.eval o).runT P w1 #[]).2 = es0
            rw [hrt]
          rwa [hev] at this
        have hup : ∀ b, grown N w1 w2 b → grown M w1 w2 b := fun b hb => hb.imp (hN b) id
        rcases r5 e he' with ⟨ad, c, h1, h2, h3, h4⟩ | ⟨r, c, h1, h2, h3, h4⟩ | h1
        · exact .inl ⟨ad, h1, h2, hup _ (hpair _ _ h3), hsame _ _ h3 ▸ h4⟩
        · exact .inr (.inl ⟨_, h1, h2, h3, hup _ (hpair _ _ h4)⟩)
        · exact .inr (.inr h1)
  · obtain ⟨w3, hr1⟩ := hr w1 hk1
    rw [stepG_none ho hw hk hr1] at he
    cases he
    exact h w1 hk1 _ hr1
theorem Co.storeRow {b : Frame} {a : Act} {k : List Item} {cs : List Frame} {ops : Array Oper} {i : Nat} {rest : List Nat} {o : Oper} {t e : TypeId} {x y : Operand} {β : Nat} {Z X : Array Value} (ho : ops[i]? = some o) (hw : Region.wanted o (yielded ops a.tmps) = true) (hk : b.kind ≠ .early) (hop : o.op = .store t x y) (hx : a.eval x = .pointer (some ⟨β, 0, none⟩)) (hy : a.eval y = .agg X)
    (hβ : w.heap[β]? = some (.cells Z e (0, 0))) (hM : M β) (hS : ¬ Sh β) (hSw : ∀ b, Sh b → b < w.heap.size) (hlow : ∀ b, M b → b < w.heap.size) (hZ : ∀ v ∈ Z, flatC v = true) (hX : ∀ v ∈ X, flatC v = true) (h1 : X.all (·.oneCell') = true) (hz : Z.size = X.size) (hi : (P.info? t).map (·.size) = some X.size)
    (h : ∀ w1, Keeps M w w1 → Co P main Sh Stop M (G (b.at (a.put o.dst undef) (.inRegion ops rest :: k)) cs) (w1.setRow β X)) : Co P main Sh Stop M (G (b.at a (.inRegion ops (i :: rest) :: k)) cs) w := by
  have hb1 : ∀ w1, Keeps M w w1 → w1.heap[β]? = some (.cells Z e (0, 0)) := fun w1 hk1 => (hk1.heap _ hM).trans hβ
  have hr : ∀ w1, Keeps M w w1 → (execOp a.eval o).run P w1 = .ok .skip (w1.setRow β X) := fun w1 hk1 => by
    unfold execOp
    rw [hop]
    simp [hx, hy, Instr.storeAt, Instr.sureAddr, run_storeVar_row w1 β e t Z X (hb1 w1 hk1) hi hz h1]
  refine Co.skips (N := fun b => b = β) (n := 0) (A := fun _ => False) ho hw hk (fun b hb => hb ▸ hM) hlow ?_ (fun w1 hk1 => ⟨fun b hb => ?_, fun b hs hb => absurd (hb ▸ hs) hS, fun b hb => Nat.lt_of_lt_of_le (hSw b hb) hk1.size, Nat.zero_le _⟩) (fun w1 hk1 => ⟨_, hr w1 hk1⟩) fun w1 hk1 w2 hr2 => ?_
  · unfold execOp
    rw [hop]
    simp only [hx, hy]
    refine sim_unit ((sim_sureAddr (.ptr (show RelA (idr (fun b => b = β) 0 fun _ => False) ⟨β, 0, none⟩ ⟨β, 0, none⟩ from ⟨show β = β ∧ β = β from ⟨rfl, rfl⟩, rfl, rfl, fun _ => rfl, Nat.zero_le _⟩))).bd fun ρ1 u u' hle hu => sim_storeVar hu ?_ t)
    exact .agg rfl fun j v v' g1 g2 => by rw [g1] at g2; cases g2; exact flatC_rel (hX _ (Array.mem_of_getElem? g1))
  · subst hb
    refine ⟨_, hb1 w1 hk1, .cells e rfl ⟨rfl, fun i v v' h1 h2 => ?_⟩ fun i h1 h2 => ⟨h1, h2⟩⟩
    rw [h1] at h2
    cases h2
    exact flatC_rel (hZ v (Array.mem_of_getElem? h1))
  · rw [hr w1 hk1] at hr2
    cases hr2
    have hg : grown M w1 (w1.setRow β X) = M := grown_self (by simp [World.setRow])
    rw [hg]
    exact h w1 hk1
end
def bR : Frame := { (default : Frame) with fn := 72, kind := .normal }
noncomputable def bodyR : Code := Tryz.f72.body.getD .skip
noncomputable def ops2R : Array Oper := match bodyR with | .seq _ (.seq _ (.seq (.region _ o _) _)) => o | _ => #[]
noncomputable def rest2R : Code := match bodyR with | .seq _ (.seq _ (.seq _ t)) => t | _ => .skip
noncomputable def condR : Code := match bodyR with | .seq _ (.seq _ (.seq _ (.seq (.seq _ c) _))) => c | _ => .skip
noncomputable def tailR : Code := match bodyR with | .seq _ (.seq _ (.seq _ (.seq _ t))) => t | _ => .skip
noncomputable def ops4R : Array Oper := match condR with | .cond _ (.seq (.region _ o _) _) _ => o | _ => #[]
section
variable {Sh : Nat → Prop} {Stop : (Nat → Prop) → Goroutine → World → Prop} {M : Nat → Prop} {w : World}
theorem enter_R (kv cv nv bv : Value) : Frame.enter Tryz.prog 72 #[kv, cv, nv, bv] .normal = bR.at ⟨#[kv, cv, nv, bv] ++ Array.replicate 61 undef, []⟩ [.code bodyR] := by
  simp [Frame.enter, Frame.at, bR, bodyR, Tryz.func72, Tryz.f72]
noncomputable def call1R (kv nv : Value) (ct : Int) (bp : Option Addr) (bn bc : Nat) (a1 a2 a3 : Int) (v23 : Value) (rest : List Nat) : Frame :=
  bR.at ⟨#[kv, .int .i64 ct, nv, .slice bp bn bc, undef, undef, undef, undef, .slice none 0 0, .int .i64 a3, undef, undef, undef, undef, undef, .slice bp bn bc, .int .i64 bn, .int .i64 a1, .int .i64 a2, .int .i64 a3, undef, kv, nv, v23, undef, undef, undef, undef, undef, undef, undef, undef, undef, undef, undef, undef, undef, undef, undef, undef, undef, undef, undef, undef, undef, undef, undef, undef, undef, undef, undef, undef, undef, undef, undef, undef, undef, undef, undef, undef, undef, undef, undef, undef, undef], []⟩ [.inRegion ops2R rest, .code rest2R]
theorem first_R (kv nv : Value) (ct : Int) (bp : Option Addr) (bn bc : Nat) (a1 a2 a3 : Int) (e1 : IntKind.i64.wrap ((bn : Int) + 64) = a1) (e2 : IntKind.i64.wrap (a1 - 1) = a2) (e3 : IntKind.i64.wrap (a2.tdiv 64) = a3) (cs : List Frame)
    (next : Co Tryz.prog true Sh Stop M (G (Frame.enter Tryz.prog 107 #[kv, nv] .normal) (call1R kv nv ct bp bn bc a1 a2 a3 undef [2, 3, 4, 5, 6, 7, 8] :: cs)) w) :
    Co Tryz.prog true Sh Stop M (G (Frame.enter Tryz.prog 72 #[kv, .int .i64 ct, nv, .slice bp bn bc] .normal) cs) w := by
  rw [enter_R]
  simp only [call1R, ops2R, rest2R, bodyR, Tryz.f72, Option.getD_some] at next ⊢
  walk_nrm
  repeat (first | (with_reducible refine Co.ctlG (fun _ => by first | exact stepG_seq | exact stepG_skip | exact stepG_block | exact stepG_loop | exact stepG_inLoop | exact stepG_inBlock | exact stepG_region_end | exact stepG_region) ?_) | (refine Co.value rfl rfl (by decide) (fun _ => by simp [execOp, Act.eval]; rfl) (fun _ => by simp [execOp, Act.eval]) ?_; walk_nrm))
  refine Co.value (v := .int .i64 bn) rfl rfl (by decide) (fun _ => by simp [go_sem, execOp, Act.eval]) (fun _ => by simp [go_sem, execOp, Act.eval]) ?_
  walk_nrm
  refine Co.value (v := .int .i64 a1) rfl rfl (by decide) (fun _ => by simp [go_sem, execOp, Act.eval, e1]) (fun _ => by simp [go_sem, execOp, Act.eval]) ?_
  walk_nrm
  refine Co.value (v := .int .i64 a2) rfl rfl (by decide) (fun _ => by simp [go_sem, execOp, Act.eval, e2]) (fun _ => by simp [go_sem, execOp, Act.eval]) ?_
  walk_nrm
  refine Co.value (v := .int .i64 a3) rfl rfl (by decide) (fun _ => by simp [go_sem, execOp, Act.eval, e3]) (fun _ => by simp [go_sem, execOp, Act.eval]) ?_
  walk_nrm
  iterate 1 (refine Co.value rfl rfl (by decide) (fun _ => by simp [execOp, Act.eval]; rfl) (fun _ => by simp [execOp, Act.eval]) ?_; walk_nrm)
  iterate 3 (with_reducible refine Co.ctlG (fun _ => by first | exact stepG_seq | exact stepG_skip | exact stepG_block | exact stepG_loop | exact stepG_inLoop | exact stepG_inBlock | exact stepG_region_end | exact stepG_region) ?_)
  iterate 2 (refine Co.value rfl rfl (by decide) (fun _ => by simp [execOp, Act.eval]; rfl) (fun _ => by simp [execOp, Act.eval]) ?_; walk_nrm)
  refine Co.call rfl rfl (by decide) rfl Tryz.func107 (by kernel_rfl) (by kernel_rfl) ?_
  walk_nrm
  exact next
theorem finish_R (kv nv : Value) (ct : Int) (bp : Option Addr) (bn bc : Nat) (a1 a2 a3 : Int) (v : Value) : (call1R kv nv ct bp bn bc a1 a2 a3 undef [2, 3, 4, 5, 6, 7, 8]).finish v = call1R kv nv ct bp bn bc a1 a2 a3 v [3, 4, 5, 6, 7, 8] := by
  simp only [call1R, ops2R, rest2R, bodyR, Tryz.f72, Option.getD_some]
  rfl
noncomputable def made1R (kv nv : Value) (ct : Int) (bp : Option Addr) (bn bc : Nat) (a1 a2 a3 : Int) (X : Array Value) (ok : Bool) (β : Nat) : Frame :=
  bR.at ⟨#[kv, .int .i64 ct, nv, .slice bp bn bc, undef, undef, undef, undef, .slice none 0 0, .int .i64 a3, .pointer (some ⟨β, 0, none⟩), .bool ok, undef, undef, undef, .slice bp bn bc, .int .i64 bn, .int .i64 a1, .int .i64 a2, .int .i64 a3, .tuple #[.agg X, .bool ok], kv, nv, .tuple #[.agg X, .bool ok], .agg X, .bool ok, undef, undef, undef, undef, undef, undef, undef, undef, undef, undef, undef, undef, undef, undef, undef, undef, undef, undef, undef, undef, undef, undef, undef, undef, undef, undef, undef, undef, undef, undef, undef, undef, undef, undef, undef, undef, undef, undef, undef], []⟩ [.code rest2R]
theorem infoS : (Tryz.prog.info? 131).map (fun i => (i.zero, i.size)) = some (some (.agg (Array.replicate 16 (.int .u32 0))), 16) := by kernel_rfl
theorem second_R (kv nv : Value) (ct : Int) (bp : Option Addr) (bn bc : Nat) (a1 a2 a3 : Int) (X : Array Value) (ok : Bool) (hX : ∀ v ∈ X, flatC v = true) (h16 : X.size = 16) (h1 : X.all (·.oneCell') = true) (cs : List Frame) (hM : ∀ b, M b → b < w.heap.size) (hSw : ∀ b, Sh b → b < w.heap.size)
    (next : ∀ β w1, Keeps M w w1 → w.heap.size ≤ β → β < w1.heap.size → w1.heap[β]? = some (.cells X 131 (0, 0)) → Co Tryz.prog true Sh Stop (fun b => M b ∨ b = β) (G (made1R kv nv ct bp bn bc a1 a2 a3 X ok β) cs) w1) :
    Co Tryz.prog true Sh Stop M (G (call1R kv nv ct bp bn bc a1 a2 a3 (.tuple #[.agg X, .bool ok]) [3, 4, 5, 6, 7, 8]) cs) w := by
  obtain ⟨ti, hti, hzs⟩ := Option.map_eq_some_iff.1 infoS
  simp only [Prod.mk.injEq] at hzs
  simp only [call1R, made1R, ops2R, rest2R, bodyR, Tryz.f72, Option.getD_some] at next ⊢
  (refine Co.value rfl rfl (by decide) (fun _ => by simp [execOp, Act.eval]; rfl) (fun _ => by simp [execOp, Act.eval]) ?_; walk_nrm)
  refine Co.value (v := .agg X) rfl rfl (by decide) (fun _ => by simp [go_sem, execOp, Act.eval]) (fun _ => by simp [go_sem, execOp, Act.eval]) ?_
  walk_nrm
  refine Co.value (v := .bool ok) rfl rfl (by decide) (fun _ => by simp [go_sem, execOp, Act.eval]) (fun _ => by simp [go_sem, execOp, Act.eval]) ?_
  walk_nrm
  refine Co.allocV rfl rfl (by decide) rfl hti hzs.1 hM fun w1 hk1 => ?_
  walk_nrm
  have hn1 : (w1.heap.push (.cells (Array.replicate 16 (.int .u32 0)) 131))[w1.heap.size]? = some (.cells (Array.replicate 16 (.int .u32 0)) 131 (0, 0)) := by simp
  have hlow1 : ∀ b, (M b ∨ b = w1.heap.size) → b < (w1.heap.push (.cells (Array.replicate 16 (.int .u32 0)) 131)).size := fun b hb => by
    have h1 := hk1.size
    simp only [Array.size_push]
    rcases hb with hb | hb
    · have := hM b hb; omega
    · omega
  refine Co.storeRow (Z := Array.replicate 16 (.int .u32 0)) (X := X) (e := 131) (β := w1.heap.size) rfl rfl (by decide) rfl rfl rfl hn1 (.inr rfl) (fun hs => absurd (hSw _ hs) (by have := hk1.size; omega)) (fun b hb => by have := hSw b hb; have := hk1.size; show b < (w1.heap.push _).size; simp only [Array.size_push]; omega) hlow1 (fun v hv => by rw [Array.eq_of_mem_replicate hv]; rfl) hX h1 (by simp [h16]) (by rw [hti, h16]; exact congrArg some hzs.2) fun w2 hk2 => ?_
  walk_nrm
  (refine Co.value rfl rfl (by decide) (fun _ => by simp [execOp, Act.eval]; rfl) (fun _ => by simp [execOp, Act.eval]) ?_; walk_nrm)
  (with_reducible refine Co.ctlG (fun _ => by first | exact stepG_seq | exact stepG_skip | exact stepG_block | exact stepG_loop | exact stepG_inLoop | exact stepG_inBlock | exact stepG_region_end | exact stepG_region) ?_)
  have hne : ∀ b, M b → b ≠ w1.heap.size := fun b hb => by have := hM b hb; have := hk1.size; omega
  have hrow : ∀ b, (w2.setRow w1.heap.size X).heap[b]? = if w1.heap.size = b then (w2.heap[b]?).map (fun o => match o with | .cells _ elem frozen => .cells X elem frozen | o => o) else w2.heap[b]? := fun b => by
    simp only [World.setRow, Array.getElem?_modify]
    split
    · cases w2.heap[b]? with
      | none => rfl
      | some o => cases o <;> rfl
    · rfl
  have hkA : Keeps M w1 { w1 with heap := w1.heap.push (.cells (Array.replicate 16 (.int .u32 0)) 131) } := ⟨fun b hb => by
    have hlt : b < w1.heap.size := by have := hM b hb; have := hk1.size; omega
    show (w1.heap.push _)[b]? = _
    rw [Array.getElem?_push_lt hlt, Array.getElem?_eq_getElem hlt], by simp, rfl, rfl, rfl⟩
  have hkB : Keeps M w2 (w2.setRow w1.heap.size X) := ⟨fun b hb => by rw [hrow, if_neg (fun e => hne b hb e.symm)], by simp [World.setRow], rfl, rfl, rfl⟩
  have hsz2 := hk2.size
  simp only [Array.size_push] at hsz2
  refine next w1.heap.size (w2.setRow w1.heap.size X) (((hk1.trans hkA).trans (hk2.less fun b hb => .inl hb)).trans hkB) hk1.size (by simp [World.setRow]; omega) ?_
  rw [hrow, if_pos rfl, (hk2.heap _ (.inr rfl)).trans hn1]
  rfl
theorem no1_R (kv nv : Value) (ct : Int) (bp : Option Addr) (bn bc : Nat) (a1 a2 a3 : Int) (X : Array Value) (β : Nat)  (cs : List Frame)
    (next : ∀ tmps todo, tmps.getD 8 undef = .slice none 0 0 → Co Tryz.prog true Sh Stop M (G { bR.at ⟨tmps, []⟩ todo with mode := .returning } cs) w) :
    Co Tryz.prog true Sh Stop M (G (made1R kv nv ct bp bn bc a1 a2 a3 X false β) cs) w := by
  simp only [made1R, rest2R, bodyR, Tryz.f72, Option.getD_some]
  iterate 3 (with_reducible refine Co.ctlG (fun _ => by first | exact stepG_seq | exact stepG_skip | exact stepG_block | exact stepG_loop | exact stepG_inLoop | exact stepG_inBlock | exact stepG_region_end | exact stepG_region) ?_)
  refine Co.value (v := .bool false) rfl rfl (by decide) (fun _ => by simp [go_sem, execOp, Act.eval]) (fun _ => by simp [go_sem, execOp, Act.eval]) ?_
  walk_nrm
  refine Co.value (v := .bool true) rfl rfl (by decide) (fun _ => by simp [go_sem, execOp, Act.eval]) (fun _ => by simp [go_sem, execOp, Act.eval]) ?_
  walk_nrm
  refine Co.value (v := .bool true) rfl rfl (by decide) (fun _ => by simp [go_sem, execOp, Act.eval]) (fun _ => by simp [go_sem, execOp, Act.eval]) ?_
  walk_nrm
  refine Co.unwanted rfl rfl ?_
  walk_nrm
  refine Co.unwanted rfl rfl ?_
  walk_nrm
  refine Co.unwanted rfl rfl ?_
  walk_nrm
  refine Co.value (v := .bool true) rfl rfl (by decide) (fun _ => by simp [go_sem, execOp, Act.eval]) (fun _ => by simp [go_sem, execOp, Act.eval]) ?_
  walk_nrm
  refine Co.value (v := .bool true) rfl rfl (by decide) (fun _ => by simp [go_sem, execOp, Act.eval]) (fun _ => by simp [go_sem, execOp, Act.eval]) ?_
  walk_nrm
  refine Co.unwanted rfl rfl ?_
  walk_nrm
  refine Co.unwanted rfl rfl ?_
  walk_nrm
  refine Co.value (v := .bool true) rfl rfl (by decide) (fun _ => by simp [go_sem, execOp, Act.eval]) (fun _ => by simp [go_sem, execOp, Act.eval]) ?_
  walk_nrm
  refine Co.value (v := .bool true) rfl rfl (by decide) (fun _ => by simp [go_sem, execOp, Act.eval]) (fun _ => by simp [go_sem, execOp, Act.eval]) ?_
  walk_nrm
  refine Co.unwanted rfl rfl ?_
  walk_nrm
  refine Co.unwanted rfl rfl ?_
  walk_nrm
  refine Co.unwanted rfl rfl ?_
  walk_nrm
  refine Co.unwanted rfl rfl ?_
  walk_nrm
  refine Co.value (v := .bool true) rfl rfl (by decide) (fun _ => by simp [go_sem, execOp, Act.eval]) (fun _ => by simp [go_sem, execOp, Act.eval]) ?_
  walk_nrm
  (with_reducible refine Co.ctlG (fun _ => by first | exact stepG_seq | exact stepG_skip | exact stepG_block | exact stepG_loop | exact stepG_inLoop | exact stepG_inBlock | exact stepG_region_end | exact stepG_region) ?_)
  refine Co.ctlG (fun _ => stepG_cond (t := true) rfl) ?_
  simp only [if_true]
  iterate 2 (with_reducible refine Co.ctlG (fun _ => by first | exact stepG_seq | exact stepG_skip | exact stepG_block | exact stepG_loop | exact stepG_inLoop | exact stepG_inBlock | exact stepG_region_end | exact stepG_region) ?_)
  (refine Co.value rfl rfl (by decide) (fun _ => by simp [execOp, Act.eval]; rfl) (fun _ => by simp [execOp, Act.eval]) ?_; walk_nrm)
  (with_reducible refine Co.ctlG (fun _ => by first | exact stepG_seq | exact stepG_skip | exact stepG_block | exact stepG_loop | exact stepG_inLoop | exact stepG_inBlock | exact stepG_region_end | exact stepG_region) ?_)
  refine Co.ctlG (fun _ => stepG_ret') ?_
  exact next _ _ rfl
theorem no2_R (kv nv : Value) (ct : Int) (bp : Option Addr) (bn bc : Nat) (a1 a2 a3 : Int) (X : Array Value) (β : Nat) (h1 : (4000 : Int) < bn) (cs : List Frame)
    (next : ∀ tmps todo, tmps.getD 8 undef = .slice none 0 0 → Co Tryz.prog true Sh Stop M (G { bR.at ⟨tmps, []⟩ todo with mode := .returning } cs) w) :
    Co Tryz.prog true Sh Stop M (G (made1R kv nv ct bp bn bc a1 a2 a3 X true β) cs) w := by
  simp only [made1R, rest2R, bodyR, Tryz.f72, Option.getD_some]
  iterate 3 (with_reducible refine Co.ctlG (fun _ => by first | exact stepG_seq | exact stepG_skip | exact stepG_block | exact stepG_loop | exact stepG_inLoop | exact stepG_inBlock | exact stepG_region_end | exact stepG_region) ?_)
  refine Co.value (v := .bool true) rfl rfl (by decide) (fun _ => by simp [go_sem, execOp, Act.eval]) (fun _ => by simp [go_sem, execOp, Act.eval]) ?_
  walk_nrm
  refine Co.value (v := .bool false) rfl rfl (by decide) (fun _ => by simp [go_sem, execOp, Act.eval]) (fun _ => by simp [go_sem, execOp, Act.eval]) ?_
  walk_nrm
  refine Co.value (v := .bool false) rfl rfl (by decide) (fun _ => by simp [go_sem, execOp, Act.eval]) (fun _ => by simp [go_sem, execOp, Act.eval]) ?_
  walk_nrm
  refine Co.value (v := .slice bp bn bc) rfl rfl (by decide) (fun _ => by simp [go_sem, execOp, Act.eval]) (fun _ => by simp [go_sem, execOp, Act.eval]) ?_
  walk_nrm
  refine Co.value (v := .int .i64 bn) rfl rfl (by decide) (fun _ => by simp [go_sem, execOp, Act.eval]) (fun _ => by simp [go_sem, execOp, Act.eval]) ?_
  walk_nrm
  refine Co.value (v := .bool true) rfl rfl (by decide) (fun _ => by simp [go_sem, execOp, Act.eval, h1]) (fun _ => by simp [go_sem, execOp, Act.eval]) ?_
  walk_nrm
  refine Co.value (v := .bool true) rfl rfl (by decide) (fun _ => by simp [go_sem, execOp, Act.eval]) (fun _ => by simp [go_sem, execOp, Act.eval]) ?_
  walk_nrm
  refine Co.value (v := .bool true) rfl rfl (by decide) (fun _ => by simp [go_sem, execOp, Act.eval]) (fun _ => by simp [go_sem, execOp, Act.eval]) ?_
  walk_nrm
  refine Co.unwanted rfl rfl ?_
  walk_nrm
  refine Co.unwanted rfl rfl ?_
  walk_nrm
  refine Co.value (v := .bool true) rfl rfl (by decide) (fun _ => by simp [go_sem, execOp, Act.eval]) (fun _ => by simp [go_sem, execOp, Act.eval]) ?_
  walk_nrm
  refine Co.value (v := .bool true) rfl rfl (by decide) (fun _ => by simp [go_sem, execOp, Act.eval]) (fun _ => by simp [go_sem, execOp, Act.eval]) ?_
  walk_nrm
  refine Co.unwanted rfl rfl ?_
  walk_nrm
  refine Co.unwanted rfl rfl ?_
  walk_nrm
  refine Co.unwanted rfl rfl ?_
  walk_nrm
  refine Co.unwanted rfl rfl ?_
  walk_nrm
  refine Co.value (v := .bool true) rfl rfl (by decide) (fun _ => by simp [go_sem, execOp, Act.eval]) (fun _ => by simp [go_sem, execOp, Act.eval]) ?_
  walk_nrm
  (with_reducible refine Co.ctlG (fun _ => by first | exact stepG_seq | exact stepG_skip | exact stepG_block | exact stepG_loop | exact stepG_inLoop | exact stepG_inBlock | exact stepG_region_end | exact stepG_region) ?_)
  refine Co.ctlG (fun _ => stepG_cond (t := true) rfl) ?_
  simp only [if_true]
  iterate 2 (with_reducible refine Co.ctlG (fun _ => by first | exact stepG_seq | exact stepG_skip | exact stepG_block | exact stepG_loop | exact stepG_inLoop | exact stepG_inBlock | exact stepG_region_end | exact stepG_region) ?_)
  (refine Co.value rfl rfl (by decide) (fun _ => by simp [execOp, Act.eval]; rfl) (fun _ => by simp [execOp, Act.eval]) ?_; walk_nrm)
  (with_reducible refine Co.ctlG (fun _ => by first | exact stepG_seq | exact stepG_skip | exact stepG_block | exact stepG_loop | exact stepG_inLoop | exact stepG_inBlock | exact stepG_region_end | exact stepG_region) ?_)
  refine Co.ctlG (fun _ => stepG_ret') ?_
  exact next _ _ rfl
theorem no3_R (kv nv : Value) (ct : Int) (bp : Option Addr) (bn bc : Nat) (a1 a2 a3 : Int) (X : Array Value) (β : Nat) (h1 : ¬ (4000 : Int) < bn) (h2 : ct < 0) (cs : List Frame)
    (next : ∀ tmps todo, tmps.getD 8 undef = .slice none 0 0 → Co Tryz.prog true Sh Stop M (G { bR.at ⟨tmps, []⟩ todo with mode := .returning } cs) w) :
    Co Tryz.prog true Sh Stop M (G (made1R kv nv ct bp bn bc a1 a2 a3 X true β) cs) w := by
  simp only [made1R, rest2R, bodyR, Tryz.f72, Option.getD_some]
  iterate 3 (with_reducible refine Co.ctlG (fun _ => by first | exact stepG_seq | exact stepG_skip | exact stepG_block | exact stepG_loop | exact stepG_inLoop | exact stepG_inBlock | exact stepG_region_end | exact stepG_region) ?_)
  refine Co.value (v := .bool true) rfl rfl (by decide) (fun _ => by simp [go_sem, execOp, Act.eval]) (fun _ => by simp [go_sem, execOp, Act.eval]) ?_
  walk_nrm
  refine Co.value (v := .bool false) rfl rfl (by decide) (fun _ => by simp [go_sem, execOp, Act.eval]) (fun _ => by simp [go_sem, execOp, Act.eval]) ?_
  walk_nrm
  refine Co.value (v := .bool false) rfl rfl (by decide) (fun _ => by simp [go_sem, execOp, Act.eval]) (fun _ => by simp [go_sem, execOp, Act.eval]) ?_
  walk_nrm
  refine Co.value (v := .slice bp bn bc) rfl rfl (by decide) (fun _ => by simp [go_sem, execOp, Act.eval]) (fun _ => by simp [go_sem, execOp, Act.eval]) ?_
  walk_nrm
  refine Co.value (v := .int .i64 bn) rfl rfl (by decide) (fun _ => by simp [go_sem, execOp, Act.eval]) (fun _ => by simp [go_sem, execOp, Act.eval]) ?_
  walk_nrm
  refine Co.value (v := .bool false) rfl rfl (by decide) (fun _ => by simp [go_sem, execOp, Act.eval, h1]) (fun _ => by simp [go_sem, execOp, Act.eval]) ?_
  walk_nrm
  refine Co.value (v := .bool false) rfl rfl (by decide) (fun _ => by simp [go_sem, execOp, Act.eval]) (fun _ => by simp [go_sem, execOp, Act.eval]) ?_
  walk_nrm
  refine Co.value (v := .bool false) rfl rfl (by decide) (fun _ => by simp [go_sem, execOp, Act.eval]) (fun _ => by simp [go_sem, execOp, Act.eval]) ?_
  walk_nrm
  refine Co.value (v := .int .i64 ct) rfl rfl (by decide) (fun _ => by simp [go_sem, execOp, Act.eval]) (fun _ => by simp [go_sem, execOp, Act.eval]) ?_
  walk_nrm
  refine Co.value (v := .bool true) rfl rfl (by decide) (fun _ => by simp [go_sem, execOp, Act.eval, h2]) (fun _ => by simp [go_sem, execOp, Act.eval]) ?_
  walk_nrm
  refine Co.value (v := .bool true) rfl rfl (by decide) (fun _ => by simp [go_sem, execOp, Act.eval]) (fun _ => by simp [go_sem, execOp, Act.eval]) ?_
  walk_nrm
  refine Co.value (v := .bool true) rfl rfl (by decide) (fun _ => by simp [go_sem, execOp, Act.eval]) (fun _ => by simp [go_sem, execOp, Act.eval]) ?_
  walk_nrm
  refine Co.unwanted rfl rfl ?_
  walk_nrm
  refine Co.unwanted rfl rfl ?_
  walk_nrm
  refine Co.unwanted rfl rfl ?_
  walk_nrm
  refine Co.unwanted rfl rfl ?_
  walk_nrm
  refine Co.value (v := .bool true) rfl rfl (by decide) (fun _ => by simp [go_sem, execOp, Act.eval]) (fun _ => by simp [go_sem, execOp, Act.eval]) ?_
  walk_nrm
  (with_reducible refine Co.ctlG (fun _ => by first | exact stepG_seq | exact stepG_skip | exact stepG_block | exact stepG_loop | exact stepG_inLoop | exact stepG_inBlock | exact stepG_region_end | exact stepG_region) ?_)
  refine Co.ctlG (fun _ => stepG_cond (t := true) rfl) ?_
  simp only [if_true]
  iterate 2 (with_reducible refine Co.ctlG (fun _ => by first | exact stepG_seq | exact stepG_skip | exact stepG_block | exact stepG_loop | exact stepG_inLoop | exact stepG_inBlock | exact stepG_region_end | exact stepG_region) ?_)
  (refine Co.value rfl rfl (by decide) (fun _ => by simp [execOp, Act.eval]; rfl) (fun _ => by simp [execOp, Act.eval]) ?_; walk_nrm)
  (with_reducible refine Co.ctlG (fun _ => by first | exact stepG_seq | exact stepG_skip | exact stepG_block | exact stepG_loop | exact stepG_inLoop | exact stepG_inBlock | exact stepG_region_end | exact stepG_region) ?_)
  refine Co.ctlG (fun _ => stepG_ret') ?_
  exact next _ _ rfl
theorem no4_R (kv nv : Value) (ct : Int) (bp : Option Addr) (bn bc : Nat) (a1 a2 a3 : Int) (a4 : Int) (X : Array Value) (β : Nat) (h1 : ¬ (4000 : Int) < bn) (h2 : ¬ ct < 0) (e4 : IntKind.i64.wrap (4294967296 - ct) = a4) (h3 : a4 < a3) (cs : List Frame)
    (next : ∀ tmps todo, tmps.getD 8 undef = .slice none 0 0 → Co Tryz.prog true Sh Stop M (G { bR.at ⟨tmps, []⟩ todo with mode := .returning } cs) w) :
    Co Tryz.prog true Sh Stop M (G (made1R kv nv ct bp bn bc a1 a2 a3 X true β) cs) w := by
  simp only [made1R, rest2R, bodyR, Tryz.f72, Option.getD_some]
  iterate 3 (with_reducible refine Co.ctlG (fun _ => by first | exact stepG_seq | exact stepG_skip | exact stepG_block | exact stepG_loop | exact stepG_inLoop | exact stepG_inBlock | exact stepG_region_end | exact stepG_region) ?_)
  refine Co.value (v := .bool true) rfl rfl (by decide) (fun _ => by simp [go_sem, execOp, Act.eval]) (fun _ => by simp [go_sem, execOp, Act.eval]) ?_
  walk_nrm
  refine Co.value (v := .bool false) rfl rfl (by decide) (fun _ => by simp [go_sem, execOp, Act.eval]) (fun _ => by simp [go_sem, execOp, Act.eval]) ?_
  walk_nrm
  refine Co.value (v := .bool false) rfl rfl (by decide) (fun _ => by simp [go_sem, execOp, Act.eval]) (fun _ => by simp [go_sem, execOp, Act.eval]) ?_
  walk_nrm
  refine Co.value (v := .slice bp bn bc) rfl rfl (by decide) (fun _ => by simp [go_sem, execOp, Act.eval]) (fun _ => by simp [go_sem, execOp, Act.eval]) ?_
  walk_nrm
  refine Co.value (v := .int .i64 bn) rfl rfl (by decide) (fun _ => by simp [go_sem, execOp, Act.eval]) (fun _ => by simp [go_sem, execOp, Act.eval]) ?_
  walk_nrm
  refine Co.value (v := .bool false) rfl rfl (by decide) (fun _ => by simp [go_sem, execOp, Act.eval, h1]) (fun _ => by simp [go_sem, execOp, Act.eval]) ?_
  walk_nrm
  refine Co.value (v := .bool false) rfl rfl (by decide) (fun _ => by simp [go_sem, execOp, Act.eval]) (fun _ => by simp [go_sem, execOp, Act.eval]) ?_
  walk_nrm
  refine Co.value (v := .bool false) rfl rfl (by decide) (fun _ => by simp [go_sem, execOp, Act.eval]) (fun _ => by simp [go_sem, execOp, Act.eval]) ?_
  walk_nrm
  refine Co.value (v := .int .i64 ct) rfl rfl (by decide) (fun _ => by simp [go_sem, execOp, Act.eval]) (fun _ => by simp [go_sem, execOp, Act.eval]) ?_
  walk_nrm
  refine Co.value (v := .bool false) rfl rfl (by decide) (fun _ => by simp [go_sem, execOp, Act.eval, h2]) (fun _ => by simp [go_sem, execOp, Act.eval]) ?_
  walk_nrm
  refine Co.value (v := .bool false) rfl rfl (by decide) (fun _ => by simp [go_sem, execOp, Act.eval]) (fun _ => by simp [go_sem, execOp, Act.eval]) ?_
  walk_nrm
  refine Co.value (v := .bool false) rfl rfl (by decide) (fun _ => by simp [go_sem, execOp, Act.eval]) (fun _ => by simp [go_sem, execOp, Act.eval]) ?_
  walk_nrm
  refine Co.value (v := .int .i64 a3) rfl rfl (by decide) (fun _ => by simp [go_sem, execOp, Act.eval]) (fun _ => by simp [go_sem, execOp, Act.eval]) ?_
  walk_nrm
  refine Co.value (v := .int .i64 ct) rfl rfl (by decide) (fun _ => by simp [go_sem, execOp, Act.eval]) (fun _ => by simp [go_sem, execOp, Act.eval]) ?_
  walk_nrm
  refine Co.value (v := .int .i64 a4) rfl rfl (by decide) (fun _ => by simp [go_sem, execOp, Act.eval, e4]) (fun _ => by simp [go_sem, execOp, Act.eval]) ?_
  walk_nrm
  refine Co.value (v := .bool true) rfl rfl (by decide) (fun _ => by simp [go_sem, execOp, Act.eval, h3]) (fun _ => by simp [go_sem, execOp, Act.eval]) ?_
  walk_nrm
  refine Co.value (v := .bool true) rfl rfl (by decide) (fun _ => by simp [go_sem, execOp, Act.eval]) (fun _ => by simp [go_sem, execOp, Act.eval]) ?_
  walk_nrm
  (with_reducible refine Co.ctlG (fun _ => by first | exact stepG_seq | exact stepG_skip | exact stepG_block | exact stepG_loop | exact stepG_inLoop | exact stepG_inBlock | exact stepG_region_end | exact stepG_region) ?_)
  refine Co.ctlG (fun _ => stepG_cond (t := true) rfl) ?_
  simp only [if_true]
  iterate 2 (with_reducible refine Co.ctlG (fun _ => by first | exact stepG_seq | exact stepG_skip | exact stepG_block | exact stepG_loop | exact stepG_inLoop | exact stepG_inBlock | exact stepG_region_end | exact stepG_region) ?_)
  (refine Co.value rfl rfl (by decide) (fun _ => by simp [execOp, Act.eval]; rfl) (fun _ => by simp [execOp, Act.eval]) ?_; walk_nrm)
  (with_reducible refine Co.ctlG (fun _ => by first | exact stepG_seq | exact stepG_skip | exact stepG_block | exact stepG_loop | exact stepG_inLoop | exact stepG_inBlock | exact stepG_region_end | exact stepG_region) ?_)
  refine Co.ctlG (fun _ => stepG_ret') ?_
  exact next _ _ rfl
noncomputable def goodR (kv nv : Value) (ct : Int) (bp : Option Addr) (bn bc : Nat) (a1 a2 a3 : Int) (a4 : Int) (X : Array Value) (β : Nat) : Frame := bR.at ⟨#[kv, .int .i64 ct, nv, .slice bp bn bc, undef, undef, undef, undef, .slice none 0 0, .int .i64 a3, .pointer (some ⟨β, 0, none⟩), .bool true, undef, undef, undef, .slice bp bn bc, .int .i64 bn, .int .i64 a1, .int .i64 a2, .int .i64 a3, .tuple #[.agg X, .bool true], kv, nv, .tuple #[.agg X, .bool true], .agg X, .bool true, .bool true, .bool false, .bool false, .slice bp bn bc, .int .i64 bn, .bool false, .bool false, .bool false, .int .i64 ct, .bool false, .bool false, .bool false, .int .i64 a3, .int .i64 ct, .int .i64 a4, .bool false, .bool false, undef, undef, undef, undef, undef, undef, undef, undef, undef, undef, undef, undef, undef, undef, undef, undef, undef, undef, undef, undef, undef, undef], []⟩ [.code tailR]
theorem yes_R (kv nv : Value) (ct : Int) (bp : Option Addr) (bn bc : Nat) (a1 a2 a3 : Int) (a4 : Int) (X : Array Value) (β : Nat) (h1 : ¬ (4000 : Int) < bn) (h2 : ¬ ct < 0) (e4 : IntKind.i64.wrap (4294967296 - ct) = a4) (h3 : ¬ a4 < a3) (cs : List Frame)
    (next : Co Tryz.prog true Sh Stop M (G (goodR kv nv ct bp bn bc a1 a2 a3 a4 X β) cs) w) :
    Co Tryz.prog true Sh Stop M (G (made1R kv nv ct bp bn bc a1 a2 a3 X true β) cs) w := by
  simp only [made1R, goodR, rest2R, tailR, bodyR, Tryz.f72, Option.getD_some] at next ⊢
  iterate 3 (with_reducible refine Co.ctlG (fun _ => by first | exact stepG_seq | exact stepG_skip | exact stepG_block | exact stepG_loop | exact stepG_inLoop | exact stepG_inBlock | exact stepG_region_end | exact stepG_region) ?_)
  refine Co.value (v := .bool true) rfl rfl (by decide) (fun _ => by simp [go_sem, execOp, Act.eval]) (fun _ => by simp [go_sem, execOp, Act.eval]) ?_
  walk_nrm
  refine Co.value (v := .bool false) rfl rfl (by decide) (fun _ => by simp [go_sem, execOp, Act.eval]) (fun _ => by simp [go_sem, execOp, Act.eval]) ?_
  walk_nrm
  refine Co.value (v := .bool false) rfl rfl (by decide) (fun _ => by simp [go_sem, execOp, Act.eval]) (fun _ => by simp [go_sem, execOp, Act.eval]) ?_
  walk_nrm
  refine Co.value (v := .slice bp bn bc) rfl rfl (by decide) (fun _ => by simp [go_sem, execOp, Act.eval]) (fun _ => by simp [go_sem, execOp, Act.eval]) ?_
  walk_nrm
  refine Co.value (v := .int .i64 bn) rfl rfl (by decide) (fun _ => by simp [go_sem, execOp, Act.eval]) (fun _ => by simp [go_sem, execOp, Act.eval]) ?_
  walk_nrm
  refine Co.value (v := .bool false) rfl rfl (by decide) (fun _ => by simp [go_sem, execOp, Act.eval, h1]) (fun _ => by simp [go_sem, execOp, Act.eval]) ?_
  walk_nrm
  refine Co.value (v := .bool false) rfl rfl (by decide) (fun _ => by simp [go_sem, execOp, Act.eval]) (fun _ => by simp [go_sem, execOp, Act.eval]) ?_
  walk_nrm
  refine Co.value (v := .bool false) rfl rfl (by decide) (fun _ => by simp [go_sem, execOp, Act.eval]) (fun _ => by simp [go_sem, execOp, Act.eval]) ?_
  walk_nrm
  refine Co.value (v := .int .i64 ct) rfl rfl (by decide) (fun _ => by simp [go_sem, execOp, Act.eval]) (fun _ => by simp [go_sem, execOp, Act.eval]) ?_
  walk_nrm
  refine Co.value (v := .bool false) rfl rfl (by decide) (fun _ => by simp [go_sem, execOp, Act.eval, h2]) (fun _ => by simp [go_sem, execOp, Act.eval]) ?_
  walk_nrm
  refine Co.value (v := .bool false) rfl rfl (by decide) (fun _ => by simp [go_sem, execOp, Act.eval]) (fun _ => by simp [go_sem, execOp, Act.eval]) ?_
  walk_nrm
  refine Co.value (v := .bool false) rfl rfl (by decide) (fun _ => by simp [go_sem, execOp, Act.eval]) (fun _ => by simp [go_sem, execOp, Act.eval]) ?_
  walk_nrm
  refine Co.value (v := .int .i64 a3) rfl rfl (by decide) (fun _ => by simp [go_sem, execOp, Act.eval]) (fun _ => by simp [go_sem, execOp, Act.eval]) ?_
  walk_nrm
  refine Co.value (v := .int .i64 ct) rfl rfl (by decide) (fun _ => by simp [go_sem, execOp, Act.eval]) (fun _ => by simp [go_sem, execOp, Act.eval]) ?_
  walk_nrm
  refine Co.value (v := .int .i64 a4) rfl rfl (by decide) (fun _ => by simp [go_sem, execOp, Act.eval, e4]) (fun _ => by simp [go_sem, execOp, Act.eval]) ?_
  walk_nrm
  refine Co.value (v := .bool false) rfl rfl (by decide) (fun _ => by simp [go_sem, execOp, Act.eval, h3]) (fun _ => by simp [go_sem, execOp, Act.eval]) ?_
  walk_nrm
  refine Co.value (v := .bool false) rfl rfl (by decide) (fun _ => by simp [go_sem, execOp, Act.eval]) (fun _ => by simp [go_sem, execOp, Act.eval]) ?_
  walk_nrm
  (with_reducible refine Co.ctlG (fun _ => by first | exact stepG_seq | exact stepG_skip | exact stepG_block | exact stepG_loop | exact stepG_inLoop | exact stepG_inBlock | exact stepG_region_end | exact stepG_region) ?_)
  refine Co.ctlG (fun _ => stepG_cond (t := false) rfl) ?_
  simp only [Bool.false_eq_true, if_false]
  (with_reducible refine Co.ctlG (fun _ => by first | exact stepG_seq | exact stepG_skip | exact stepG_block | exact stepG_loop | exact stepG_inLoop | exact stepG_inBlock | exact stepG_region_end | exact stepG_region) ?_)
  exact next
end
noncomputable def ops6R : Array Oper := match tailR with | .seq _ (.seq (.region _ o _) _) => o | _ => #[]
noncomputable def rest6R : Code := match tailR with | .seq _ (.seq _ t) => t | _ => .skip
noncomputable def LR : Code := match rest6R with | .seq _ (.seq (.seq _ (.block _ (.loop c))) _) => c | _ => .skip
noncomputable def endR : Code := match rest6R with | .seq _ (.seq _ t) => t | _ => .skip
noncomputable def ops9R : Array Oper := match LR with | .seq (.region _ o _) _ => o | _ => #[]
noncomputable def rest9R : Code := match LR with | .seq _ t => t | _ => .skip
noncomputable def ops11R : Array Oper := match rest9R with | .seq _ (.block _ (.seq _ (.region _ o _))) => o | _ => #[]
section
variable {Sh : Nat → Prop} {Stop : (Nat → Prop) → Goroutine → World → Prop} {M : Nat → Prop} {w : World}
noncomputable def goR (kv nv : Value) (ct : Int) (bp : Option Addr) (bn bc : Nat) (a1 a2 : Int) (m : Nat) (a4 : Int) (X : Array Value) (β : Nat) (ch : Nat) (rest : List Nat) : Frame := bR.at ⟨#[kv, .int .i64 ct, nv, .slice bp bn bc, undef, undef, undef, undef, .slice none 0 0, .int .i64 m, .pointer (some ⟨β, 0, none⟩), .bool true, .chan (some ch), undef, undef, .slice bp bn bc, .int .i64 bn, .int .i64 a1, .int .i64 a2, .int .i64 m, .tuple #[.agg X, .bool true], kv, nv, .tuple #[.agg X, .bool true], .agg X, .bool true, .bool true, .bool false, .bool false, .slice bp bn bc, .int .i64 bn, .bool false, .bool false, .bool false, .int .i64 ct, .bool false, .bool false, .bool false, .int .i64 m, .int .i64 ct, .int .i64 a4, .bool false, .bool false, .int .i64 m, .chan (some ch), .agg X, .chan (some ch), .int .i64 ct, .int .i64 m, undef, undef, undef, undef, undef, undef, undef, undef, undef, undef, undef, undef, undef, undef, undef, undef], []⟩ [.inRegion ops6R rest, .code rest6R]
theorem infoCh : (Tryz.prog.info? 22).map (fun i => i.bytes) = some 24 := by kernel_rfl
theorem chan_R (kv nv : Value) (ct : Int) (bp : Option Addr) (bn bc : Nat) (a1 a2 : Int) (m : Nat) (a4 : Int) (X : Array Value) (β : Nat) (cs : List Frame) (hm : (m : Int) ≤ 1000000) (hX : ∀ v ∈ X, flatC v = true) (h16 : X.size = 16) (hβ : w.heap[β]? = some (.cells X 131 (0, 0))) (hMβ : M β) (hS : ¬ Sh β) (hM : ∀ b, M b → b < w.heap.size) (hSw : ∀ b, Sh b → b < w.heap.size)
    (next : ∀ ch w1, Keeps M w w1 → w.heap.size ≤ ch → ch < w1.heap.size → w1.heap[ch]? = some (.chan m #[] false 0 0 false) → Co Tryz.prog true Sh Stop (fun b => M b ∨ b = ch) (G (goR kv nv ct bp bn bc a1 a2 m a4 X β ch [4]) cs) w1) :
    Co Tryz.prog true Sh Stop M (G (goodR kv nv ct bp bn bc a1 a2 (m : Int) a4 X β) cs) w := by
  obtain ⟨ti, hti, hb24⟩ := Option.map_eq_some_iff.1 infoCh
  simp only [goR, goodR, tailR, rest6R, ops6R, bodyR, Tryz.f72, Option.getD_some] at next ⊢
  iterate 2 (with_reducible refine Co.ctlG (fun _ => by first | exact stepG_seq | exact stepG_skip | exact stepG_block | exact stepG_loop | exact stepG_inLoop | exact stepG_inBlock | exact stepG_region_end | exact stepG_region) ?_)
  (refine Co.value rfl rfl (by decide) (fun _ => by simp [execOp, Act.eval]; rfl) (fun _ => by simp [execOp, Act.eval]) ?_; walk_nrm)
  refine Co.makeChan (n := m) (kd := .i64) rfl rfl (by decide) rfl rfl Tryz.underlying134 hti (by omega) (by rw [hb24]; omega) hM fun w1 hk1 => ?_
  walk_nrm
  have hβ1 : (w1.heap.push (.chan m #[] false 0 0 false))[β]? = some (.cells X 131 (0, 0)) := by
    have hlt : β < w1.heap.size := by have := hM β hMβ; have := hk1.size; omega
    rw [Array.getElem?_push_lt hlt, ← Array.getElem?_eq_getElem hlt, hk1.heap β hMβ]
    exact hβ
  (refine Co.value rfl rfl (by decide) (fun _ => by simp [execOp, Act.eval]; rfl) (fun _ => by simp [execOp, Act.eval]) ?_; walk_nrm)
  iterate 3 (with_reducible refine Co.ctlG (fun _ => by first | exact stepG_seq | exact stepG_skip | exact stepG_block | exact stepG_loop | exact stepG_inLoop | exact stepG_inBlock | exact stepG_region_end | exact stepG_region) ?_)
  refine Co.loadRow (d := .array 16 129) rfl rfl (by decide) rfl rfl hβ1 (.inl hMβ) hS (fun b hb => by have := hSw b hb; have := hk1.size; show b < (w1.heap.push _).size; simp only [Array.size_push]; omega) hX rfl rfl (by rw [h16]; rfl) ?_
  walk_nrm
  iterate 3 (refine Co.value rfl rfl (by decide) (fun _ => by simp [execOp, Act.eval]; rfl) (fun _ => by simp [execOp, Act.eval]) ?_; walk_nrm)
  refine next w1.heap.size _ (hk1.trans ⟨fun b hb => ?_, by simp, rfl, rfl, rfl⟩) hk1.size (by simp) (by simp)
  have hlt : b < w1.heap.size := by have := hM b hb; have := hk1.size; omega
  show (w1.heap.push _)[b]? = _
  rw [Array.getElem?_push_lt hlt, Array.getElem?_eq_getElem hlt]
theorem go_R (kv nv : Value) (ct : Int) (bp : Option Addr) (bn bc : Nat) (a1 a2 : Int) (m : Nat) (a4 : Int) (X : Array Value) (β : Nat) (ch : Nat) (cs : List Frame) (w : World) : stepG Tryz.prog true (G (goR kv nv ct bp bn bc a1 a2 m a4 X β ch [4]) cs) w = .spawn (G (goR kv nv ct bp bn bc a1 a2 m a4 X β ch []) cs) (born Tryz.prog (callK X ch ct m)) w #[] := by
  simp only [goR, ops6R, rest6R, tailR, bodyR, Tryz.f72, Option.getD_some]
  rw [stepG_spawn (d := callK X ch ct m) (w' := w) rfl rfl (by decide) (by simp [execOp, resolve, Act.eval, callK, Deferred.ofValue]) rfl, listed_none (by simp [execOp, resolve, Act.eval, Deferred.ofValue])]
  simp [Act.put]
end
end Go.Proofs.YtnpffnhiefgglaaGreatDoor
namespace Go.Proofs.YtnpffnhiefgglaaGreatDoor
open Go.RowKit
set_option maxRecDepth 100000
theorem infoByte : (Tryz.prog.info? 5).map (fun i => (i.zero, i.size, i.bytes)) = some (some (.int .u8 0), 1, 1) := by kernel_rfl
end Go.Proofs.YtnpffnhiefgglaaGreatDoor
namespace Go.Proofs.YtnpffnhiefgglaaGreatDoor
open Go Go.Conc
set_option maxRecDepth 100000
section
variable {P : Program} {main : Bool} {Sh : Nat → Prop} {Stop : (Nat → Prop) → Goroutine → World → Prop} {M : Nat → Prop} {w : World} {b : Frame} {a : Act} {k : List Item} {cs : List Frame} {ops : Array Oper} {i : Nat} {rest : List Nat} {o : Oper}
theorem Co.makeBytes {t e : TypeId} {ti : TypeInfo} {x y : Operand} {c : Nat} (ho : ops[i]? = some o) (hw : Region.wanted o (yielded ops a.tmps) = true) (hk : b.kind ≠ .early) (hop : o.op = .makeSlice t x y) (hx : a.eval x = .int .i64 0) (hy : a.eval y = .int .i64 c) (ht : P.underlying t = some (.slice e)) (hE : okElem P t = true) (hi : P.info? e = some ti) (hz : ti.zero = some (.int .u8 0)) (hs : ti.size = 1) (hb : ti.bytes = 1) (hc : c ≤ 16777216) (hSw : ∀ b, Sh b → b < w.heap.size) (hM : ∀ b, M b → b < w.heap.size)
    (next : ∀ w1 row, Keeps M w w1 → row.size = c → (∀ v ∈ row, flatC v = true) → Co P main Sh Stop (fun b => M b ∨ b = w1.heap.size) (G (b.at (a.put o.dst (.slice (some ⟨w1.heap.size, 0, none⟩) 0 c)) (.inRegion ops rest :: k)) cs) { w1 with heap := w1.heap.push (.cells row e) }) : Co P main Sh Stop M (G (b.at a (.inRegion ops (i :: rest) :: k)) cs) w := by
  have hr : ∀ w1 : World, (execOp a.eval o).run P w1 = .ok (.value (.slice (some ⟨w1.heap.size, 0, none⟩) 0 c)) { w1 with heap := w1.heap.push (.cells (madeCells (Value.int .u8 0).cells (c * ti.size)) e) } := fun w1 => by
    unfold execOp
    rw [hop]
    have := run_makeSlice (P := P) w1 t e ti (.int .u8 0) ht hi hz .i64 .i64 0 (c : Int) (by omega) (by omega) (by rw [hs]; simpa using hc) (by rw [hb]; omega) (by omega)
    simp only [hx, hy, Sem.run_bind, this, Int.toNat_zero, Int.toNat_natCast]
    rfl
  have hrow : (madeCells (Value.int .u8 0).cells (c * ti.size)).size = c ∧ ∀ v ∈ madeCells (Value.int .u8 0).cells (c * ti.size), flatC v = true := by
    rw [hs]
    constructor
    · simp [madeCells, Value.cells]
    · intro v hv
      simp [madeCells, Value.cells] at hv
      obtain ⟨j, _, rfl⟩ := hv
      rw [Nat.mod_one]
      rfl
  refine Co.does (N := fun _ => False) (n := 0) (A := fun _ => False) ho hw hk (fun _ h => h.elim) hM ?_ (fun w1 hk1 => ⟨fun b hb => hb.elim, fun b _ hb => hb.elim, fun b hb => Nat.lt_of_lt_of_le (hSw b hb) hk1.size, Nat.zero_le _⟩) (fun w1 _ => ⟨_, _, hr w1⟩) fun w1 hk1 v w2 h2 => ?_
  · unfold execOp
    rw [hop]
    simp only [hx, hy]
    exact (sim_makeSlice hE (.int _ _) (.int _ _)).bd fun ρ1 v v' _ hv => .pr (.value hv)
  · rw [hr w1] at h2
    cases h2
    have hg : grown M w1 { w1 with heap := w1.heap.push (.cells (madeCells (Value.int .u8 0).cells (c * ti.size)) e) } = fun b => M b ∨ b = w1.heap.size := funext fun b => propext ⟨fun x => x.imp id fun y => by have := y.1; have := y.2; simp only [Array.size_push] at *; omega, fun x => x.imp id fun y => by subst y; exact ⟨Nat.le_refl _, by simp⟩⟩
    rw [hg]
    exact next w1 _ hk1 hrow.1 hrow.2
theorem Co.sliceFrom {t e : TypeId} {ti : TypeInfo} {x y : Operand} {l n c : Nat} {ad : Addr} (ho : ops[i]? = some o) (hw : Region.wanted o (yielded ops a.tmps) = true) (hk : b.kind ≠ .early) (hop : o.op = .slice t x (some y) none none) (hx : a.eval x = .slice (some ad) n c) (hy : a.eval y = .int .i64 l) (ht : P.underlying t = some (.slice e)) (hi : P.info? e = some ti) (hs : ti.size = 1) (hl : l < n) (hn : n ≤ c)
    (h : Co P main Sh Stop M (G (b.at (a.put o.dst (.slice (some (ad.add l)) (n - l) (c - l))) (.inRegion ops rest :: k)) cs) w) : Co P main Sh Stop M (G (b.at a (.inRegion ops (i :: rest) :: k)) cs) w := by
  have he : P.elem t = e := by simp [Program.elem, ht]
  refine Co.value (v := .slice (some (ad.add l)) (n - l) (c - l)) ho hw hk (fun w1 => ?_) (fun w1 => ?_) h
  · unfold execOp
    rw [hop]
    simp [hx, hy, Instr.sliceAt, Instr.slice, Instr.sliceBounds, Instr.sliceBound, asIntOf, run_underlying ht, sizeOf, typeInfo, hi, hs, show c ≠ l by omega, Nat.le_of_lt hl]
  · unfold execOp
    rw [hop]
    simp [hx, hy, Instr.sliceAt, Instr.slice, Instr.sliceBounds, Instr.sliceBound, asIntOf, run_underlying ht, sizeOf, typeInfo, hi, show c ≠ l by omega, Nat.le_of_lt hl]
end
noncomputable def recvR (kv nv : Value) (ct : Int) (bp : Option Addr) (bn bc : Nat) (a1 a2 : Int) (m : Nat) (a4 : Int) (X : Array Value) (β : Nat) (ch τ tn : Nat) (u14 u53 u54 u55 u56 u57 u58 u59 u60 u61 u62 u63 : Value) (rest : List Nat) : Frame := bR.at ⟨#[kv, .int .i64 ct, nv, .slice bp bn bc, undef, undef, undef, undef, .slice none 0 0, .int .i64 m, .pointer (some ⟨β, 0, none⟩), .bool true, .chan (some ch), .slice (some ⟨τ, 0, none⟩) tn bn, u14, .slice bp bn bc, .int .i64 bn, .int .i64 a1, .int .i64 a2, .int .i64 m, .tuple #[.agg X, .bool true], kv, nv, .tuple #[.agg X, .bool true], .agg X, .bool true, .bool true, .bool false, .bool false, .slice bp bn bc, .int .i64 bn, .bool false, .bool false, .bool false, .int .i64 ct, .bool false, .bool false, .bool false, .int .i64 m, .int .i64 ct, .int .i64 a4, .bool false, .bool false, .int .i64 m, .chan (some ch), .agg X, .chan (some ch), .int .i64 ct, .int .i64 m, .slice bp bn bc, .int .i64 bn, .slice (some ⟨τ, 0, none⟩) 0 bn, .chan (some ch), u53, u54, u55, u56, u57, u58, u59, u60, u61, u62, u63, undef], []⟩ [.inRegion ops9R rest, .code rest9R, .inLoop LR, .inBlock 0, .code endR]
section
variable {Sh : Nat → Prop} {Stop : (Nat → Prop) → Goroutine → World → Prop} {M : Nat → Prop} {w : World}
theorem make_R (kv nv : Value) (ct : Int) (bp : Option Addr) (bn bc : Nat) (a1 a2 : Int) (m : Nat) (a4 : Int) (X : Array Value) (β : Nat) (ch : Nat) (cs : List Frame) (hbn : bn ≤ 16777216) (hM : ∀ b, M b → b < w.heap.size) (hSw : ∀ b, Sh b → b < w.heap.size)
    (next : ∀ w1 row, Keeps M w w1 → row.size = bn → (∀ v ∈ row, flatC v = true) → ∀ u14 u53 u54 u55 u56 u57 u58 u59 u60 u61 u62 u63, Co Tryz.prog true Sh Stop (fun b => M b ∨ b = w1.heap.size) (G (recvR kv nv ct bp bn bc a1 a2 m a4 X β ch w1.heap.size 0 u14 u53 u54 u55 u56 u57 u58 u59 u60 u61 u62 u63 [0, 1]) cs) { w1 with heap := w1.heap.push (.cells row 5) }) :
    Co Tryz.prog true Sh Stop M (G (goR kv nv ct bp bn bc a1 a2 m a4 X β ch []) cs) w := by
  obtain ⟨i0, hi, hz0, hz1, hz2⟩ := info_parts infoByte
  simp only [goR, recvR, ops6R, rest6R, ops9R, rest9R, LR, endR, tailR, bodyR, Tryz.f72, Option.getD_some] at next ⊢
  iterate 3 (with_reducible refine Co.ctlG (fun _ => by first | exact stepG_seq | exact stepG_skip | exact stepG_block | exact stepG_loop | exact stepG_inLoop | exact stepG_inBlock | exact stepG_region_end | exact stepG_region) ?_)
  (refine Co.value rfl rfl (by decide) (fun _ => by simp [execOp, Act.eval]; rfl) (fun _ => by simp [execOp, Act.eval]) ?_; walk_nrm)
  refine Co.value (v := .int .i64 bn) rfl rfl (by decide) (fun _ => by simp [go_sem, execOp, Act.eval, Tryz.underlying22]) (fun _ => by simp [go_sem, execOp, Act.eval]) ?_
  walk_nrm
  refine Co.makeBytes (c := bn) rfl rfl (by decide) rfl rfl rfl Tryz.underlying22 (by kernel_rfl) hi hz0 hz1 hz2 hbn hSw hM fun w1 row hk1 hrow hflat => ?_
  walk_nrm
  (refine Co.value rfl rfl (by decide) (fun _ => by simp [execOp, Act.eval]; rfl) (fun _ => by simp [execOp, Act.eval]) ?_; walk_nrm)
  iterate 4 (with_reducible refine Co.ctlG (fun _ => by first | exact stepG_seq | exact stepG_skip | exact stepG_block | exact stepG_loop | exact stepG_inLoop | exact stepG_inBlock | exact stepG_region_end | exact stepG_region) ?_)
  (refine Co.value rfl rfl (by decide) (fun _ => by simp [execOp, Act.eval]; rfl) (fun _ => by simp [execOp, Act.eval]) ?_; walk_nrm)
  iterate 5 (with_reducible refine Co.ctlG (fun _ => by first | exact stepG_seq | exact stepG_skip | exact stepG_block | exact stepG_loop | exact stepG_inLoop | exact stepG_inBlock | exact stepG_region_end | exact stepG_region) ?_)
  exact next w1 row hk1 hrow hflat ..
end
end Go.Proofs.YtnpffnhiefgglaaGreatDoor
