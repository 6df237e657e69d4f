/-
  A part of the proof.
-/
import Derived.Test.YthjapmdikbmmkaaDoorParz26
import Derived.Test.YthjapmdikbmmkaaDoorParz21
import Derived.Lib.LaidTab
import Derived.WideShapes
import GoSem.Claims
import Derived.Test.YthjapmdikbmmkaaDoorParz15
import Derived.Test.YthjapmdikbmmkaaDoorParz12
namespace Go.Proofs.YthjapmdikbmmkaaDoor
open Go Go.Conc Go.RowKit
set_option maxRecDepth 100000
theorem results_oneT {P : Program} {fn : Func} {t : Nat} (hres : fn.results = #[.tmp t]) (tmps : Array Value) (w : World) : (results fn tmps).runT P w #[] = (.ok (tmps.getD t undef) w, #[]) := by
  simp [results, hres]
theorem law_fin {W : World} {f : FuncId} {fn : Func} {t : Nat} {args : Array Value} (hfn : Tryd.prog.funcs[f]? = some fn) (hres : fn.results = #[.tmp t]) (hini : Tryd.prog.inits.idxOf? f = none)
    (hB : Bes Tryd.prog (fun g w1 => ∃ frE : Frame, g = G frE [] ∧ frE.mode = .returning ∧ frE.fn = f ∧ frE.defers = [] ∧ frE.kind = .normal ∧ frE.tmps.getD t undef = .bool true ∧ Lay W w1) (G (Frame.enter Tryd.prog f args .normal) []) W) :
    ∃ M last o w' t', runNT Tryd.prog (M + 1) (solo (G (Frame.enter Tryd.prog f args .normal) []) W) #[] = (.ended o w', t') ∧ runN Tryd.prog M (solo (G (Frame.enter Tryd.prog f args .normal) []) W) = .next last ∧ step Tryd.prog last = .ended o w' ∧ Go.Conc.Good Tryd.prog (fun v w1 => v = .bool true ∧ Below W.heap.size W w1) last o w' t' := by
  obtain ⟨N, gs1, w1, sl1, t1, hr, g1, q1, h0, ⟨frE, rfl, m1, m2, m4, m5, e2, hl⟩, hL, hP⟩ := hB #[G (Frame.enter Tryd.prog f args .normal) []] none #[] (fun _ => 0) rfl (LeavX.of_leavers (leavers_one _ _)) (past_nil.mono (Nat.zero_le _))
  have hend : ∀ w2, AtRel w1 w2 → AtEnd Tryd.prog (fun _ => False) w1.heap.size (fun v w' => v = .bool true ∧ Below W.heap.size W w') (G frE []) w2 := by
    rintro w2 ⟨d, rfl⟩
    have m3 : Tryd.prog.funcs[frE.fn]? = some fn := by rw [m2]; exact hfn
    refine ⟨rfl, .bool true, #[], ?_, by simp, rfl, hl.os, hl.tape, hl.output, hl.size, hl.heap⟩
    simp only [stepG, G, m1, unwind, m4, m3, results_oneT hres, e2, GStep.after, doReturn, m5]
    rw [m2, hini, if_neg (by decide), seen_none]
    rfl
  obtain ⟨N', last, o, w', t', e4, e5, e6, e7⟩ := beside_ends (P := Tryd.prog) (D := fun _ _ _ => False) (n := 0) (sl := sl1) (fun _ _ _ h => h.elim) h0 hL.leavers hP hend
  refine ⟨N + N', last, o, w', t', ?_, ?_, e6, e7⟩
  · rw [Nat.add_assoc, runNT_add]
    rw [show runNT Tryd.prog N (solo (G (Frame.enter Tryd.prog f args .normal) []) W) #[] = (.next (crowd gs1 w1 sl1), t1) from hr]
    exact e4
  · rw [runN_add]
    rw [show runN Tryd.prog N (solo (G (Frame.enter Tryd.prog f args .normal) []) W) = .next (crowd gs1 w1 sl1) by rw [← runNT_fst _ _ _ #[]]; exact congrArg Prod.fst hr]
    exact e5
end Go.Proofs.YthjapmdikbmmkaaDoor
namespace Go.Proofs.YthjapmdikbmmkaaDoor
open Go.RowKit
set_option maxRecDepth 100000
theorem cells_of_tab2 {H : Type} {enc : TypeId × Value → H} {P : Program} {w : World} {base : Nat} {sp : Nat → Bool} {held : Bool} {fuel : Nat} {t t2 e : TypeId} {n m : Nat} {k : IntKind} {cs : List Value} {zss : List (List Int)} {p : List MemPlace}
    (ht : P.underlying t = some (.array n t2)) (ht2 : P.underlying t2 = some (.array m e)) (he : P.underlying e = some (.int k)) (hce : P.cellsOf e = 1) (hc2 : P.cellsOf t2 = m)
    (h : DataW.trod enc P w base sp held fuel t cs = some (.agg (zss.map (Lib.tabData k)), p)) : ∀ i zs, zss[i]? = some zs → (cs.drop (i * m)).take m = zs.map fun z => Value.int k z := by
  cases fuel with
  | zero => simp [DataW.trod] at h
  | succ fuel =>
    simp only [DataW.trod, ht, hc2] at h
    split at h
    · obtain ⟨xs, hm, hx⟩ := Option.map_eq_some_iff.1 h
      have hxs : xs.map (·.1) = zss.map (Lib.tabData (H := H) k) := by
        have := congrArg Prod.fst hx
        simpa using this
      have hxl : xs.length = n := by simpa using Lib.mapM_length hm
      intro i zs hz
      have hi : i < n := by
        have h1 : i < zss.length := (List.getElem?_eq_some_iff.1 hz).1
        have := congrArg List.length hxs
        simp at this
        omega
      obtain ⟨b, hb, hf⟩ := Lib.mapM_at hm i i (by simp [hi])
      have h2 : (xs.map (·.1))[i]? = some b.1 := by simp [hb]
      rw [hxs, List.getElem?_map, hz] at h2
      have h3 : b = (Lib.tabData k zs, b.2) := by
        have := Option.some.inj h2
        rw [this]
      rw [h3] at hf
      exact Lib.cells_of_tab ht2 he hce hc2 hf
    · cases h
theorem places_of {W : World} {rest : List (String × DataW Unit)} (h : laidMet Tryd.prog (("loop.example/g00473/impl.quarterPlaces", .agg ((placesL.map castL).map (Lib.tabData .i64))) :: rest) W) : PlacesIs W := by
  obtain ⟨ps, ⟨g', t', cs, fuel, p, q, hg', ht', hvar, hd, _, _⟩, _⟩ := h
  have hg : Tryd.prog.globalNamed "loop.example/g00473/impl.quarterPlaces" = some 0 := by kernel_rfl
  have hty : (Tryd.prog.globals[0]?).map (·.type) = some 91 := by kernel_rfl
  obtain rfl := Option.some.inj (hg.symm.trans hg')
  obtain rfl := Option.some.inj (hty.symm.trans ht')
  have key := cells_of_tab2 Tryd.underlying91 Tryd.underlying90 Tryd.underlying3 (by kernel_rfl) (by kernel_rfl) hd
  intro j v hv
  have hj : j < 32 := (List.getElem?_eq_some_iff.1 hv).1
  have hc := World.var?_cell hg hvar j
  rw [Nat.zero_add, hc]
  obtain ⟨a, b, ha, hb, rfl⟩ : ∃ a b, a < 8 ∧ b < 4 ∧ j = a * 4 + b := ⟨j / 4, j % 4, by omega, by omega, by omega⟩
  have k1 := fun zs hz => congrArg (fun l : List Value => l[b]?) (key a zs hz)
  simp only [List.getElem?_take, List.getElem?_drop, if_pos hb] at k1
  have h8 : a = 0 ∨ a = 1 ∨ a = 2 ∨ a = 3 ∨ a = 4 ∨ a = 5 ∨ a = 6 ∨ a = 7 := by omega
  have h4 : b = 0 ∨ b = 1 ∨ b = 2 ∨ b = 3 := by omega
  have e : cs[a * 4 + b]? = cs.toList[a * 4 + b]? := by simp
  rw [e]
  clear e hc hvar hd key
  rcases h8 with rfl | rfl | rfl | rfl | rfl | rfl | rfl | rfl <;> rcases h4 with rfl | rfl | rfl | rfl <;> exact (k1 _ rfl).trans hv
end Go.Proofs.YthjapmdikbmmkaaDoor
namespace Go.Proofs.YthjapmdikbmmkaaDoor
open Go Go.Conc Go.RowKit
set_option maxRecDepth 100000
theorem arg_bytes {W : World} {base : Nat} {a : Option Addr} {len cap : Nat} {zs : List Int} (hok : Value.okWide Tryd.prog W .any base 22 (.slice a len cap))
    (h : (a = none ∧ len = 0 ∧ cap = 0 ∧ zs = []) ∨ ∃ x, a = some x ∧ len ≤ cap ∧ cap ≤ maxLen ∧ zs.length = cap ∧ (∀ i, i < zs.length → W.cell? (x.add i) = some (.int .u8 (zs.getD i 0))) ∧ ∀ n ∈ zs, (Lit.int .u8 n).wf = true) :
    BytesT W a len cap (zs.take len) := by
  rcases h with ⟨rfl, rfl, rfl, rfl⟩ | ⟨x, rfl, hl, hm, hz, hcell, hwz⟩
  · exact ⟨rfl, Nat.le_refl _, fun x hx => (by cases hx), fun h => absurd h (Nat.lt_irrefl 0)⟩
  · have hs : x.spot = none := by
      simp only [Value.okWide, Tryd.underlying22, Cell.okWide, Cell.ok] at hok
      obtain ⟨_, _, _, h1, _⟩ := hok
      exact h1
    obtain ⟨b, o, sp⟩ := x
    obtain rfl : sp = none := hs
    refine ⟨by simp; omega, hl, fun y hy => ?_, fun _ => ⟨b, o, rfl, fun j u hu => ?_⟩⟩
    · have := bounds_u8 (hwz y (List.mem_of_mem_take hy))
      omega
    · have hj := (List.getElem?_eq_some_iff.1 hu).1
      rw [List.length_take] at hj
      have := hcell j (by omega)
      rw [Addr.add_lit] at this
      rw [this]
      rw [List.getElem?_take, if_pos (by omega)] at hu
      rw [List.getD_eq_getElem?_getD, hu]
      rfl
theorem gr_of {W : World} (hsh : W.ShapedOpen Tryd.prog) (hP : PlacesIs W) : ∃ C e, Gr C e W := by
  have h1 : (((begin Tryd.prog (fun _ _ => 0) default).world.heap[0]?).bind Obj.row?).map (fun x => x.1.size) = some 32 := by kernel_rfl
  have hone : Tryd.prog.globals.size = 1 := by kernel_rfl
  have hzero : 0 = 0 := by decide
  have tabG : 0 < Tryd.prog.globals.size := by rw [hone]; decide
  obtain ⟨⟨zero, t⟩, h2, h3⟩ := Option.map_eq_some_iff.1 h1
  obtain ⟨cs, h4, h5, _⟩ := hsh.1 0 zero t tabG h2
  have hsz : cs.size = 32 := h5.trans h3
  have hcell : ∀ (j : Nat) v, placesC[j]? = some v → cs[j]? = some v := fun j v hv => by
    have := hP j v hv
    simpa only [World.cell?, h4, Option.isSome_none, Bool.false_eq_true, if_false, Nat.zero_add] using this
  have hps : placesC.toArray.size = 32 := by kernel_rfl
  have hfl : placesC.all flatC = true := by kernel_rfl
  refine ⟨cs, t, ⟨0, 0, h4, fun i _ h => absurd h (Nat.not_lt_zero _)⟩, fun v hv => ?_, hcell, fun b hb => ?_⟩
  · obtain ⟨j, hj, rfl⟩ := Array.mem_iff_getElem.1 hv
    have hj' : j < placesC.length := by
      have : placesC.length = 32 := by simpa using hps
      omega
    have := hcell j placesC[j] (List.getElem?_eq_getElem hj')
    rw [Array.getElem?_eq_getElem hj] at this
    rw [Option.some.inj this]
    exact List.all_eq_true.1 hfl _ (List.getElem_mem _)
  · obtain rfl : b = 0 := by omega
    exact ⟨_, hzero ▸ h4, rfl⟩
end Go.Proofs.YthjapmdikbmmkaaDoor
namespace Go.Proofs.YthjapmdikbmmkaaDoor
open Go Go.Conc
set_option maxRecDepth 100000
def bOp : Frame := { (default : Frame) with fn := 11, kind := .normal }
noncomputable def bodyOp : Code := Tryd.f11.body.getD .skip
theorem enter_Op (x y z u : Value) : Frame.enter Tryd.prog 11 #[x, y, z, u] .normal = bOp.at ⟨#[x, y, z, u] ++ Array.replicate 36 undef, []⟩ [.code bodyOp] := by
  simp [Frame.enter, Frame.at, bOp, bodyOp, Tryd.func11, Tryd.f11]
noncomputable def bodyO1 : Code := Tryd.f32.body.getD .skip
section
variable {Sh : Nat → Prop} {Stop : (Nat → Prop) → Goroutine → World → Prop} {M : Nat → Prop} {w : World}
theorem closeO_ret (R O : Nat) (c : Frame) (cs : List Frame) (hc : c.mode = .returning) (next : Co Tryd.prog true Sh Stop M (G c cs) w) :
    Co Tryd.prog true Sh Stop M (G ((baseD 32).at ⟨#[.pointer (some ⟨R, 0, none⟩), .pointer (some ⟨O, 0, none⟩), undef, undef], []⟩ [.code bodyO1]) (c :: cs)) w := by
  simp only [bodyO1, Tryd.f32, Option.getD_some]
  iterate 2 (with_reducible refine Co.ctlG (fun _ => by first | exact stepG_seq | exact stepG_skip | exact stepG_block | exact stepG_loop | exact stepG_inLoop | exact stepG_inBlock | exact stepG_region_end | exact stepG_region) ?_)
  refine Co.ctlG (fun _ => stepG_recover_none rfl rfl rfl rfl hc) ?_
  walk_nrm
  refine Co.value (v := .bool false) rfl rfl (by decide) (fun _ => by simp [go_sem, execOp, Act.eval]) (fun _ => by first | rfl | kernel_rfl) ?_
  walk_nrm
  (with_reducible refine Co.ctlG (fun _ => by first | exact stepG_seq | exact stepG_skip | exact stepG_block | exact stepG_loop | exact stepG_inLoop | exact stepG_inBlock | exact stepG_region_end | exact stepG_region) ?_)
  refine Co.ctlG (fun _ => stepG_cond (t := false) rfl) ?_
  simp only [Bool.false_eq_true, if_false]
  (with_reducible refine Co.ctlG (fun _ => by first | exact stepG_seq | exact stepG_skip | exact stepG_block | exact stepG_loop | exact stepG_inLoop | exact stepG_inBlock | exact stepG_region_end | exact stepG_region) ?_)
  refine Co.ctlG (fun _ => stepG_end0) ?_
  exact .ctl rfl (fun w1 => stepG_leave_deferred rfl rfl Tryd.func32 (by simp [results, Tryd.f32]; rfl) (by simp [results, Tryd.f32]) hc) next
theorem closeO_pan (R O : Nat) (t : ByteArray) (zo : Bool) (c : Frame) (cs : List Frame) (hc : c.mode = .panicking (pan t)) (hR : w.heap[R]? = some (.cells #[.slice none 0 0] 22 (0, 0))) (hO : w.heap[O]? = some (.cells #[.bool zo] 4 (0, 0))) (hRO : R ≠ O) (hMR : M R) (hMO : M O) (hSR : ¬ Sh R) (hSO : ¬ Sh O) (hSw : ∀ b, Sh b → b < w.heap.size) (hlow : ∀ b, M b → b < w.heap.size)
    (next : ∀ w2, w2.heap[R]? = some (.cells #[.slice none 0 0] 22 (0, 0)) → w2.heap[O]? = some (.cells #[.bool false] 4 (0, 0)) → (∀ b, M b → b ≠ R → b ≠ O → w2.heap[b]? = w.heap[b]?) → w.heap.size ≤ w2.heap.size → w2.os = w.os → w2.output = w.output → w2.tape = w.tape → Co Tryd.prog true Sh Stop M (G { c with mode := .returning } cs) w2) :
    Co Tryd.prog true Sh Stop M (G ((baseD 32).at ⟨#[.pointer (some ⟨R, 0, none⟩), .pointer (some ⟨O, 0, none⟩), undef, undef], []⟩ [.code bodyO1]) (c :: cs)) w := by
  simp only [bodyO1, Tryd.f32, Option.getD_some]
  iterate 2 (with_reducible refine Co.ctlG (fun _ => by first | exact stepG_seq | exact stepG_skip | exact stepG_block | exact stepG_loop | exact stepG_inLoop | exact stepG_inBlock | exact stepG_region_end | exact stepG_region) ?_)
  refine Co.ctlG (fun _ => stepG_recover_some (older := []) rfl rfl rfl rfl hc) ?_
  walk_nrm
  refine Co.value (v := .bool true) rfl rfl (by decide) (fun _ => by simp [go_sem, execOp, Act.eval]) (fun _ => by first | rfl | kernel_rfl) ?_
  walk_nrm
  (with_reducible refine Co.ctlG (fun _ => by first | exact stepG_seq | exact stepG_skip | exact stepG_block | exact stepG_loop | exact stepG_inLoop | exact stepG_inBlock | exact stepG_region_end | exact stepG_region) ?_)
  refine Co.ctlG (fun _ => stepG_cond (t := true) rfl) ?_
  simp only [if_true]
  (with_reducible refine Co.ctlG (fun _ => by first | exact stepG_seq | exact stepG_skip | exact stepG_block | exact stepG_loop | exact stepG_inLoop | exact stepG_inBlock | exact stepG_region_end | exact stepG_region) ?_)
  refine Co.storeOne (N := fun b => b = R) (β := R) (z := .slice none 0 0) (v := .slice none 0 0) (e := 22) rfl rfl (by decide) rfl rfl rfl hR rfl (fun b hb => hb ▸ hMR) (fun b hs hb => hSR (hb ▸ hs)) hSw hlow .sliceNil rfl (by kernel_rfl) (mine_one hR rfl) fun w1 hk1 => ?_
  walk_nrm
  have z1 := hk1.size
  have zs : (w1.setRow R #[.slice none 0 0]).heap.size = w1.heap.size := by simp [World.setRow]
  have hO1 : (w1.setRow R #[.slice none 0 0]).heap[O]? = some (.cells #[.bool zo] 4 (0, 0)) := (setRow_other _ _ _ _ hRO.symm).trans ((hk1.heap O hMO).trans hO)
  refine Co.storeOne (N := fun b => b = O) (β := O) (z := .bool zo) (v := .bool false) (e := 4) rfl rfl (by decide) rfl rfl rfl hO1 rfl (fun b hb => hb ▸ hMO) (fun b hs hb => hSO (hb ▸ hs)) (fun b hb => by have := hSw b hb; omega) (fun b hb => by have := hlow b hb; omega) (.bool false) rfl (by kernel_rfl) (mine_one hO1 rfl) fun w3 hk3 => ?_
  walk_nrm
  (with_reducible refine Co.ctlG (fun _ => by first | exact stepG_seq | exact stepG_skip | exact stepG_block | exact stepG_loop | exact stepG_inLoop | exact stepG_inBlock | exact stepG_region_end | exact stepG_region) ?_)
  refine Co.ctlG (fun _ => stepG_end0) ?_
  refine .ctl rfl (fun w4 => stepG_leave_recovered rfl rfl Tryd.func32 (by simp [results, Tryd.f32]; rfl) (by simp [results, Tryd.f32]) rfl) ?_
  have z3 := hk3.size
  have hR1 : (w1.setRow R #[.slice none 0 0]).heap[R]? = some (.cells #[.slice none 0 0] 22 (0, 0)) := setRow_heap _ _ _ _ _ _ ((hk1.heap R hMR).trans hR)
  refine next _ ?_ ?_ (fun b hb h1 h2 => ?_) ?_ ?_ ?_ ?_
  · exact (setRow_other _ _ _ _ hRO).trans ((hk3.heap R hMR).trans hR1)
  · exact setRow_heap _ _ _ _ _ _ ((hk3.heap O hMO).trans hO1)
  · rw [setRow_other _ _ _ _ h2, hk3.heap b hb, setRow_other _ _ _ _ h1, hk1.heap b hb]
  · show w.heap.size ≤ (w3.setRow O #[.bool false]).heap.size
    have : (w3.setRow O #[.bool false]).heap.size = w3.heap.size := by simp [World.setRow]
    omega
  · exact hk3.os.trans hk1.os
  · exact hk3.output.trans hk1.output
  · exact hk3.tape.trans hk1.tape
end
def waitOp (R O : Nat) : List Deferred := [dval 32 #[.pointer (some ⟨R, 0, none⟩), .pointer (some ⟨O, 0, none⟩)]]
theorem results_Op (tmps : Array Value) (R O : Nat) (h8 : tmps.getD 8 undef = .pointer (some ⟨R, 0, none⟩)) (h9 : tmps.getD 9 undef = .pointer (some ⟨O, 0, none⟩)) : results Tryd.f11 tmps = (do let v ← loadVar 22 ⟨R, 0, none⟩; let u ← loadVar 4 ⟨O, 0, none⟩; pure (.tuple #[v, u])) := by
  unfold results
  have e : Tryd.f11.results = #[.cell 8 22, .cell 9 4] := rfl
  rw [e, Array.mapM_eq_mapM_toList]
  rw [Array.getD_eq_getD_getElem?] at h8 h9
  simp [h8, h9, asAddr]
theorem unwindOp {m : FrameMode} {a : Act} {R O : Nat} {todo : List Item} {cs : List Frame} {w : World} {main : Bool} {b : Frame} (hm : m ≠ .run) (hd : a.defers = waitOp R O) : stepG Tryd.prog main (G { b.at a todo with mode := m } cs) w = .go (G ((baseD 32).at ⟨#[.pointer (some ⟨R, 0, none⟩), .pointer (some ⟨O, 0, none⟩), undef, undef], []⟩ [.code bodyO1]) ({ b.at ⟨a.tmps, []⟩ todo with mode := m } :: cs)) w #[] :=
  stepG_unwindV (c := bodyO1) hm hd Tryd.func32 (by kernel_rfl) rfl
section
variable {Sh : Nat → Prop} {Stop : (Nat → Prop) → Goroutine → World → Prop} {M : Nat → Prop} {w : World}
theorem out_Op (tmps : Array Value) (todo : List Item) (R O : Nat) (v : Value) (ok : Bool) (T : Nat → Prop) (c : Frame) (cs : List Frame) (h8 : tmps.getD 8 undef = .pointer (some ⟨R, 0, none⟩)) (h9 : tmps.getD 9 undef = .pointer (some ⟨O, 0, none⟩))
    (hR : w.heap[R]? = some (.cells #[v] 22 (0, 0))) (hO : w.heap[O]? = some (.cells #[.bool ok] 4 (0, 0))) (hT : ∀ b, T b → M b) (hTR : T R) (hTO : T O) (hTS : ∀ b, Sh b → ¬ T b) (hSw : ∀ b, Sh b → b < w.heap.size) (hm : ∀ b, T b → ∃ o, w.heap[b]? = some o ∧ RelO (idr T 0 fun _ => False) 0 o o)
    (next : Co Tryd.prog true Sh Stop M (G (c.finish (.tuple #[v, .bool ok])) cs) w) :
    Co Tryd.prog true Sh Stop M (G { bOp.at ⟨tmps, []⟩ todo with mode := .returning } (c :: cs)) w := by
  refine Co.leaves (N := T) (n := 0) (A := fun _ => False) rfl rfl Tryd.func11 hT ?_ (fun w4 hk4 => ⟨fun b hb => ?_, fun b hs hb => absurd hb (hTS b hs), fun b hb => Nat.lt_of_lt_of_le (hSw b hb) hk4.size, Nat.zero_le _⟩) (fun w4 hk4 => ?_) next
  · rw [results_Op _ R O h8 h9]
    refine (sim_loadVar (show RelA (idr T 0 fun _ => False) ⟨R, 0, none⟩ ⟨R, 0, none⟩ from ⟨⟨rfl, hTR⟩, rfl, rfl, fun _ => rfl, Nat.zero_le _⟩) 22).bd fun ρ1 u u' hle hu => ?_
    refine (sim_loadVar (show RelA ρ1 ⟨O, 0, none⟩ ⟨O, 0, none⟩ from RelA.mono hle ⟨⟨rfl, hTO⟩, rfl, rfl, fun _ => rfl, Nat.zero_le _⟩) 4).bd fun ρ2 x x' hle2 hx => .pr (.tuple rfl fun i y y' g1 g2 => ?_)
    match i with
    | 0 => cases g1; cases g2; exact hu.mono hle2
    | 1 => cases g1; cases g2; exact hx
    | i + 2 => cases g1
  · obtain ⟨o1, g1, g2⟩ := hm b hb
    exact ⟨o1, (hk4.heap _ (hT _ hb)).trans g1, g2⟩
  · rw [results_Op _ R O h8 h9]
    have e1 : (loadVar 22 ⟨R, 0, none⟩).run Tryd.prog w4 = .ok v w4 := run_loadVar_one ((hk4.heap R (hT R hTR)).trans hR) Tryd.underlying22 rfl
    have e2 : (loadVar 4 ⟨O, 0, none⟩).run Tryd.prog w4 = .ok (.bool ok) w4 := run_loadVar_one ((hk4.heap O (hT O hTO)).trans hO) Tryd.underlying4 rfl
    simp [e1, e2]
end
end Go.Proofs.YthjapmdikbmmkaaDoor
namespace Go.Proofs.YthjapmdikbmmkaaDoor
open Go Go.Conc Go.RowKit
set_option maxRecDepth 100000
section
variable {Q : Goroutine → World → Prop} {w : World}
theorem sizes_b (kp np ap : Option Addr) (kn kc nn nc an ac : Nat) (pl : Int) (c : Frame) (cs : List Frame) (hc : c.mode = .run) (yes : SizesOk kn nn an pl → BesB Tryd.prog Q (G (c.finish undef) cs) w) (no : ¬ SizesOk kn nn an pl → ∀ s, BesB Tryd.prog Q (G { c with mode := .panicking (pan s) } cs) w) :
    BesB Tryd.prog Q (G (Frame.enter Tryd.prog 25 #[.slice kp kn kc, .slice np nn nc, .slice ap an ac, .int .i64 pl] .normal) (c :: cs)) w := fun w1 hG hl =>
  (Bes.of_co (Sh := fun _ => False) (M := fun b => b < w1.heap.size) (Stop := fun _ g2 w2 => Lay w1 w2 ∧ ((SizesOk kn nn an pl ∧ g2 = G (c.finish undef) cs) ∨ (¬ SizesOk kn nn an pl ∧ ∃ s, g2 = G { c with mode := .panicking (pan s) } cs)))
    (sizes_R kp np ap kn kc nn nc an ac pl c cs hc (fun hok => .stop fun w2 hk => ⟨hk, .inl ⟨hok, rfl⟩⟩) (fun hno s => .stop fun w2 hk => ⟨hk, .inr ⟨hno, s, rfl⟩⟩)) (fun b h => h) fun _ _ _ h _ => h).bind fun g w2 ⟨hl2, h⟩ => by
    have hG2 := cells_keeps hG hl2.heap
    have hb := below_on hl hl2.below
    rcases h with ⟨h1, rfl⟩ | ⟨h1, s, rfl⟩
    · exact yes h1 w2 hG2 hb
    · exact no h1 s w2 hG2 hb
theorem want_b (t : Bool) (s : ByteArray) (c : Frame) (cs : List Frame) (hc : c.mode = .run) (yes : t = true → BesB Tryd.prog Q (G (c.finish undef) cs) w) (no : t = false → BesB Tryd.prog Q (G { c with mode := .panicking (pan s) } cs) w) :
    BesB Tryd.prog Q (G (Frame.enter Tryd.prog 33 #[.bool t, .string s] .normal) (c :: cs)) w := fun w1 hG hl => by
  cases t with
  | true =>
    exact (Bes.of_co (Sh := fun _ => False) (M := fun b => b < w1.heap.size) (Stop := fun _ g2 w2 => Lay w1 w2 ∧ g2 = G (c.finish undef) cs) (want_yes s c cs (.stop fun w2 hk => ⟨hk, rfl⟩)) (fun b h => h) fun _ _ _ h _ => h).bind fun g w2 ⟨hl2, h⟩ => by
      subst h
      exact yes rfl w2 (cells_keeps hG hl2.heap) (below_on hl hl2.below)
  | false =>
    exact (Bes.of_co (Sh := fun _ => False) (M := fun b => b < w1.heap.size) (Stop := fun _ g2 w2 => Lay w1 w2 ∧ g2 = G { c with mode := .panicking (pan s) } cs) (want_no s c cs hc (.stop fun w2 hk => ⟨hk, rfl⟩)) (fun b h => h) fun _ _ _ h _ => h).bind fun g w2 ⟨hl2, h⟩ => by
      subst h
      exact no rfl w2 (cells_keeps hG hl2.heap) (below_on hl hl2.below)
structure But (R O : Nat) (w w2 : World) : Prop where
  heap : ∀ b, b < w.heap.size → b ≠ R → b ≠ O → w2.heap[b]? = w.heap[b]?
  size : w.heap.size ≤ w2.heap.size
  os : w2.os = w.os
  output : w2.output = w.output
  tape : w2.tape = w.tape
theorem But.cells {n R O : Nat} {w w2 : World} (h : But R O w w2) (hG : CellsTo n w) (hR : n ≤ R) (hO : n ≤ O) : CellsTo n w2 := fun b hb => by
  obtain ⟨o, h1, h2⟩ := hG b hb
  exact ⟨o, (h.heap b (Array.getElem?_eq_some_iff.1 h1).1 (by omega) (by omega)).trans h1, h2⟩
theorem But.below {R O : Nat} {w0 w w2 : World} (h : But R O w w2) (k : Below w0.heap.size w0 w) (hR : w0.heap.size ≤ R) (hO : w0.heap.size ≤ O) : Below w0.heap.size w0 w2 :=
  ⟨h.os.trans k.os, h.tape.trans k.tape, h.output.trans k.output, Nat.le_trans k.size h.size, fun b hb => (h.heap b (Nat.lt_of_lt_of_le hb k.size) (by omega) (by omega)).trans (k.block b hb)⟩
theorem But.on {R O : Nat} {w w1 w2 : World} (h : But R O w1 w2) (k : Below w.heap.size w w1) : But R O w w2 :=
  ⟨fun b hb h1 h2 => (h.heap b (Nat.lt_of_lt_of_le hb k.size) h1 h2).trans (k.block b hb), Nat.le_trans k.size h.size, h.os.trans k.os, h.output.trans k.output, h.tape.trans k.tape⟩
theorem refuse_b (tmps : Array Value) (todo : List Item) (R O : Nat) (s : ByteArray) (zo : Bool) (c : Frame) (cs : List Frame) (h8 : tmps.getD 8 undef = .pointer (some ⟨R, 0, none⟩)) (h9 : tmps.getD 9 undef = .pointer (some ⟨O, 0, none⟩))
    (hR : w.heap[R]? = some (.cells #[.slice none 0 0] 22 (0, 0))) (hO : w.heap[O]? = some (.cells #[.bool zo] 4 (0, 0))) (hRO : R ≠ O) (gR : Tryd.prog.globals.size ≤ R) (gO : Tryd.prog.globals.size ≤ O)
    (next : ∀ w2, But R O w w2 → BesB Tryd.prog Q (G (c.finish (.tuple #[.slice none 0 0, .bool false])) cs) w2) :
    BesB Tryd.prog Q (G { bOp.at ⟨tmps, waitOp R O⟩ todo with mode := .panicking (pan s) } (c :: cs)) w := fun w1 hG hl => by
  have lR := (Array.getElem?_eq_some_iff.1 hR).1
  have lO := (Array.getElem?_eq_some_iff.1 hO).1
  have hR1 := (hl.block R lR).trans hR
  have hO1 := (hl.block O lO).trans hO
  have lR1 := (Array.getElem?_eq_some_iff.1 hR1).1
  have lO1 := (Array.getElem?_eq_some_iff.1 hO1).1
  refine (Bes.of_co (Sh := fun _ => False) (M := fun b => b < w1.heap.size) (Stop := fun _ g2 w2 => But R O w1 w2 ∧ g2 = G (c.finish (.tuple #[.slice none 0 0, .bool false])) cs) (.ctlG (fun _ => unwindOp (R := R) (O := O) (by simp) rfl) (closeO_pan R O s zo _ _ rfl hR1 hO1 hRO lR1 lO1 (fun h => h) (fun h => h) (fun b h => h.elim) (fun b h => h) fun w5 h1 h2 h3 h4 h5 h6 h7 => out_Op _ _ R O (.slice none 0 0) false (fun b => b = R ∨ b = O) c cs h8 h9 h1 h2 (fun b hb => ?_) (.inl rfl) (.inr rfl) (fun b hs => hs.elim) (fun b hs => hs.elim) (fun b hb => ?_) (.stop fun w6 hk6 => ⟨⟨fun b hb n1 n2 => (hk6.heap b hb).trans (h3 b hb n1 n2), Nat.le_trans h4 hk6.size, hk6.os.trans h5, hk6.output.trans h6, hk6.tape.trans h7⟩, rfl⟩))) (fun b h => h) fun _ _ _ h _ => h).bind fun g w2 ⟨hb, h⟩ => ?_
  · rcases hb with rfl | rfl
    · exact lR1
    · exact lO1
  · rcases hb with rfl | rfl
    · exact ⟨_, h1, relO_flatF fun v hv => by rw [Array.mem_singleton.1 hv]; rfl⟩
    · exact ⟨_, h2, relO_flatF fun v hv => by rw [Array.mem_singleton.1 hv]; rfl⟩
  · subst h
    exact next w2 (hb.on hl) w2 (hb.cells hG gR gO) (.refl _ _)
end
section
variable {Q : Goroutine → World → Prop} {w : World} {b : Frame} {a : Act} {cs : List Frame} {k : List Item} {ops : Array Oper} {i : Nat} {rest : List Nat} {o : Oper}
theorem but_set {β : Nat} {v : Value} {w w1 w2 : World} (hk1 : Keeps (fun b => b < w.heap.size) w w1) (hk2 : Keeps (fun b => b < w.heap.size) (w1.setRow β #[v]) w2) : But β β w w2 := by
  have z : (w1.setRow β #[v]).heap.size = w1.heap.size := by simp [World.setRow]
  refine ⟨fun b hb h1 _ => (hk2.heap b hb).trans ((setRow_other _ _ _ _ h1).trans (hk1.heap b hb)), ?_, hk2.os.trans hk1.os, hk2.output.trans hk1.output, hk2.tape.trans hk1.tape⟩
  have h1 := hk1.size
  have h2 := hk2.size
  omega
theorem storeRow_b {t : TypeId} {x y : Operand} {β γ n c : Nat} {row : Array Value} {e : TypeId} {fz : Nat × Nat} (ho : ops[i]? = some o) (hw : Region.wanted o (yielded ops a.tmps) = true) (hk : b.kind ≠ .early) (hop : o.op = .store t x y) (hx : a.eval x = .pointer (some ⟨β, 0, none⟩)) (hy : a.eval y = .slice (some ⟨γ, 0, none⟩) n c)
    (hβ : w.heap[β]? = some (.cells #[.slice none 0 0] 22 (0, 0))) (hγ : w.heap[γ]? = some (.cells row e fz)) (hrow : ∀ v ∈ row, flatC v = true) (gβ : Tryd.prog.globals.size ≤ β) (hi : (Tryd.prog.info? t).map (·.size) = some 1)
    (next : ∀ w2, w2.heap[β]? = some (.cells #[.slice (some ⟨γ, 0, none⟩) n c] 22 (0, 0)) → But β β w w2 → BesB Tryd.prog Q (G (b.at (a.put o.dst undef) (.inRegion ops rest :: k)) cs) w2) :
    BesB Tryd.prog Q (G (b.at a (.inRegion ops (i :: rest) :: k)) cs) w := fun w1 hG hl => by
  have lβ := (Array.getElem?_eq_some_iff.1 hβ).1
  have lγ := (Array.getElem?_eq_some_iff.1 hγ).1
  have hβ1 := (hl.block β lβ).trans hβ
  have hγ1 := (hl.block γ lγ).trans hγ
  have lβ1 := (Array.getElem?_eq_some_iff.1 hβ1).1
  have lγ1 := (Array.getElem?_eq_some_iff.1 hγ1).1
  refine (Bes.of_co (Sh := fun _ => False) (M := fun b => b < w1.heap.size) (Stop := fun _ g2 w2 => (w2.heap[β]? = some (.cells #[.slice (some ⟨γ, 0, none⟩) n c] 22 (0, 0)) ∧ But β β w1 w2) ∧ g2 = G (b.at (a.put o.dst undef) (.inRegion ops rest :: k)) cs)
    (Co.storeOne (N := fun b => b = β ∨ b = γ) (β := β) (z := .slice none 0 0) (v := .slice (some ⟨γ, 0, none⟩) n c) (e := 22) ho hw hk hop hx hy hβ1 (.inl rfl) (fun b hb => hb.elim (fun h => h ▸ lβ1) fun h => h ▸ lγ1) (fun b hs => hs.elim) (fun b hs => hs.elim) (fun b h => h) (.slice _ _ ⟨⟨rfl, .inr rfl⟩, rfl, rfl, fun _ => rfl, Nat.zero_le _⟩) rfl hi (fun b hb => ?_) fun w2 hk2 => .stop fun w3 hk3 => ⟨⟨?_, but_set hk2 hk3⟩, rfl⟩) (fun b h => h) fun _ _ _ h _ => h).bind fun g w2 ⟨⟨h1, h2⟩, h3⟩ => ?_
  · rcases hb with rfl | rfl
    · exact ⟨_, hβ1, relO_flatF fun v hv => by rw [Array.mem_singleton.1 hv]; rfl⟩
    · exact ⟨_, hγ1, relO_flatF hrow⟩
  · exact (hk3.heap β lβ1).trans (setRow_heap _ _ _ _ _ _ ((hk2.heap β lβ1).trans hβ1))
  · subst h3
    exact next w2 h1 (h2.on hl) w2 (h2.cells hG gβ gβ) (.refl _ _)
theorem storeBool_b {t : TypeId} {x y : Operand} {β : Nat} {z v : Bool} (ho : ops[i]? = some o) (hw : Region.wanted o (yielded ops a.tmps) = true) (hk : b.kind ≠ .early) (hop : o.op = .store t x y) (hx : a.eval x = .pointer (some ⟨β, 0, none⟩)) (hy : a.eval y = .bool v)
    (hβ : w.heap[β]? = some (.cells #[.bool z] 4 (0, 0))) (gβ : Tryd.prog.globals.size ≤ β) (hi : (Tryd.prog.info? t).map (·.size) = some 1)
    (next : ∀ w2, w2.heap[β]? = some (.cells #[.bool v] 4 (0, 0)) → But β β w w2 → BesB Tryd.prog Q (G (b.at (a.put o.dst undef) (.inRegion ops rest :: k)) cs) w2) :
    BesB Tryd.prog Q (G (b.at a (.inRegion ops (i :: rest) :: k)) cs) w := fun w1 hG hl => by
  have lβ := (Array.getElem?_eq_some_iff.1 hβ).1
  have hβ1 := (hl.block β lβ).trans hβ
  have lβ1 := (Array.getElem?_eq_some_iff.1 hβ1).1
  refine (Bes.of_co (Sh := fun _ => False) (M := fun b => b < w1.heap.size) (Stop := fun _ g2 w2 => (w2.heap[β]? = some (.cells #[.bool v] 4 (0, 0)) ∧ But β β w1 w2) ∧ g2 = G (b.at (a.put o.dst undef) (.inRegion ops rest :: k)) cs)
    (Co.storeOne (N := fun b => b = β) (β := β) (z := .bool z) (v := .bool v) (e := 4) ho hw hk hop hx hy hβ1 rfl (fun b hb => hb ▸ lβ1) (fun b hs => hs.elim) (fun b hs => hs.elim) (fun b h => h) (.bool v) rfl hi (mine_one hβ1 rfl) fun w2 hk2 => .stop fun w3 hk3 => ⟨⟨?_, but_set hk2 hk3⟩, rfl⟩) (fun b h => h) fun _ _ _ h _ => h).bind fun g w2 ⟨⟨h1, h2⟩, h3⟩ => ?_
  · exact (hk3.heap β lβ1).trans (setRow_heap _ _ _ _ _ _ ((hk2.heap β lβ1).trans hβ1))
  · subst h3
    exact next w2 h1 (h2.on hl) w2 (h2.cells hG gβ gβ) (.refl _ _)
theorem return_b (tmps : Array Value) (todo : List Item) (R O γ n rc : Nat) (ok : Bool) (row : Array Value) (e : TypeId) (fz : Nat × Nat) (c : Frame) (cs : List Frame) (h8 : tmps.getD 8 undef = .pointer (some ⟨R, 0, none⟩)) (h9 : tmps.getD 9 undef = .pointer (some ⟨O, 0, none⟩))
    (hR : w.heap[R]? = some (.cells #[.slice (some ⟨γ, 0, none⟩) n rc] 22 (0, 0))) (hO : w.heap[O]? = some (.cells #[.bool ok] 4 (0, 0))) (hγ : w.heap[γ]? = some (.cells row e fz)) (hrow : ∀ v ∈ row, flatC v = true)
    (next : BesB Tryd.prog Q (G (c.finish (.tuple #[.slice (some ⟨γ, 0, none⟩) n rc, .bool ok])) cs) w) :
    BesB Tryd.prog Q (G { bOp.at ⟨tmps, waitOp R O⟩ todo with mode := .returning } (c :: cs)) w := fun w1 hG hl => by
  have hR1 := (hl.block R (Array.getElem?_eq_some_iff.1 hR).1).trans hR
  have hO1 := (hl.block O (Array.getElem?_eq_some_iff.1 hO).1).trans hO
  have hγ1 := (hl.block γ (Array.getElem?_eq_some_iff.1 hγ).1).trans hγ
  have lR1 := (Array.getElem?_eq_some_iff.1 hR1).1
  have lO1 := (Array.getElem?_eq_some_iff.1 hO1).1
  have lγ1 := (Array.getElem?_eq_some_iff.1 hγ1).1
  refine (Bes.of_co (Sh := fun _ => False) (M := fun b => b < w1.heap.size) (Stop := fun _ g2 w2 => Lay w1 w2 ∧ g2 = G (c.finish (.tuple #[.slice (some ⟨γ, 0, none⟩) n rc, .bool ok])) cs) (.ctlG (fun _ => unwindOp (R := R) (O := O) (by simp) rfl) (closeO_ret R O _ _ rfl (out_Op _ _ R O (.slice (some ⟨γ, 0, none⟩) n rc) ok (fun b => b = R ∨ b = O ∨ b = γ) c cs h8 h9 hR1 hO1 (fun b hb => ?_) (.inl rfl) (.inr (.inl rfl)) (fun b hs => hs.elim) (fun b hs => hs.elim) (fun b hb => ?_) (.stop fun w6 hk6 => ⟨hk6, rfl⟩)))) (fun b h => h) fun _ _ _ h _ => h).bind fun g w2 ⟨hb, h⟩ => ?_
  · rcases hb with rfl | rfl | rfl
    · exact lR1
    · exact lO1
    · exact lγ1
  · rcases hb with rfl | rfl | rfl
    · exact ⟨_, hR1, .cells _ rfl ⟨rfl, fun i v v' h1 h2 => by
        rw [h1] at h2
        cases h2
        match i, h1 with
        | 0, h1 => cases h1; exact .slice _ _ ⟨⟨rfl, .inr (.inr rfl)⟩, rfl, rfl, fun _ => rfl, Nat.zero_le _⟩⟩ fun i h1 h2 => ⟨h1, h2⟩⟩
    · exact ⟨_, hO1, relO_flatF fun v hv => by rw [Array.mem_singleton.1 hv]; rfl⟩
    · exact ⟨_, hγ1, relO_flatF hrow⟩
  · subst h
    exact next w2 (cells_keeps hG hb.heap) (below_on hl hb.below)
theorem stream_b (kp np bp : Option Addr) (kn kc nn nc bn bc : Nat) (ct : Int) (KS NS BS : List Int) (c : Frame) (cs : List Frame) (C : Array Value) (e : TypeId) (hg : Gr C e w) (hK : BytesT w kp kn kc KS) (hN : BytesT w np nn nc NS) (hB : BytesT w bp bn bc BS) (hct : ct ≤ 9223372036854775807) (hgood : GoodT kn nn bn ct)
    (next : ∀ τ w2, Below w.heap.size w w2 → w.heap.size ≤ τ → w2.heap[τ]? = some (.cells ((strT KS ct NS BS).map (Value.int .u8)).toArray 5 (0, 0)) → BesB Tryd.prog Q (G (c.finish (.slice (some ⟨τ, 0, none⟩) bn bn)) cs) w2) :
    BesB Tryd.prog Q (G (Frame.enter Tryd.prog 26 #[.slice kp kn kc, .int .i64 ct, .slice np nn nc, .slice bp bn bc] .normal) (c :: cs)) w := fun w1 hG hl => by
  have g1 := hg.on hl
  refine (stream_bes kp np bp kn kc nn nc bn bc ct KS NS BS c cs C e w1 (hK.keeps hl.block) (hN.keeps hl.block) (hB.keeps hl.block) hct g1.tab g1.flat g1.pl).bind fun g w2 ⟨v', hg', hk, h⟩ => ?_
  rcases h with ⟨hn, _⟩ | ⟨_, τ, rfl, hτ, hc⟩
  · exact absurd hgood hn
  · subst hg'
    exact next τ w2 (below_on hl (Lay.below hk)) (Nat.le_trans hl.size hτ) hc w2 (cells_keeps hG hk.heap) (.refl _ _)
end
end Go.Proofs.YthjapmdikbmmkaaDoor
namespace Go.Proofs.YthjapmdikbmmkaaDoor
open Go.RowKit
set_option maxRecDepth 100000
theorem specSame_any (p q : Option Addr) (n m c d : Nat) (xs ys : List Int) (w : World) (hx : xs.length = n) (hy : ys.length = m) (h : BytesIn w p n xs) (h' : BytesIn w q m ys) :
    Calls Tryd.prog 35 #[.slice p n c, .slice q m d] w fun e w' => e = .returned (.bool ((strOfNums xs).toList == (strOfNums ys).toList)) ∧ Below w.heap.size w w' := by
  have g := text_of (P := Tryd.prog) h hx c 22 5 9 Tryd.underlying22 Tryd.underlying5 Tryd.underlying9
  have g' := text_of (P := Tryd.prog) h' hy d 22 5 9 Tryd.underlying22 Tryd.underlying5 Tryd.underlying9
  go_enter Tryd.func35, Tryd.ntmps35
  go_wp2
  go_ret
  exact ⟨rfl, Below.refl _ _⟩
theorem implSame_any (p q : Option Addr) (n m c d : Nat) (xs ys : List Int) (w : World) (hx : xs.length = n) (hy : ys.length = m) (h : BytesIn w p n xs) (h' : BytesIn w q m ys) :
    Calls Tryd.prog 14 #[.slice p n c, .slice q m d] w fun e w' => e = .returned (.bool ((strOfNums xs).toList == (strOfNums ys).toList)) ∧ Below w.heap.size w w' := by
  have g := text_of (P := Tryd.prog) h hx c 22 5 9 Tryd.underlying22 Tryd.underlying5 Tryd.underlying9
  have g' := text_of (P := Tryd.prog) h' hy d 22 5 9 Tryd.underlying22 Tryd.underlying5 Tryd.underlying9
  go_enter Tryd.func14, Tryd.ntmps14
  go_wp2
  go_ret
  exact ⟨rfl, Below.refl _ _⟩
theorem cut_to (b j m cc h : Nat) (hc : h ≤ cc) : ∀ W, (Instr.slice 22 (.slice (some ⟨b, j, none⟩) m cc) none (some (.int .i64 (h : Int))) none).run Tryd.prog W = .ok (.slice (some ⟨b, j, none⟩) h cc) W := fun W => by
  have ht' : Tryd.prog.underlying 22 = some (.slice (Tryd.prog.elem 22)) := by simp [Program.elem, Tryd.underlying22]
  have he : Tryd.prog.elem 22 = 5 := by simp [Program.elem, Tryd.underlying22]
  obtain ⟨i0, hi, hz0, hz1, hz2⟩ := info_parts infoByte
  rw [run_slice_h W 22 _ _ _ ht' .i64 h (by omega) (by omega), he]
  simp [sizeOf, typeInfo, hi, sliced, Addr.add]
theorem cut_from (b j m cc l : Nat) (h : l ≤ m) (hl : l < cc) : ∀ W, (Instr.slice 22 (.slice (some ⟨b, j, none⟩) m cc) (some (.int .i64 (l : Int))) none none).run Tryd.prog W = .ok (.slice (some ⟨b, j + l, none⟩) (m - l) (cc - l)) W := fun W => by
  have ht' : Tryd.prog.underlying 22 = some (.slice (Tryd.prog.elem 22)) := by simp [Program.elem, Tryd.underlying22]
  have he : Tryd.prog.elem 22 = 5 := by simp [Program.elem, Tryd.underlying22]
  obtain ⟨i0, hi, hz0, hz1, hz2⟩ := info_parts infoByte
  rw [run_slice_l W 22 _ _ _ ht' .i64 l (by omega) (by omega), he]
  have e : ¬ cc = l := by omega
  by_cases h0 : l = 0
  · subst h0; simp [sizeOf, typeInfo, hi, sliced, Addr.add]
  · simp [sizeOf, typeInfo, hi, hz1, sliced, Addr.add, h0, e]
end Go.Proofs.YthjapmdikbmmkaaDoor
namespace Go.Proofs.YthjapmdikbmmkaaDoor
open Go Go.Conc Go.RowKit
set_option maxRecDepth 100000
theorem noFOp (tmps : Array Value) : ∀ t, alsS.f bOp.fn t = true → FnV alsS (tmps.getD t undef) := fun t h => by simp [alsS, bOp] at h
def OpenOk (kn nn an bn : Nat) (KS NS AS BS : List Int) : Prop := (kn = 32 ∧ nn = 12 ∧ an ≤ 1500 ∧ 16 ≤ bn ∧ bn ≤ 1516) ∧ BS.drop (bn - 16) = stL KS NS AS (BS.take (bn - 16))
instance (kn nn an bn : Nat) (KS NS AS BS : List Int) : Decidable (OpenOk kn nn an bn KS NS AS BS) := by unfold OpenOk; infer_instance
def openN (kn nn an bn : Nat) (KS NS AS BS : List Int) : Nat := if OpenOk kn nn an bn KS NS AS BS then bn - 16 else 0
def openB (kn nn an bn : Nat) (KS NS AS BS : List Int) : Bool := decide (OpenOk kn nn an bn KS NS AS BS)
def openX (kn nn an bn : Nat) (KS NS AS BS : List Int) : List Int := if OpenOk kn nn an bn KS NS AS BS then strT KS 1 NS (BS.take (bn - 16)) else []
theorem BytesT.keep {w w1 : World} {p : Option Addr} {n c : Nat} {xs : List Int} (h : BytesT w p n c xs) (b : Below w.heap.size w w1) : BytesT w1 p n c xs := h.keeps b.block
theorem BytesT.upto {w : World} {p : Option Addr} {n c m : Nat} {xs : List Int} (h : BytesT w p n c xs) (hm : m ≤ n) : BytesT w p m c (xs.take m) := ⟨by rw [List.length_take, h.len]; omega, Nat.le_trans hm h.cap, fun x hx => h.low x (List.mem_of_mem_take hx), fun h0 => by
  obtain ⟨b, o, e, hc⟩ := h.lies (Nat.lt_of_lt_of_le h0 hm)
  refine ⟨b, o, e, fun j u hj => hc j u ?_⟩
  rw [List.getElem?_take] at hj
  split at hj
  · exact hj
  · cases hj⟩
theorem BytesT.ret {w : World} {p : Option Addr} {n c : Nat} {xs : List Int} (h : BytesT w p n c xs) (θ : Nat → Question → Nat) : BytesT (World.ret w θ) p n c xs := ⟨h.len, h.cap, h.low, h.lies⟩
theorem Gr.ret {C : Array Value} {e : TypeId} {w : World} (h : Gr C e w) (θ : Nat → Question → Nat) : Gr C e (World.ret w θ) := ⟨h.tab, h.flat, h.pl, h.cells⟩
theorem Gr.places {C : Array Value} {e : TypeId} {w : World} (h : Gr C e w) : PlacesIs w := by
  obtain ⟨lo, hi, h1, h2⟩ := h.tab
  intro j v hv
  simp only [World.cell?, h1, Option.isSome_none, Bool.false_eq_true, if_false, Nat.zero_add]
  exact h.pl j v hv
theorem BCalls.truth {Al : Als} (T : TameA Tryd.prog Al) {f : FuncId} {x : Array Value} {v : Value} {w : World} (hf : Al f = true) (hb : Al.b f = false) (hx : ∀ t, t < x.size → t < 200 → Al.f f t = false)
    (hC : ∀ θ w1, Below (World.ret w θ).heap.size (World.ret w θ) w1 → Calls Tryd.prog f x w1 fun e w2 => e = .returned v ∧ Below w1.heap.size w1 w2) : BCalls Tryd.prog f x w fun u w2 => u = v ∧ Below w.heap.size w w2 :=
  BCalls.lone T hf hb hx fun θ w1 h1 => (hC θ w1 h1).mono fun _ _ ⟨h2, h3⟩ => ⟨_, h2, fun _ l t => ⟨rfl, l.below (θ := θ) t (below_on h1 h3)⟩⟩
theorem same_dec {xs ys : List Int} (hx : ∀ x ∈ xs, 0 ≤ x ∧ x < 256) (hy : ∀ x ∈ ys, 0 ≤ x ∧ x < 256) : ((strOfNums xs).toList == (strOfNums ys).toList) = decide (xs = ys) := by
  rw [ByteArray.toList_eq, ByteArray.toList_eq]
  by_cases h : xs = ys
  · rw [decide_eq_true h, h]
    simp
  · rw [decide_eq_false h]
    exact beq_eq_false_iff_ne.2 fun e => h ((text_eq hx hy).1 e)
theorem two_below {n : Nat} {w w1 : World} {x y : Obj} (h : Below n w w1) (hn : n ≤ w1.heap.size) : Below n w ((w1.alloc x).alloc y) := (h.alloc hn _).alloc (by
  show n ≤ (w1.heap.push x).size
  rw [Array.size_push]
  omega) _
theorem two_alloc {w1 w2 : World} {x y : Obj} (h : Like ((w1.alloc x).alloc y) w2) : w2.heap[w1.heap.size]? = some x ∧ w2.heap[w1.heap.size + 1]? = some y := by
  obtain ⟨τ, d, h⟩ := h
  have hh : w2.heap = (w1.heap.push x).push y := (congrArg World.heap h).symm
  rw [hh]
  constructor
  · rw [Array.getElem?_push_lt (by simp)]
    simp
  · have : w1.heap.size + 1 = (w1.heap.push x).size := by simp
    rw [this, Array.getElem?_push_size]
theorem cell_on {w w1 : World} {g : Nat} {o : Obj} (h : w.heap[g]? = some o) (b : Below w.heap.size w w1) : w1.heap[g]? = some o := (b.block g (Array.getElem?_eq_some_iff.1 h).1).trans h
set_option maxHeartbeats 4000000 in
theorem implOpen_b (kp np ap bp : Option Addr) (kn kc nn nc an ac bn bc : Nat) (KS NS AS BS : List Int) (C : Array Value) (e : TypeId) (w : World) (hg : Gr C e w) (hK : BytesT w kp kn kc KS) (hN : BytesT w np nn nc NS) (hA : BytesT w ap an ac AS) (hB : BytesT w bp bn bc BS) (hbn : bn ≤ 1048576) :
    BCalls Tryd.prog 11 #[.slice kp kn kc, .slice np nn nc, .slice ap an ac, .slice bp bn bc] w fun v w2 => ∃ p c, v = .tuple #[.slice p (openN kn nn an bn KS NS AS BS) c, .bool (openB kn nn an bn KS NS AS BS)] ∧ Own 5 w2 w.heap.size w2.heap.size (.slice p (openN kn nn an bn KS NS AS BS) c) (openN kn nn an bn KS NS AS BS) (openX kn nn an bn KS NS AS BS) ∧ Below w.heap.size w w2 := fun Q c cs next => by
  have no : ¬ OpenOk kn nn an bn KS NS AS BS → ∀ w2, Below w.heap.size w w2 → BesB Tryd.prog Q (G (c.finish (.tuple #[.slice none 0 0, .bool false])) cs) w2 := fun h w2 hb => by
    refine next _ w2 ⟨none, 0, ?_, ?_, hb⟩
    · simp only [openN, openB, if_neg h, decide_eq_false h]
    · simp only [openN, openX, if_neg h]
      exact .of (World.ownsRow_nil w2 _ 5 1)
  have yes : OpenOk kn nn an bn KS NS AS BS → ∀ τ w2, Below w.heap.size w w2 → w.heap.size ≤ τ → w2.heap[τ]? = some (.cells ((strT KS 1 NS (BS.take (bn - 16))).map (Value.int .u8)).toArray 5 (0, 0)) → BesB Tryd.prog Q (G (c.finish (.tuple #[.slice (some ⟨τ, 0, none⟩) (bn - 16) (bn - 16), .bool true])) cs) w2 := fun h τ w2 hb hτ hc => by
    refine next _ w2 ⟨some ⟨τ, 0, none⟩, bn - 16, ?_, ?_, hb⟩
    · simp only [openN, openB, if_pos h, decide_eq_true h]
    · simp only [openN, openX, if_pos h]
      have hl : (strT KS 1 NS (BS.take (bn - 16))).length = bn - 16 := by
        rw [strT_length, List.length_take, hB.len]
        omega
      refine Own.low (.of (row_owns (by rw [Nat.sub_self]; simpa [zerV] using hc) (Nat.le_refl _) (by unfold maxLen; omega) hl)) hτ
  clear next
  have gR : Tryd.prog.globals.size ≤ w.heap.size := cells_le hg.cells
  rw [enter_Op]
  simp only [bodyOp, Tryd.f11, Option.getD_some]
  walk_nrm
  have k0 : Below w.heap.size w w := .refl _ _
  refine BesB.seq fun KK hKK => ?_
  refine BesB.code tameAS rfl rfl (by kernel_rfl) (noFOp _) fun K hK θ w1 b1 => ?_
  go_wp2_with (fail)
  intro w2 e2 t2
  obtain ⟨R, hRe⟩ : ∃ R, R = w1.heap.size := ⟨_, rfl⟩
  obtain ⟨O, hOe⟩ : ∃ O, O = w1.heap.size + 1 := ⟨_, rfl⟩
  have k2 : Below w.heap.size w w2 := e2.below t2 (two_below b1 b1.size)
  obtain ⟨hR, hO⟩ := two_alloc e2
  rw [← hOe] at hO
  rw [← hRe] at hR
  have zR : w.heap.size ≤ R := by rw [hRe]; exact b1.size
  have zRO : R < O := by omega
  rw [← hOe, ← hRe]
  clear hRe hOe e2 t2 b1
  replace hg := hg.on k2
  replace hK := hK.keep k2
  replace hN := hN.keep k2
  replace hA := hA.keep k2
  replace hB := hB.keep k2
  refine hKK _ _ ?_
  clear hKK KK k0
  refine BesB.seq fun KK hKK => ?_
  refine BesB.ctlG (fun _ => stepG_region) ?_
  refine BesB.value (v := .func (.func 32) #[] #[.pointer (some ⟨R, 0, none⟩), .pointer (some ⟨O, 0, none⟩)]) rfl rfl (by decide) (fun _ => by simp [go_sem, execOp, Act.eval, Instr.makeFunc]) (fun _ => by first | rfl | kernel_rfl | simp [go_sem, execOp, Act.eval, Instr.makeFunc]) ?_
  walk_nrm
  refine BesB.ctlG (fun _ => stepG_deferV (f := 32) (cap := #[.pointer (some ⟨R, 0, none⟩), .pointer (some ⟨O, 0, none⟩)]) rfl rfl (by decide) rfl rfl) ?_
  walk_nrm
  refine BesB.ctlG (fun _ => stepG_region_end) ?_
  refine hKK _ _ ?_
  clear hKK KK
  have hbn' : (bn : Int) ≤ 1048576 := by omega
  refine BesB.seq fun KK hKK => ?_
  refine BesB.code tameAS rfl rfl (by kernel_rfl) (noFOp _) fun K hK0 θ3 w3 b3 => ?_
  go_wp2_with (fail)
  intro w4 e4 t4
  have d4 : Below w2.heap.size w2 w4 := e4.below t4 b3
  have k4 := below_on k2 d4
  clear e4 t4 b3
  replace hg := hg.on d4
  replace hK := hK.keep d4
  replace hN := hN.keep d4
  replace hA := hA.keep d4
  replace hB := hB.keep d4
  replace hR := cell_on hR d4
  replace hO := cell_on hO d4
  refine hKK _ _ ?_
  clear hKK KK
  refine BesB.seq fun KK hKK => ?_
  refine BesB.ctlG (fun _ => stepG_region) ?_
  refine BesB.value (v := .slice kp kn kc) rfl rfl (by decide) (fun _ => by simp [go_sem, execOp, Act.eval]) (fun _ => by simp [go_sem, execOp, Act.eval]) ?_
  walk_nrm
  refine BesB.value (v := .slice np nn nc) rfl rfl (by decide) (fun _ => by simp [go_sem, execOp, Act.eval]) (fun _ => by simp [go_sem, execOp, Act.eval]) ?_
  walk_nrm
  refine BesB.value (v := .slice ap an ac) rfl rfl (by decide) (fun _ => by simp [go_sem, execOp, Act.eval]) (fun _ => by simp [go_sem, execOp, Act.eval]) ?_
  walk_nrm
  refine BesB.value (v := .int .i64 ((bn : Int) - 16)) rfl rfl (by decide) (fun _ => by simp [go_sem, execOp, Act.eval]) (fun _ => by simp [go_sem, execOp, Act.eval]) ?_
  walk_nrm
  refine BesB.call rfl rfl (by decide) rfl Tryd.func25 (by kernel_rfl) (by kernel_rfl) ?_
  walk_nrm
  refine sizes_b kp np ap kn kc nn nc an ac _ _ _ rfl (fun hok => ?_) (fun hno s => ?_)
  rotate_left
  · refine refuse_b _ _ R O s false c cs rfl rfl hR hO (by omega) (by omega) (by omega) fun w5 hb5 => no (fun h => hno ?_) w5 (hb5.below k4 zR (by omega))
    obtain ⟨h1, h2, h3, h4, h5⟩ := h.1
    exact ⟨h1, h2, h3, by omega, by omega⟩
  rw [Frame.finish_at]
  walk_nrm
  refine BesB.ctlG (fun _ => stepG_region_end) ?_
  refine hKK _ _ ?_
  clear hKK KK
  obtain ⟨rfl, rfl, han, hlo, hhi⟩ := hok
  obtain ⟨m, rfl⟩ : ∃ m, bn = m + 16 := ⟨bn - 16, by omega⟩
  have hm0 : ((m + 16 : Nat) : Int) - 16 = (m : Int) := by omega
  rw [hm0]
  have hm : m ≤ 1500 := by omega
  have hm1 : m + 16 - 16 = m := by omega
  have hmc : m + 16 ≤ bc := hB.cap
  obtain ⟨b0, o0, rfl, hBc⟩ := hB.lies (by omega)
  have s1 := cut_to b0 o0 (m + 16) bc m (by omega)
  have s2 := cut_from b0 o0 (m + 16) bc m (by omega) (by omega)
  rw [show m + 16 - m = 16 by omega] at s2
  refine BesB.seq fun KK hKK => ?_
  refine BesB.code tameAS rfl rfl (by kernel_rfl) (noFOp _) fun K hK0 θ5 w5 b5 => ?_
  go_wp2_with (fail)
  go_region
  go_wp2_with (fail)
  intro w6 e6 t6
  have d6 : Below w4.heap.size w4 w6 := e6.below t6 (by first | exact b5 | exact b5.drew | exact b5.drew.drew)
  have k6 := below_on k4 d6
  clear e6 t6 b5
  replace hg := hg.on d6
  replace hK := hK.keep d6
  replace hN := hN.keep d6
  replace hA := hA.keep d6
  replace hB := hB.keep d6
  replace hR := cell_on hR d6
  replace hO := cell_on hO d6
  refine hKK _ _ ?_
  clear hKK KK s1 s2
  have hT := hB.upto (m := m) (by omega)
  have hle : ttN an m ≤ 4000 := by
    have := fillN_lt an
    have := fillN_lt m
    unfold ttN
    omega
  have h16 : tagN 32 (ttN an m) = 16 := if_pos ⟨rfl, hle⟩
  have CT : BCalls Tryd.prog 28 #[.slice kp 32 kc, .slice np 12 nc, .slice ap an ac, .slice (some ⟨b0, o0, none⟩) m bc] w6 fun v w2 => ∃ p c, v = .slice p 16 c ∧ Own 5 w2 w6.heap.size w2.heap.size (.slice p 16 c) 16 (stL KS NS AS (BS.take m)) ∧ Below w6.heap.size w6 w2 :=
    BCalls.row tameAS (by decide) (by decide) (by intro t _ _; simp [alsS]) fun θ X bX => by
      have := sealTag_any kp np ap (some ⟨b0, o0, none⟩) kc nc an ac m bc KS NS AS (BS.take m) X hK.len hN.len hA.len hT.len (by omega) (by omega) ((hK.ret θ).keep bX).into ((hN.ret θ).keep bX).into ((hA.ret θ).keep bX).into ((hT.ret θ).keep bX).into hK.low hN.low hA.low hT.low hK.cap hN.cap (hg.ret θ |>.on bX).places
      rw [h16] at this
      exact this
  refine BesB.seq fun KK hKK => ?_
  refine BesB.ctlG (fun _ => stepG_region) ?_
  refine BesB.value (v := .slice (some ⟨b0, o0 + m, none⟩) 16 (bc - m)) rfl rfl (by decide) (fun _ => by simp [go_sem, execOp, Act.eval]) (fun _ => by simp [go_sem, execOp, Act.eval]) ?_
  walk_nrm
  refine BesB.value (v := .slice kp 32 kc) rfl rfl (by decide) (fun _ => by simp [go_sem, execOp, Act.eval]) (fun _ => by simp [go_sem, execOp, Act.eval]) ?_
  walk_nrm
  refine BesB.value (v := .slice np 12 nc) rfl rfl (by decide) (fun _ => by simp [go_sem, execOp, Act.eval]) (fun _ => by simp [go_sem, execOp, Act.eval]) ?_
  walk_nrm
  refine BesB.value (v := .slice ap an ac) rfl rfl (by decide) (fun _ => by simp [go_sem, execOp, Act.eval]) (fun _ => by simp [go_sem, execOp, Act.eval]) ?_
  walk_nrm
  refine BesB.value (v := .slice (some ⟨b0, o0, none⟩) m bc) rfl rfl (by decide) (fun _ => by simp [go_sem, execOp, Act.eval]) (fun _ => by simp [go_sem, execOp, Act.eval]) ?_
  walk_nrm
  refine BesB.call rfl rfl (by decide) rfl Tryd.func28 (by kernel_rfl) (by kernel_rfl) ?_
  walk_nrm
  refine CT _ _ _ fun v w7 hv => ?_
  obtain ⟨p7, c7, rfl, r7, d7⟩ := hv
  clear CT
  have k7 := below_on k6 d7
  replace hg := hg.on d7
  replace hK := hK.keep d7
  replace hN := hN.keep d7
  replace hA := hA.keep d7
  replace hB := hB.keep d7
  replace hR := cell_on hR d7
  replace hO := cell_on hO d7
  rw [Frame.finish_at]
  walk_nrm
  refine BesB.call rfl rfl (by decide) rfl Tryd.func14 (by kernel_rfl) (by kernel_rfl) ?_
  walk_nrm
  have CS : BCalls Tryd.prog 14 #[.slice (some ⟨b0, o0 + m, none⟩) 16 (bc - m), .slice p7 16 c7] w7 fun v w2 => v = .bool (decide (BS.drop m = stL KS NS AS (BS.take m))) ∧ Below w7.heap.size w7 w2 :=
    BCalls.truth tameAS (by decide) (by decide) (by intro t _ _; simp [alsS]) fun θ X bX => by
    have := implSame_any (some ⟨b0, o0 + m, none⟩) p7 16 16 (bc - m) c7 (BS.drop m) (stL KS NS AS (BS.take m)) X (by rw [List.length_drop, hB.len]; omega) r7.len (in_below (in_ret (fun _ => ⟨b0, o0 + m, rfl, fun i hi => by
      have hi' : m + i < BS.length := by rw [hB.len]; omega
      obtain ⟨b1, o1, e1, hc1⟩ := hB.lies (by omega)
      obtain ⟨rfl, rfl⟩ : b0 = b1 ∧ o0 = o1 := by simpa using e1
      have := hc1 (m + i) BS[m + i] (List.getElem?_eq_getElem hi')
      rw [List.getD_eq_getElem?_getD, List.getElem?_drop, List.getElem?_eq_getElem hi', Nat.add_assoc]
      exact this⟩) θ) bX) (in_below (in_ret r7.bytes θ) bX)
    rw [same_dec (fun x hx => hB.low x (List.mem_of_mem_drop hx)) (show ∀ x ∈ stL KS NS AS (BS.take m), 0 ≤ x ∧ x < 256 from tagL_byte _ _)] at this
    exact this
  refine CS _ _ _ fun v w8 hv => ?_
  obtain ⟨rfl, d8⟩ := hv
  clear CS
  have k8 := below_on k7 d8
  replace hg := hg.on d8
  replace hK := hK.keep d8
  replace hN := hN.keep d8
  replace hA := hA.keep d8
  replace hB := hB.keep d8
  replace hR := cell_on hR d8
  replace hO := cell_on hO d8
  rw [Frame.finish_at]
  walk_nrm
  refine BesB.call rfl rfl (by decide) rfl Tryd.func33 (by kernel_rfl) (by kernel_rfl) ?_
  walk_nrm
  refine want_b _ _ _ _ rfl (fun ht => ?_) (fun ht => ?_)
  rotate_left
  · refine refuse_b _ _ R O _ false c cs rfl rfl hR hO (by omega) (by omega) (by omega) fun w5 hb5 => no (fun h => of_decide_eq_false ht ?_) w5 (hb5.below k8 zR (by omega))
    have := h.2
    rwa [hm1] at this
  have hTag := of_decide_eq_true ht
  rw [Frame.finish_at]
  walk_nrm
  refine BesB.ctlG (fun _ => stepG_region_end) ?_
  refine hKK _ _ ?_
  clear hKK KK
  refine BesB.seq fun KK hKK => ?_
  refine BesB.ctlG (fun _ => stepG_region) ?_
  refine BesB.value (v := .slice kp 32 kc) rfl rfl (by decide) (fun _ => by simp [go_sem, execOp, Act.eval]) (fun _ => by simp [go_sem, execOp, Act.eval]) ?_
  walk_nrm
  refine BesB.value (v := .slice np 12 nc) rfl rfl (by decide) (fun _ => by simp [go_sem, execOp, Act.eval]) (fun _ => by simp [go_sem, execOp, Act.eval]) ?_
  walk_nrm
  refine BesB.value (v := .slice (some ⟨b0, o0, none⟩) m bc) rfl rfl (by decide) (fun _ => by simp [go_sem, execOp, Act.eval]) (fun _ => by simp [go_sem, execOp, Act.eval]) ?_
  walk_nrm
  refine BesB.call rfl rfl (by decide) rfl Tryd.func26 (by kernel_rfl) (by kernel_rfl) ?_
  walk_nrm
  refine stream_b kp np (some ⟨b0, o0, none⟩) 32 kc 12 nc m bc 1 KS NS (BS.take m) _ _ C e hg hK hN (hB.upto (by omega)) (by decide) ⟨rfl, rfl, by omega, by omega, by omega⟩ fun τ w9 d9 hτ hc => ?_
  rw [Frame.finish_at]
  walk_nrm
  have k9 := below_on k8 d9
  have lR := (Array.getElem?_eq_some_iff.1 hR).1
  have lO := (Array.getElem?_eq_some_iff.1 hO).1
  replace hR := cell_on hR d9
  replace hO := cell_on hO d9
  have hflat : ∀ v ∈ ((strT KS 1 NS (BS.take m)).map (Value.int .u8)).toArray, flatC v = true := fun v hv => by
    obtain ⟨x, _, rfl⟩ := List.mem_map.1 (List.mem_toArray.1 hv)
    rfl
  refine storeRow_b (β := R) (γ := τ) rfl rfl (by decide) rfl rfl rfl hR hc hflat (by omega) (by kernel_rfl) fun w10 hR10 d10 => ?_
  walk_nrm
  have k10 := d10.below k9 zR zR
  have zs := d9.size
  have hO10 : w10.heap[O]? = some (.cells #[.bool false] 4 (0, 0)) := (d10.heap O (by omega) (by omega) (by omega)).trans hO
  have lτ := (Array.getElem?_eq_some_iff.1 hc).1
  have hc10 := (d10.heap τ lτ (by omega) (by omega)).trans hc
  have lR10 := (Array.getElem?_eq_some_iff.1 hR10).1
  have lτ10 := (Array.getElem?_eq_some_iff.1 hc10).1
  refine storeBool_b (β := O) (z := false) (v := true) rfl rfl (by decide) rfl rfl rfl hO10 (by omega) (by kernel_rfl) fun w11 hO11 d11 => ?_
  walk_nrm
  have k11 := d11.below k10 (by omega) (by omega)
  have hR11 := (d11.heap R lR10 (by omega) (by omega)).trans hR10
  have hc11 := (d11.heap τ lτ10 (by omega) (by omega)).trans hc10
  refine BesB.ctlG (fun _ => stepG_region_end) ?_
  refine hKK _ _ ?_
  clear hKK KK
  refine BesB.ctlG (fun _ => stepG_ret') ?_
  refine return_b _ _ R O τ m m true _ _ _ c cs rfl rfl hR11 hO11 hc11 hflat ?_
  have hyes := yes ⟨⟨rfl, rfl, han, by omega, by omega⟩, by rw [hm1]; exact hTag⟩ τ w11 k11 (Nat.le_trans k8.size hτ) (by rw [hm1]; exact hc11)
  rw [hm1] at hyes
  exact hyes
end Go.Proofs.YthjapmdikbmmkaaDoor
