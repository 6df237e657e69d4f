/-
  A part of the proof.
-/
import Derived.Test.YtnpffnhiefgglaaGreatDoorParw09
import Derived.Conc.Own3
import Derived.Conc.Own4
import Derived.Test.YtnpffnhiefgglaaGreatDoorParw06
import Derived.Test.YtnpffnhiefgglaaGreatDoorChecked
import Derived.Conc.DeferLaws
import Derived.Conc.Own5
import Derived.Conc.WalkWords
import Derived.KernelRfl
namespace Go.Proofs.YtnpffnhiefgglaaGreatDoor
open Go Go.Conc Go.RowKit
set_option maxRecDepth 100000
theorem cells_keeps {n : Nat} {w w1 : World} (h : CellsTo n w) (hl : ∀ b, b < w.heap.size → w1.heap[b]? = w.heap[b]?) : CellsTo n w1 := fun b hb => by
  obtain ⟨o, h1, h2⟩ := h b hb
  exact ⟨o, (hl b (Array.getElem?_eq_some_iff.1 h1).1).trans h1, h2⟩
abbrev Lay (w w1 : World) : Prop := Keeps (fun b => b < w.heap.size) w w1
theorem Lay.on {a b c : World} (h : Lay a b) (k : Lay b c) : Lay a c := ⟨fun i hi => (k.heap i (Nat.lt_of_lt_of_le hi h.size)).trans (h.heap i hi), Nat.le_trans h.size k.size, k.os.trans h.os, k.output.trans h.output, k.tape.trans h.tape⟩
def BesB (P : Program) (Q : Goroutine → World → Prop) (g : Goroutine) (w : World) : Prop := ∀ w1, CellsTo P.globals.size w1 → Below w.heap.size w w1 → Bes P Q g w1
theorem Lay.below {w w1 : World} (h : Lay w w1) : Below w.heap.size w w1 := ⟨h.os, h.tape, h.output, h.size, h.heap⟩
theorem below_lay {w w1 : World} (h : Below w.heap.size w w1) : Lay w w1 := ⟨h.block, h.size, h.os, h.output, h.tape⟩
def Like (w w1 : World) : Prop := ∃ τ d, w = atw w1 τ d
theorem Like.below {n : Nat} {w w1 W : World} {θ : Nat → Question → Nat} (e : Like w w1) (t : w1.tape = W.tape) (h : Below n (World.ret W θ) w) : Below n W w1 := by
  obtain ⟨τ, d, rfl⟩ := e
  exact ⟨h.os, t, h.output, h.size, h.block⟩
theorem Like.size {w w1 : World} (e : Like w w1) : w.heap.size ≤ w1.heap.size := by
  obtain ⟨τ, d, rfl⟩ := e
  exact Nat.le_refl _
theorem below_ret {n : Nat} {w w1 : World} (h : Below n w w1) (θ : Nat → Question → Nat) : Below n (World.ret w θ) (World.ret w1 θ) := ⟨h.os, rfl, h.output, h.size, h.block⟩
theorem below_onr {a w w1 : World} (h : Below a.heap.size a w) (θ : Nat → Question → Nat) (k : Below (World.ret w θ).heap.size (World.ret w θ) w1) : Below (World.ret a θ).heap.size (World.ret a θ) w1 := below_on (below_ret h θ) k
theorem Own.ret {e : Nat} {w : World} {lo hi : Nat} {v : Value} {n : Nat} {xs : List Int} (h : Own e w lo hi v n xs) (θ : Nat → Question → Nat) : Own e (World.ret w θ) lo hi v n xs := h
theorem Own.like {e : Nat} {w w1 : World} {lo hi : Nat} {v : Value} {n : Nat} {xs : List Int} (h : Own e w lo hi v n xs) (l : Like w w1) : Own e w1 lo hi v n xs := by
  obtain ⟨τ, d, rfl⟩ := l
  exact h
theorem in_ret {w : World} {p : Option Addr} {n : Nat} {xs : List Int} (h : BytesIn w p n xs) (θ : Nat → Question → Nat) : BytesIn (World.ret w θ) p n xs := h
section
variable {P : Program} {Q : Goroutine → World → Prop} {g g' : Goroutine} {fr : Frame} {cs : List Frame} {w : World}
theorem BesB.here (h : BesB P Q g w) (hG : CellsTo P.globals.size w) : Bes P Q g w := h w hG (.refl _ _)
theorem BesB.on {w1 : World} (h : BesB P Q g w) (hl : Below w.heap.size w w1) : BesB P Q g w1 := fun w2 hG h2 => h w2 hG (below_on hl h2)
theorem BesB.ctlG (hs : ∀ w1, stepG P true (G fr cs) w1 = .go g' w1 #[]) (h : BesB P Q g' w) : BesB P Q (G fr cs) w := fun w1 hG hl =>
  (Bes.of_co (Sh := fun _ => False) (M := fun b => b < w1.heap.size) (Stop := fun _ g2 w2 => Lay w1 w2 ∧ g2 = g') (Co.ctl rfl hs (.stop fun w2 hk => ⟨hk, rfl⟩)) (fun b h => h) fun _ _ _ h _ => h).bind fun g w2 ⟨hl2, e⟩ => by
    subst e
    exact h w2 (cells_keeps hG hl2.heap) (below_on hl hl2.below)
theorem BesB.value {b : Frame} {a : Act} {k : List Item} {ops : Array Oper} {i : Nat} {rest : List Nat} {o : Oper} {v : Value} (ho : ops[i]? = some o) (hw : Region.wanted o (yielded ops a.tmps) = true) (hk : b.kind ≠ .early)
    (hr : ∀ w, (execOp a.eval o).run P w = .ok (.value v) w) (he : ∀ w, (execOp a.eval o).events P w #[] = #[]) (h : BesB P Q (G (b.at (a.put o.dst v) (.inRegion ops rest :: k)) cs) w) : BesB P Q (G (b.at a (.inRegion ops (i :: rest) :: k)) cs) w :=
  .ctlG (fun w1 => by rw [stepG_value ho hw hk (hr w1)]; unfold listed; rw [he w1, seen_none]) h
theorem BesB.call {b : Frame} {a : Act} {k : List Item} {ops : Array Oper} {i : Nat} {rest : List Nat} {o : Oper} {f : FuncId} {fn : Func} {args : Array Operand} {ats : Array TypeId} (ho : ops[i]? = some o) (hw : Region.wanted o (yielded ops a.tmps) = true) (hk : b.kind ≠ .early) (hop : o.op = .call { callee := .value (.func f), args, argTypes := ats })
    (hf : P.funcs[f]? = some fn) (hname : (fn.name == "runtime.NumGoroutine") = false) (hb : fn.body.isNone = false) (h : BesB P Q (G (Frame.enter P f (args.map a.eval) .normal) (b.at a (.inRegion ops (i :: rest) :: k) :: cs)) w) : BesB P Q (G (b.at a (.inRegion ops (i :: rest) :: k)) cs) w := by
  refine .ctlG (fun w1 => ?_) h
  rw [stepG_enter ho hw hk (run_call_body hop hf hname hb)]
  have : listed P b.fn a o w1 = #[] := by unfold listed; rw [events_call_body hop hf hname hb]; exact seen_none P _
  rw [this]
theorem BesB.cond {b : Frame} {a : Act} {k : List Item} {c : Operand} {x y : Code} (t : Bool) (h : a.eval c = .bool t) (hn : BesB P Q (G (b.at a (.code (if t then x else y) :: k)) cs) w) : BesB P Q (G (b.at a (.code (.cond c x y) :: k)) cs) w :=
  .ctlG (fun _ => stepG_cond h) hn
theorem BesB.seq {b : Frame} {a : Act} {k : List Item} {x y : Code} (h : ∀ KK : List Item, (∀ a w, BesB P Q (G (b.at a (.code y :: k)) cs) w → BesB P Q (G (b.at a KK) cs) w) → BesB P Q (G (b.at a (.code x :: KK)) cs) w) : BesB P Q (G (b.at a (.code (.seq x y) :: k)) cs) w :=
  .ctlG (fun _ => stepG_seq) (h _ fun _ _ h => h)
theorem BesB.code {Al : Als} (T : TameA P Al) {b : Frame} {a : Act} {c : Code} {k : List Item} (hf : Al b.fn = true) (hk : b.kind = .normal) (hc : okCodeT P Al (Al.f b.fn) c = true) (hx : ∀ t, Al.f b.fn t = true → FnV Al (a.tmps.getD t undef))
    (h : ∀ K : Act → World → Prop, (∀ a' w2, (∀ w3, Like w2 w3 → w3.tape = w.tape → BesB P Q (G (b.at { a' with defers := a.defers } k) cs) w3) → K a' w2) → ∀ θ w1, Below (World.ret w θ).heap.size (World.ret w θ) w1 → c.wp P (Exit.then K fun _ _ _ => False) { a with defers := [] } w1) :
    BesB P Q (G (b.at a (.code c :: k)) cs) w := fun w1 hG hb =>
  (Bes.code (K := fun a' w2 => ∀ w3, Like w2 w3 → w3.tape = w.tape → BesB P Q (G (b.at { a' with defers := a.defers } k) cs) w3) T hf hk hc hx hG fun τ => wp_mono (h _ (fun _ _ h => h) τ (World.ret w1 τ) ⟨hb.os, rfl, hb.output, hb.size, hb.block⟩) fun e a' w2 h2 => by
    cases e with
    | normal => exact ⟨rfl, h2⟩
    | _ => exact h2.elim).bind fun g w3 ⟨a', τ, d, e, hK, hG3, _, ht⟩ => by
    subst e
    exact hK w3 ⟨τ, d, rfl⟩ (ht.trans hb.tape) w3 hG3 (.refl _ _)
def BCalls (P : Program) (f : FuncId) (x : Array Value) (w : World) (R : Value → World → Prop) : Prop :=
  ∀ (Q : Goroutine → World → Prop) (fr : Frame) (cs : List Frame), (∀ v w2, R v w2 → BesB P Q (G (fr.finish v) cs) w2) → BesB P Q (G (Frame.enter P f x .normal) (fr :: cs)) w
theorem BCalls.lone {Al : Als} (T : TameA P Al) {f : FuncId} {x : Array Value} {R : Value → World → Prop} (hf : Al f = true) (hb : Al.b f = false) (hx : ∀ t, t < x.size → t < 200 → Al.f f t = false)
    (hC : ∀ θ w1, Below (World.ret w θ).heap.size (World.ret w θ) w1 → Calls P f x w1 fun e w2 => ∃ v, e = .returned v ∧ ∀ w3, Like w2 w3 → w3.tape = w.tape → R v w3) : BCalls P f x w R := fun Q fr cs h w1 hG hl =>
  (Bes.lone (Post := fun v w2 => ∀ w3, Like w2 w3 → w3.tape = w.tape → R v w3) T hf hb hx hG fun τ => hC τ (World.ret w1 τ) ⟨hl.os, rfl, hl.output, hl.size, hl.block⟩).bind fun g w3 ⟨v, τ, d, e, hp, hG3, _, ht⟩ => by
    subst e
    exact h v w3 (hp w3 ⟨τ, d, rfl⟩ (ht.trans hl.tape)) w3 hG3 (.refl _ _)
end
end Go.Proofs.YtnpffnhiefgglaaGreatDoor
namespace Go.Proofs.YtnpffnhiefgglaaGreatDoor
open Go Go.Conc
set_option maxRecDepth 100000
def glS : Globs := ⟨fun g => g == 1, fun _ _ => false⟩
def alS (f : Nat) : Bool := [144, 193, 213, 227, 194, 84, 57, 85, 214, 109].contains f
theorem tame_one {P : Program} {Gl : Globs} {Al : Nat → Bool} {f : Nat} {fn : Func} (h : P.funcs[f]? = some fn) (hc : (match fn.body with | some b => okCode P Gl Al b | none => false) = true) (hn : (fn.name == "runtime.NumGoroutine") = false) : ∃ fn body, P.funcs[f]? = some fn ∧ (fn.name == "runtime.NumGoroutine") = false ∧ fn.body = some body ∧ okCode P Gl Al body = true := by
  cases hb : fn.body with
  | none => rw [hb] at hc; cases hc
  | some b => rw [hb] at hc; exact ⟨fn, b, h, hn, hb, hc⟩
theorem tameS : TameP Tryz.prog glS alS := by
  refine ⟨fun f hf => ?_, fun _ _ => rfl⟩
  simp only [alS, List.contains_cons, List.contains_nil, Bool.or_false, Bool.or_eq_true, beq_iff_eq] at hf
  rcases hf with rfl | rfl | rfl | rfl | rfl | rfl | rfl | rfl | rfl | rfl
  · exact tame_one Tryz.func144 (by kernel_rfl) (by kernel_rfl)
  · exact tame_one Tryz.func193 (by kernel_rfl) (by kernel_rfl)
  · exact tame_one Tryz.func213 (by kernel_rfl) (by kernel_rfl)
  · exact tame_one Tryz.func227 (by kernel_rfl) (by kernel_rfl)
  · exact tame_one Tryz.func194 (by kernel_rfl) (by kernel_rfl)
  · exact tame_one Tryz.func84 (by kernel_rfl) (by kernel_rfl)
  · exact tame_one Tryz.func57 (by kernel_rfl) (by kernel_rfl)
  · exact tame_one Tryz.func85 (by kernel_rfl) (by kernel_rfl)
  · exact tame_one Tryz.func214 (by kernel_rfl) (by kernel_rfl)
  · exact tame_one Tryz.func109 (by kernel_rfl) (by kernel_rfl)
def bK : Frame := { (default : Frame) with fn := 108, kind := .deferred }
noncomputable def bodyK : Code := Tryz.f108.body.getD .skip
noncomputable def LK : Code := match bodyK with | .seq _ (.seq _ (.seq _ (.block _ (.loop c)))) => c | _ => .skip
noncomputable def botK : Frame := { (default : Frame) with fn := Tryz.prog.funcs.size, defers := [], mode := .panicking [goexitEntry] }
def closeK (ch : Nat) : Deferred := { target := .builtin .close #[174] 0 #[false], args := #[.chan (some ch)] }
def callK (X : Array Value) (ch : Nat) (c m : Int) : Deferred := { target := .fn (.func 108) #[], args := #[.agg X, .chan (some ch), .int .i64 c, .int .i64 m] }
theorem born_K (X : Array Value) (ch : Nat) (c m : Int) (w : World) : stepG Tryz.prog false (born Tryz.prog (callK X ch c m)) w =
    .go (G (bK.at ⟨#[.agg X, .chan (some ch), .int .i64 c, .int .i64 m, undef, undef, undef, undef, undef, undef, undef, undef, undef, undef, undef, undef, undef, undef, undef, undef, undef], []⟩ [.code bodyK]) [botK]) w #[] := by
  simp [born, callK, stepG, unwind, callDeferred, invoke, callFunc, Tryz.func108, Tryz.f108, seen, GStep.after, G, Frame.enter, Frame.at, bK, botK, bodyK]
section
variable {Sh : Nat → Prop} {Stop : (Nat → Prop) → Goroutine → World → Prop} {M : Nat → Prop} {w : World}
theorem Co.ctlG {P : Program} {main : Bool} {fr : Frame} {cs : List Frame} {g' : Goroutine} (hs : ∀ w1, stepG P main (G fr cs) w1 = .go g' w1 #[]) (h : Co P main Sh Stop M g' w) : Co P main Sh Stop M (G fr cs) w := .ctl rfl hs h
theorem Co.value {P : Program} {main : Bool} {b : Frame} {a : Act} {k : List Item} {cs : List Frame} {ops : Array Oper} {i : Nat} {rest : List Nat} {o : Oper} {v : Value} (ho : ops[i]? = some o) (hw : Region.wanted o (yielded ops a.tmps) = true) (hk : b.kind ≠ .early)
    (hr : ∀ w, (execOp a.eval o).run P w = .ok (.value v) w) (he : ∀ w, (execOp a.eval o).events P w #[] = #[]) (h : Co P main Sh Stop M (G (b.at (a.put o.dst v) (.inRegion ops rest :: k)) cs) w) : Co P main Sh Stop M (G (b.at a (.inRegion ops (i :: rest) :: k)) cs) w :=
  .ctl rfl (fun w1 => by rw [stepG_value ho hw hk (hr w1)]; unfold listed; rw [he w1, seen_none]) h
theorem Co.box {P : Program} {main : Bool} {b : Frame} {a : Act} {k : List Item} {cs : List Frame} {ops : Array Oper} {i : Nat} {rest : List Nat} {o : Oper} {e : TypeId} {x : Operand} {X : Array Value} (ho : ops[i]? = some o) (hw : Region.wanted o (yielded ops a.tmps) = true) (hk : b.kind ≠ .early) (hop : o.op = .box e x) (hx : a.eval x = .agg X) (hM : ∀ b, M b → b < w.heap.size)
    (next : ∀ w1, Keeps M w w1 → Co P main Sh Stop (fun b => M b ∨ b = w1.heap.size) (G (b.at (a.put o.dst (.pointer (some ⟨w1.heap.size, 0, none⟩))) (.inRegion ops rest :: k)) cs) { w1 with heap := w1.heap.push (.cells X e) }) : Co P main Sh Stop M (G (b.at a (.inRegion ops (i :: rest) :: k)) cs) w := by
  have hr : ∀ w1, (execOp a.eval o).run P w1 = .ok (.value (.pointer (some ⟨w1.heap.size, 0, none⟩))) { w1 with heap := w1.heap.push (.cells X e) } := fun w1 => by
    unfold execOp
    rw [hop]
    simp [Instr.box, newVar, newRow, hx, Value.cells]
  have he : ∀ w1, (execOp a.eval o).events P w1 #[] = #[] := fun w1 => by
    unfold execOp
    rw [hop]
    simp [Instr.box, newVar, newRow]
  exact Co.alloc (g' := fun n => G (b.at (a.put o.dst (.pointer (some ⟨n, 0, none⟩))) (.inRegion ops rest :: k)) cs) rfl (fun w1 _ => ⟨#[], by rw [stepG_value ho hw hk (hr w1)]; unfold listed; rw [he w1, seen_none], by simp⟩) hM next
theorem Co.defer {P : Program} {main : Bool} {b : Frame} {a : Act} {k : List Item} {cs : List Frame} {ops : Array Oper} {i : Nat} {rest : List Nat} {o : Oper} {d : Deferred} (ho : ops[i]? = some o) (hw : Region.wanted o (yielded ops a.tmps) = true) (hk : b.kind ≠ .early)
    (hr : ∀ w, (execOp a.eval o).run P w = .ok (.defer d) w) (he : ∀ w, (execOp a.eval o).events P w #[] = #[]) (h : Co P main Sh Stop M (G (b.at (Act.put ⟨a.tmps, d :: a.defers⟩ o.dst undef) (.inRegion ops rest :: k)) cs) w) : Co P main Sh Stop M (G (b.at a (.inRegion ops (i :: rest) :: k)) cs) w := by
  refine .ctl rfl (fun w1 => ?_) h
  have hfin : (b.at ⟨a.tmps, d :: a.defers⟩ (.inRegion ops (i :: rest) :: k)).finish undef = b.at (Act.put ⟨a.tmps, d :: a.defers⟩ o.dst undef) (.inRegion ops rest :: k) := by rw [Frame.finish_at, ho]; rfl
  have hk' : (b.kind == CallKind.early) = false := by simpa using hk
  rw [stepG_oper ho hw, ← hfin]
  simp [stepG.apply, hr, he, G, Frame.at, hk', GStep.after, seen_none]
noncomputable def headK (X : Array Value) (ch : Nat) (c m : Int) (β : Nat) (i : Int) (u5 u6 u7 u8 u9 u12 u13 u14 u15 u16 u17 u18 u19 u20 : Value) : Goroutine :=
  G (bK.at ⟨#[.agg X, .chan (some ch), .int .i64 c, .int .i64 m, .pointer (some ⟨β, 0, none⟩), u5, u6, u7, u8, u9, .int .i64 m, .int .i64 i, u12, u13, u14, u15, u16, u17, u18, u19, u20], [closeK ch]⟩ [.code LK, .inLoop LK, .inBlock 0]) [botK]
theorem entry_K (X : Array Value) (ch : Nat) (c m : Int) (hM : ∀ b, M b → b < w.heap.size)
    (next : ∀ w1, Keeps M w w1 → ∀ u5 u6 u7 u8 u9 u12 u13 u14 u15 u16 u17 u18 u19 u20, Co Tryz.prog false Sh Stop (fun b => M b ∨ b = w1.heap.size) (headK X ch c m w1.heap.size 0 u5 u6 u7 u8 u9 u12 u13 u14 u15 u16 u17 u18 u19 u20) { w1 with heap := w1.heap.push (.cells X 131) }) :
    Co Tryz.prog false Sh Stop M (born Tryz.prog (callK X ch c m)) w := by
  refine Co.ctl rfl (fun w1 => born_K X ch c m w1) ?_
  simp only [headK, LK, bodyK, Tryz.f108, Option.getD_some] at next ⊢
  repeat (with_reducible refine Co.ctlG (fun _ => by first | exact stepG_seq | exact stepG_skip | exact stepG_block | exact stepG_loop | exact stepG_inLoop | exact stepG_inBlock | exact stepG_region_end | exact stepG_region) ?_)
  refine Co.box rfl rfl (by decide) rfl rfl hM fun w1 hk => ?_
  walk_nrm
  repeat (first | (with_reducible refine Co.ctlG (fun _ => by first | exact stepG_seq | exact stepG_skip | exact stepG_block | exact stepG_loop | exact stepG_inLoop | exact stepG_inBlock | exact stepG_region_end | exact stepG_region) ?_) | (refine Co.value rfl rfl (by decide) (fun _ => by simp [execOp, Act.eval]; rfl) (fun _ => by simp [execOp, Act.eval]) ?_; walk_nrm))
  refine Co.defer (d := closeK ch) rfl rfl (by decide) (fun _ => by simp [execOp, resolve, Act.eval, closeK]) (fun _ => by simp [execOp, resolve, Act.eval]) ?_
  walk_nrm
  iterate 3 (with_reducible refine Co.ctlG (fun _ => by first | exact stepG_seq | exact stepG_skip | exact stepG_block | exact stepG_loop | exact stepG_inLoop | exact stepG_inBlock | exact stepG_region_end | exact stepG_region) ?_)
  iterate 2 (refine Co.value rfl rfl (by decide) (fun _ => by simp [execOp, Act.eval]; rfl) (fun _ => by simp [execOp, Act.eval]) ?_; walk_nrm)
  iterate 3 (with_reducible refine Co.ctlG (fun _ => by first | exact stepG_seq | exact stepG_skip | exact stepG_block | exact stepG_loop | exact stepG_inLoop | exact stepG_inBlock | exact stepG_region_end | exact stepG_region) ?_)
  exact next w1 hk ..
end
def idr (M : Nat → Prop) (n : Nat) (A : Nat → Prop) : Ren := ⟨fun b b' => b = b' ∧ M b, n, A, fun _ => 0, fun _ _ => rfl, 0, fun _ _ => False⟩
structure Mine (Sh M : Nat → Prop) (n : Nat) (A : Nat → Prop) (w : World) : Prop where
  obj : ∀ b, M b → ∃ o, w.heap[b]? = some o ∧ RelO (idr M n A) 0 o o
  shared : ∀ b, Sh b → M b → ∃ c e hi, w.heap[b]? = some (.cells c e (0, hi)) ∧ c.size ≤ hi
  sh : ∀ b, Sh b → b < w.heap.size
  big : n ≤ w.heap.size
theorem Mine.rel {Sh M : Nat → Prop} {n : Nat} {A : Nat → Prop} {w : World} (h : Mine Sh M n A w) (L : Nat) : RelW L Sh (idr M n A) w w := by
  refine ⟨fun b b' hb => ?_, fun b b' c' h1 h2 => h1.1.symm.trans h2.1, fun b c b' h1 h2 => .inl (h1.1.trans h2.1.symm), fun _ _ => rfl, fun _ _ _ => rfl, fun b b' hs hb => h.shared b hs hb.2⟩
  obtain ⟨rfl, hm⟩ := hb
  obtain ⟨o, h1, h2⟩ := h.obj b hm
  exact ⟨o, o, h1, h1, h2⟩
section
variable {P : Program} {main : Bool} {Sh : Nat → Prop} {Stop : (Nat → Prop) → Goroutine → World → Prop} {M N : Nat → Prop} {w : World} {n : Nat} {A : Nat → Prop}
theorem Co.looks {b : Frame} {a : Act} {k : List Item} {cs : List Frame} {ops : Array Oper} {i : Nat} {rest : List Nat} {o : Oper} {v : Value} (ho : ops[i]? = some o) (hw : Region.wanted o (yielded ops a.tmps) = true) (hk : b.kind ≠ .early)
    (hN : ∀ b, N b → M b) (sim : SimS P P RelN (idr N n A) (execOp a.eval o) (execOp a.eval o)) (hm : ∀ w1, Keeps M w w1 → Mine Sh N n A w1) (hr : ∀ w1, Keeps M w w1 → (execOp a.eval o).run P w1 = .ok (.value v) w1)
    (h : Co P main Sh Stop M (G (b.at (a.put o.dst v) (.inRegion ops rest :: k)) cs) w) : Co P main Sh Stop M (G (b.at a (.inRegion ops (i :: rest) :: k)) cs) w := by
  refine .quiet rfl (fun w1 hk1 => ⟨_, stepG_value ho hw hk (hr w1 hk1), fun e he => ?_⟩) h
  have M1 := hm w1 hk1
  cases hrt : (execOp a.eval o).runT P w1 #[] with
  | mk r es0 =>
    have hr1 : r = .ok (.value v) w1 := by rw [← hr w1 hk1, ← Sem.runT_fst P _ w1 #[], hrt]
    subst hr1
    obtain ⟨ρ1, v', w1', more, r1, _, r3, r4, r5⟩ := sim.runs #[] (M1.rel w1.drawn) M1.sh M1.big hrt (Nat.le_refl _)
    rw [hrt] at r1
    simp only [Prod.mk.injEq, Result.ok.injEq, Array.empty_append] at r1
    obtain ⟨⟨_, rfl⟩, rfl⟩ := r1
    have he' : e ∈ es0 := by
      have := seen_sub _ _ he
      have hev : (execOp a.eval o).events P w1 #[] = es0 := by
        show ((execOp a.eval o).runT P w1 #[]).2 = es0
        rw [hrt]
      rwa [hev] at this
    have hpair : ∀ b b', ρ1 b b' → b = b' ∧ N b := fun b b' hb => by
      rcases r4.new b b' hb with x | ⟨j, x, _⟩
      · exact x
      · exact absurd (r3.lt hb).1 (by omega)
    rcases r5 e he' with ⟨ad, c, h1, h2, h3, h4⟩ | ⟨r, c, h1, h2, h3, h4⟩ | h1
    · obtain ⟨rfl, hmc⟩ := hpair _ _ h3
      exact .inl ⟨ad, h1, h2, hN _ hmc, h4⟩
    · obtain ⟨rfl, hmc⟩ := hpair _ _ h4
      exact .inr (.inl ⟨_, h1, h2, h3, hN _ hmc⟩)
    · exact .inr (.inr h1)
end
section
variable {P : Program} {main : Bool} {Sh : Nat → Prop} {Stop : (Nat → Prop) → Goroutine → World → Prop} {M : Nat → Prop} {w : World} {b : Frame} {a : Act} {k : List Item} {cs : List Frame} {ops : Array Oper} {i : Nat} {rest : List Nat} {o : Oper}
theorem Co.call {f : FuncId} {fn : Func} {args : Array Operand} {ats : Array TypeId} (ho : ops[i]? = some o) (hw : Region.wanted o (yielded ops a.tmps) = true) (hk : b.kind ≠ .early) (hop : o.op = .call { callee := .value (.func f), args, argTypes := ats })
    (hf : P.funcs[f]? = some fn) (hname : (fn.name == "runtime.NumGoroutine") = false) (hb : fn.body.isNone = false) (h : Co P main Sh Stop M (G (Frame.enter P f (args.map a.eval) .normal) (b.at a (.inRegion ops (i :: rest) :: k) :: cs)) w) : Co P main Sh Stop M (G (b.at a (.inRegion ops (i :: rest) :: k)) cs) w := by
  refine .ctl rfl (fun w1 => ?_) h
  rw [stepG_enter ho hw hk (run_call_body hop hf hname hb)]
  have : listed P b.fn a o w1 = #[] := by unfold listed; rw [events_call_body hop hf hname hb]; exact seen_none P _
  rw [this]
theorem Co.loadRow {t e : TypeId} {x : Operand} {β : Nat} {X : Array Value} {fr : Nat × Nat} {d : TypeDesc} (ho : ops[i]? = some o) (hw : Region.wanted o (yielded ops a.tmps) = true) (hk : b.kind ≠ .early) (hop : o.op = .load t x) (hx : a.eval x = .pointer (some ⟨β, 0, none⟩))
    (hβ : w.heap[β]? = some (.cells X e fr)) (hM : M β) (hS : ¬ Sh β) (hSw : ∀ b, Sh b → b < w.heap.size) (hX : ∀ v ∈ X, flatC v = true) (hu : P.underlying t = some d) (hd : (match d with | .struct _ | .array _ _ => true | _ => false) = true) (hi : (P.info? t).map (·.size) = some X.size)
    (h : Co P main Sh Stop M (G (b.at (a.put o.dst (.agg X)) (.inRegion ops rest :: k)) cs) w) : Co P main Sh Stop M (G (b.at a (.inRegion ops (i :: rest) :: k)) cs) w := by
  refine Co.looks (N := fun b => b = β) (n := 0) (A := fun _ => False) ho hw hk (fun b hb => hb ▸ hM) ?_ (fun w1 hk1 => ⟨fun b hb => ?_, fun b hs hb => absurd (hb ▸ hs) hS, fun b hb => Nat.lt_of_lt_of_le (hSw b hb) hk1.size, Nat.zero_le _⟩) (fun w1 hk1 => ?_) h
  · unfold execOp
    rw [hop]
    simp only [hx]
    exact sim_value ((sim_sureAddr (.ptr (show RelA (idr (fun b => b = β) 0 fun _ => False) ⟨β, 0, none⟩ ⟨β, 0, none⟩ from ⟨show β = β ∧ β = β from ⟨rfl, rfl⟩, rfl, rfl, fun _ => rfl, Nat.zero_le _⟩))).bd fun ρ1 u u' _ hu => sim_loadVar hu t)
  · subst hb
    refine ⟨_, (hk1.heap _ hM).trans hβ, .cells e rfl ⟨rfl, fun i v v' h1 h2 => ?_⟩ fun i h1 h2 => ⟨h1, h2⟩⟩
    rw [h1] at h2
    cases h2
    exact flatC_rel (hX v (Array.mem_of_getElem? h1))
  · unfold execOp
    rw [hop]
    simp [hx, Instr.loadAt, Instr.sureAddr, run_loadVar_row w1 β e t X fr d ((hk1.heap _ hM).trans hβ) hu hd hi]
end
/-! ### the round -/
section
variable {Sh : Nat → Prop} {Stop : (Nat → Prop) → Goroutine → World → Prop} {M : Nat → Prop} {w : World}
noncomputable def RK : Code := match LK with | .seq _ (.seq _ (.seq _ r)) => r | _ => .skip
noncomputable def opsK : Array Oper := match LK with | .seq _ (.seq _ (.seq (.block _ (.seq _ (.region _ ops _))) _)) => ops | _ => #[]
noncomputable def callerK (X : Array Value) (ch : Nat) (c m : Int) (β : Nat) (i : Int) (u5 u6 u7 u9 v19 u20 : Value) (rest : List Nat) : Frame :=
  bK.at ⟨#[.agg X, .chan (some ch), .int .i64 c, .int .i64 m, .pointer (some ⟨β, 0, none⟩), u5, u6, u7, .int .i64 i, u9, .int .i64 m, .int .i64 i, .bool true, .int .i64 i, .chan (some ch), .agg X, .int .i64 c, .int .i64 i, .int .i64 (c + i), v19, u20], [closeK ch]⟩ [.inRegion opsK rest, .inBlock 1, .code RK, .inLoop LK, .inBlock 0]
theorem round_K (X : Array Value) (ch : Nat) (c m : Int) (β : Nat) (i : Int) (hi : i < m) (hc : IntKind.i64.wrap (c + i) = c + i) (fr : Nat × Nat) (hβ : w.heap[β]? = some (.cells X 131 fr)) (hM : M β) (hS : ¬ Sh β) (hSw : ∀ b, Sh b → b < w.heap.size) (hX : ∀ v ∈ X, flatC v = true) (hs : X.size = 16)
    (u5 u6 u7 u8 u9 u12 u13 u14 u15 u16 u17 u18 u19 u20 : Value)
    (next : Co Tryz.prog false Sh Stop M (G (Frame.enter Tryz.prog 144 #[.agg X, .int .i64 (c + i)] .normal) [callerK X ch c m β i u5 u6 u7 u9 u19 u20 [5, 6], botK]) w) :
    Co Tryz.prog false Sh Stop M (headK X ch c m β i u5 u6 u7 u8 u9 u12 u13 u14 u15 u16 u17 u18 u19 u20) w := by
  simp only [callerK, headK, RK, opsK, LK, bodyK, Tryz.f108, Option.getD_some] at next ⊢
  iterate 2 (with_reducible refine Co.ctlG (fun _ => by first | exact stepG_seq | exact stepG_skip | exact stepG_block | exact stepG_loop | exact stepG_inLoop | exact stepG_inBlock | exact stepG_region_end | exact stepG_region) ?_)
  refine Co.value (v := .bool true) rfl rfl (by decide) (fun _ => by simp [go_sem, execOp, Act.eval, hi]) (fun _ => by simp [go_sem, execOp, Act.eval]) ?_
  walk_nrm
  iterate 2 (with_reducible refine Co.ctlG (fun _ => by first | exact stepG_seq | exact stepG_skip | exact stepG_block | exact stepG_loop | exact stepG_inLoop | exact stepG_inBlock | exact stepG_region_end | exact stepG_region) ?_)
  refine Co.ctlG (fun _ => stepG_cond (t := true) rfl) ?_
  simp only [if_true]
  iterate 5 (with_reducible refine Co.ctlG (fun _ => by first | exact stepG_seq | exact stepG_skip | exact stepG_block | exact stepG_loop | exact stepG_inLoop | exact stepG_inBlock | exact stepG_region_end | exact stepG_region) ?_)
  iterate 2 (refine Co.value rfl rfl (by decide) (fun _ => by simp [execOp, Act.eval]; rfl) (fun _ => by simp [execOp, Act.eval]) ?_; walk_nrm)
  iterate 2 (with_reducible refine Co.ctlG (fun _ => by first | exact stepG_seq | exact stepG_skip | exact stepG_block | exact stepG_loop | exact stepG_inLoop | exact stepG_inBlock | exact stepG_region_end | exact stepG_region) ?_)
  (refine Co.value rfl rfl (by decide) (fun _ => by simp [execOp, Act.eval]; rfl) (fun _ => by simp [execOp, Act.eval]) ?_; walk_nrm)
  refine Co.loadRow (d := .array 16 129) rfl rfl (by decide) rfl rfl hβ hM hS hSw hX rfl rfl (by rw [hs]; rfl) ?_
  walk_nrm
  iterate 2 (refine Co.value rfl rfl (by decide) (fun _ => by simp [execOp, Act.eval]; rfl) (fun _ => by simp [execOp, Act.eval]) ?_; walk_nrm)
  refine Co.value (v := .int .i64 (c + i)) rfl rfl (by decide) (fun _ => by simp [go_sem, execOp, Act.eval, hc]) (fun _ => by simp [go_sem, execOp, Act.eval]) ?_
  walk_nrm
  refine Co.call rfl rfl (by decide) rfl Tryz.func144 (by kernel_rfl) (by kernel_rfl) ?_
  walk_nrm
  exact next
end
section
variable {Sh : Nat → Prop} {Stop : (Nat → Prop) → Goroutine → World → Prop} {M : Nat → Prop} {w : World}
theorem send_K (X : Array Value) (ch : Nat) (c m : Int) (β : Nat) (i : Int) (u5 u6 u7 u9 v u20 : Value) (w : World) :
    stepG Tryz.prog false (G (callerK X ch c m β i u5 u6 u7 u9 v u20 [6]) [botK]) w = .comm (G (callerK X ch c m β i u5 u6 u7 u9 v u20 [6]) [botK]) #[scase ch v (.tuple #[])] true .send w #[] := by
  simp only [callerK, opsK, LK, bodyK, Tryz.f108, Option.getD_some]
  rw [stepG_comm (cases := #[scase ch v (.tuple #[])]) (blocking := true) (shape := .send) (w' := w) rfl rfl (by decide) (by simp [execOp, scase, Act.eval])]
  simp [listed, execOp, seen]
theorem sent_K (X : Array Value) (ch : Nat) (c m : Int) (β : Nat) (i : Int) (u5 u6 u7 u9 v u20 : Value) :
    (G (callerK X ch c m β i u5 u6 u7 u9 v u20 [6]) [botK]).finishComm Tryz.prog #[scase ch v (.tuple #[])] .send 0 undef false = G (callerK X ch c m β i u5 u6 u7 u9 v u20 []) [botK] := by
  simp only [callerK, opsK, RK, LK, bodyK, Tryz.f108, Option.getD_some]
  rfl
theorem finish_K (X : Array Value) (ch : Nat) (c m : Int) (β : Nat) (i : Int) (u5 u6 u7 u9 u19 v u20 : Value) :
    (callerK X ch c m β i u5 u6 u7 u9 u19 u20 [5, 6]).finish v = callerK X ch c m β i u5 u6 u7 u9 v u20 [6] := by
  simp only [callerK, opsK, RK, LK, bodyK, Tryz.f108, Option.getD_some]
  rfl
theorem after_K (X : Array Value) (ch : Nat) (c m : Int) (β : Nat) (i : Int) (hw : IntKind.i64.wrap (i + 1) = i + 1) (u5 u6 u7 u9 v u20 : Value)
    (next : ∀ u8 u12 u13 u14 u15 u16 u17 u18 u19 u20, Co Tryz.prog false Sh Stop M (headK X ch c m β (i + 1) u5 u6 u7 u8 u9 u12 u13 u14 u15 u16 u17 u18 u19 u20) w) :
    Co Tryz.prog false Sh Stop M (G (callerK X ch c m β i u5 u6 u7 u9 v u20 []) [botK]) w := by
  simp only [callerK, headK, opsK, RK, LK, bodyK, Tryz.f108, Option.getD_some] at next ⊢
  iterate 3 (with_reducible refine Co.ctlG (fun _ => by first | exact stepG_seq | exact stepG_skip | exact stepG_block | exact stepG_loop | exact stepG_inLoop | exact stepG_inBlock | exact stepG_region_end | exact stepG_region) ?_)
  refine Co.value (v := .int .i64 (i + 1)) rfl rfl (by decide) (fun _ => by simp [go_sem, execOp, Act.eval, hw]) (fun _ => by simp [go_sem, execOp, Act.eval]) ?_
  walk_nrm
  (refine Co.value rfl rfl (by decide) (fun _ => by simp [execOp, Act.eval]; rfl) (fun _ => by simp [execOp, Act.eval]) ?_; walk_nrm)
  iterate 2 (with_reducible refine Co.ctlG (fun _ => by first | exact stepG_seq | exact stepG_skip | exact stepG_block | exact stepG_loop | exact stepG_inLoop | exact stepG_inBlock | exact stepG_region_end | exact stepG_region) ?_)
  exact next ..
noncomputable def outK (X : Array Value) (ch : Nat) (c m : Int) (β : Nat) (i : Int) (u5 u6 u7 u8 u9 u13 u14 u15 u16 u17 u18 u19 u20 : Value) (ds : List Deferred) : Goroutine :=
  G { bK.at ⟨#[.agg X, .chan (some ch), .int .i64 c, .int .i64 m, .pointer (some ⟨β, 0, none⟩), u5, u6, u7, u8, u9, .int .i64 m, .int .i64 i, .bool false, u13, u14, u15, u16, u17, u18, u19, u20], ds⟩ [] with mode := .returning } [botK]
theorem done_K (X : Array Value) (ch : Nat) (c m : Int) (β : Nat) (i : Int) (hi : ¬ i < m) (u5 u6 u7 u8 u9 u12 u13 u14 u15 u16 u17 u18 u19 u20 : Value)
    (next : Co Tryz.prog false Sh Stop M (outK X ch c m β i u5 u6 u7 u8 u9 u13 u14 u15 u16 u17 u18 u19 u20 [closeK ch]) w) :
    Co Tryz.prog false Sh Stop M (headK X ch c m β i u5 u6 u7 u8 u9 u12 u13 u14 u15 u16 u17 u18 u19 u20) w := by
  simp only [outK, headK, LK, bodyK, Tryz.f108, Option.getD_some] at next ⊢
  iterate 2 (with_reducible refine Co.ctlG (fun _ => by first | exact stepG_seq | exact stepG_skip | exact stepG_block | exact stepG_loop | exact stepG_inLoop | exact stepG_inBlock | exact stepG_region_end | exact stepG_region) ?_)
  refine Co.value (v := .bool false) rfl rfl (by decide) (fun _ => by simp [go_sem, execOp, Act.eval, hi]) (fun _ => by simp [go_sem, execOp, Act.eval]) ?_
  walk_nrm
  iterate 2 (with_reducible refine Co.ctlG (fun _ => by first | exact stepG_seq | exact stepG_skip | exact stepG_block | exact stepG_loop | exact stepG_inLoop | exact stepG_inBlock | exact stepG_region_end | exact stepG_region) ?_)
  refine Co.ctlG (fun _ => stepG_cond (t := false) rfl) ?_
  simp only [Bool.false_eq_true, if_false]
  refine Co.ctlG (fun _ => stepG_exit rfl) ?_
  refine Co.ctlG (fun _ => stepG_end) ?_
  exact next
theorem quits_K (X : Array Value) (ch : Nat) (c m : Int) (β : Nat) (i : Int) (u5 u6 u7 u8 u9 u13 u14 u15 u16 u17 u18 u19 u20 : Value) : QuitsD Tryz.prog 2 0 (outK X ch c m β i u5 u6 u7 u8 u9 u13 u14 u15 u16 u17 u18 u19 u20 []) := by
  refine .ctl rfl (g' := G botK []) (fun w => ?_) (.ctl rfl (g' := { G botK [] with status := .finished }) (fun w => ?_) ⟨rfl, rfl⟩)
  · simp [outK, G, stepG, unwind, doReturn, results, Frame.at, bK, botK, Tryz.func108, Tryz.f108, seen, GStep.after, goexitEntry]
  · simp [G, stepG, unwind, botK, goexitEntry, Frame.catches]
    rfl
theorem close_K (X : Array Value) (ch : Nat) (c m : Int) (β : Nat) (i : Int) (u5 u6 u7 u8 u9 u13 u14 u15 u16 u17 u18 u19 u20 : Value) (w : World) : AtClose Tryz.prog ch M (outK X ch c m β i u5 u6 u7 u8 u9 u13 u14 u15 u16 u17 u18 u19 u20 [closeK ch]) w := by
  refine ⟨_, _, rfl, ?_, fun cap buf s r tm hc => ⟨_, 2, ?_, quits_K X ch c m β i u5 u6 u7 u8 u9 u13 u14 u15 u16 u17 u18 u19 u20⟩⟩
  · rfl
  · have hr := run_close_open (P := Tryz.prog) #[174] 0 hc
    have he := events_close_open (P := Tryz.prog) (es := #[]) #[174] 0 hc
    have hi : invoke (.builtin .close #[174] 0 #[false]) #[.chan (some ch)] = (do pure (.value (← Builtin.close_ #[174] 0 #[.chan (some ch)])) : Sem Next) := rfl
    have hr2 : (invoke (.builtin .close #[174] 0 #[false]) #[.chan (some ch)]).run Tryz.prog w = .ok (.value (.tuple #[])) (w.setChan ch cap buf true s r tm) := by rw [hi]; simp [hr, World.setChan]
    have he2 : (invoke (.builtin .close #[174] 0 #[false]) #[.chan (some ch)]).events Tryz.prog w #[] = #[⟨.obj ch, false, true⟩, ⟨.obj ch, true, true⟩] := by rw [hi]; simp [he]
    have hs : seen Tryz.prog bK.fn #[⟨.obj ch, false, true⟩, ⟨.obj ch, true, true⟩] = #[⟨.obj ch, false, true⟩, ⟨.obj ch, true, true⟩] := seen_eq (by simp [bK, Tryz.func108, Tryz.f108]) (by simp)
    simp [outK, G, stepG, unwind, callDeferred, closeK, Frame.at, GStep.after, hr2, he2, hs]
end
def ShS (b : Nat) : Prop := glS b = true
theorem shS_iff (b : Nat) : ShS b ↔ b = 1 := by simp [ShS, glS]
noncomputable def ghostK (w : World) (C : Array Value) (e : TypeId) : World := { w with heap := Array.replicate Tryz.prog.globals.size (.cells C e (0, C.size)) }
noncomputable def renK : Ren := ⟨fun b b' => b = 1 ∧ b' = 1, Tryz.prog.globals.size, fun f => alS f = true, fun _ => 0, fun _ _ => rfl, 271, fun f n => glS.d f n = true⟩
theorem bogS : Tryz.prog.info? 271 = none := by kernel_rfl
theorem tableK : 1 < Tryz.prog.globals.size := by
  have : decide (1 < Tryz.prog.globals.size) = true := by kernel_rfl
  exact of_decide_eq_true this
theorem sit_K {w : World} {C : Array Value} {e : TypeId} {lo hi : Nat} (hT : w.heap[1]? = some (.cells C e (lo, hi))) (hC : ∀ v ∈ C, flatC v = true) (hfr : ∀ i, lo ≤ i → i < hi → i < C.size) : Sit 0 Tryz.prog glS alS ShS renK (ghostK w C e) w := by
  have hgh : (ghostK w C e).heap[1]? = some (.cells C e (0, C.size)) := by
    show (Array.replicate Tryz.prog.globals.size _)[_]? = _
    rw [Array.getElem?_replicate, if_pos tableK]
  refine ⟨⟨fun b b' hb => ?_, fun b b' c' h1 h2 => h1.2.trans h2.2.symm, fun b c b' h1 h2 => .inl (h1.1.trans h2.1.symm), fun _ _ => rfl, fun i q h => absurd h (Nat.not_lt_zero _), fun b b' hs hb => ?_⟩, fun b hb => ?_, ⟨rfl, bogS⟩, rfl, rfl, fun g hg => ?_, ?_⟩
  · obtain ⟨rfl, rfl⟩ := hb
    refine ⟨_, _, hgh, hT, .cells e rfl ⟨rfl, fun i v v' h1 h2 => ?_⟩ fun i h1 h2 => ⟨Nat.zero_le _, hfr i h1 h2⟩⟩
    rw [h1] at h2
    cases h2
    exact flatC_rel (hC v (Array.mem_of_getElem? h1))
  · obtain ⟨rfl, rfl⟩ := hb
    exact ⟨C, e, C.size, hgh, Nat.le_refl _⟩
  · rw [(shS_iff b).1 hb]
    exact Nat.lt_of_lt_of_eq tableK (by simp [ghostK])
  · rw [(shS_iff g).1 hg]
    exact ⟨⟨rfl, rfl⟩, rfl⟩
  · simp [ghostK]
theorem cells_over {L : Nat} {Sh : Nat → Prop} {ρ : Ren} {wg w : World} (h : RelW L Sh ρ wg w) {b o n c : Nat} {v' : Value} (hv : RelV ρ (.slice (some ⟨b, o, none⟩) n c) v') (f : Nat → Int) (k : IntKind) (hc : ∀ i, i < n → wg.cell? ⟨b, o + i, none⟩ = some (.int k (f i))) :
    ∃ b', v' = .slice (some ⟨b', o, none⟩) n c ∧ ρ b b' ∧ ∀ i, i < n → w.cell? ⟨b', o + i, none⟩ = some (.int k (f i)) := by
  cases hv with
  | @slice a a' n c ha =>
    obtain ⟨b', o', s'⟩ := a'
    obtain ⟨hb, e1, e2, hg⟩ := ha
    simp only at hb e1 e2 hg
    subst e1 e2
    refine ⟨b', rfl, hb, fun i hi => ?_⟩
    obtain ⟨v2, h1, h2⟩ := (h.cell (a := ⟨b, o' + i, none⟩) (a' := ⟨b', o' + i, none⟩) ⟨hb, rfl, rfl, hg.1, by have := hg.2; show ρ.lo b ≤ o' + i + 1; omega⟩).1 _ (hc i hi)
    rw [h1]
    cases h2
    rfl
def TableIn (C : Array Value) (e : TypeId) (w : World) : Prop := ∃ lo hi, w.heap[1]? = some (.cells C e (lo, hi)) ∧ ∀ i, lo ≤ i → i < hi → i < C.size
def Sixty (bs : Nat → Int) (v : Value) (b : Nat) (w : World) : Prop := ∃ o cc, v = .slice (some ⟨b, o, none⟩) 64 cc ∧ ∀ j, j < 64 → w.cell? ⟨b, o + j, none⟩ = some (.int .u8 (bs j))
def MsgK (bs : Nat → Nat → Int) (i : Nat) (v : Value) (N : Nat → Prop) (w : World) : Prop := ∃ b, N b ∧ Sixty (bs i) v b w
theorem cell_keeps {M : Nat → Prop} {w w1 : World} (h : Keeps M w w1) {a : Addr} (ha : M a.block) : w1.cell? a = w.cell? a := by
  simp only [World.cell?, h.heap _ ha]
theorem Sixty.keeps {bs : Nat → Int} {v : Value} {b : Nat} {w w1 : World} {M : Nat → Prop} (h : Sixty bs v b w) (hb : M b) (hk : Keeps M w w1) : Sixty bs v b w1 := by
  obtain ⟨o, cc, h1, h4⟩ := h
  exact ⟨o, cc, h1, fun j hj => (cell_keeps hk hb).trans (h4 j hj)⟩
theorem msgK_keeps (bs : Nat → Nat → Int) (m : Nat) (v : Value) (N : Nat → Prop) (w w1 : World) (h : MsgK bs m v N w) (hk : Keeps N w w1) : MsgK bs m v N w1 := by
  obtain ⟨b, hb, h⟩ := h
  exact ⟨b, hb, h.keeps hb hk⟩
theorem flat_same {ρ : Ren} {v v' : Value} (h : RelV ρ v v') (hf : flatC v = true) : v' = v := by
  cases h <;> simp_all [flatC] <;> exact Array.size_eq_zero_iff.1 (by omega)
theorem row_same {ρ : Ren} {c c' : Array Value} (h : RelR ρ c c') (hf : ∀ x ∈ c, flatC x = true) : c' = c := by
  apply Array.ext_getElem?
  intro i
  rcases Nat.lt_or_ge i c.size with hi | hi
  · have hi' : i < c'.size := by rw [← h.1]; exact hi
    have h1 := Array.getElem?_eq_getElem hi
    have h2 := Array.getElem?_eq_getElem hi'
    rw [h1, h2, flat_same (h.2 i _ _ h1 h2) (hf _ (Array.getElem_mem hi))]
  · rw [Array.getElem?_eq_none hi, Array.getElem?_eq_none (by rw [← h.1]; exact hi)]
theorem Sixty.over {L : Nat} {Sh : Nat → Prop} {ρ : Ren} {wg w : World} (h : RelW L Sh ρ wg w) {bs : Nat → Int} {v v' : Value} {b : Nat} (hs : Sixty bs v b wg) (hv : RelV ρ v v') : ∃ b', ρ b b' ∧ Sixty bs v' b' w := by
  obtain ⟨o, cc, rfl, h4⟩ := hs
  obtain ⟨b', e1, hb, hc⟩ := cells_over h hv bs .u8 h4
  exact ⟨b', hb, o, cc, e1, hc⟩
section
variable (X : Array Value) (ch : Nat) (c : Int) (m β : Nat) (C : Array Value) (e : TypeId) (bs : Nat → Nat → Int)
def BlockIs : Prop := ∀ i, i < m → ∀ wg : World, Tryz.prog.globals.size ≤ wg.heap.size → wg.heap[1]? = some (.cells C e (0, C.size)) →
  Calls Tryz.prog 144 #[.agg X, .int .i64 (c + (i : Int))] wg fun ex w1 => ∃ v, ex = .returned v ∧ (∃ b, wg.heap.size ≤ b ∧ Sixty (bs i) v b w1) ∧ w1.heap[1]? = some (.cells C e (0, C.size))
structure HeadK (X : Array Value) (β : Nat) (C : Array Value) (e : TypeId) (M : Nat → Prop) (w : World) : Prop where
  box : ∃ fr, w.heap[β]? = some (.cells X 131 fr)
  mine : M β
  own : ¬ ShS β
  sh : ∀ b, ShS b → M b
  table : TableIn C e w
  low : ∀ b, M b → b < w.heap.size
theorem HeadK.keeps {M : Nat → Prop} {w w1 : World} (h : HeadK X β C e M w) (hk : Keeps M w w1) : HeadK X β C e M w1 := by
  obtain ⟨fr, hb⟩ := h.box
  obtain ⟨lo, hi, ht, hl⟩ := h.table
  exact ⟨⟨fr, (hk.heap _ h.mine).trans hb⟩, h.mine, h.own, h.sh, ⟨lo, hi, (hk.heap _ (h.sh _ ((shS_iff _).2 rfl))).trans ht, hl⟩, fun b hb => Nat.lt_of_lt_of_le (h.low b hb) hk.size⟩
variable (hX : ∀ v ∈ X, flatC v = true) (hs : X.size = 16) (hC : ∀ v ∈ C, flatC v = true) (hc : ∀ i : Nat, i < m → IntKind.i64.wrap (c + (i : Int)) = c + (i : Int)) (hm : ∀ i : Nat, i < m → IntKind.i64.wrap ((i : Int) + 1) = (i : Int) + 1) (hB : BlockIs X c m C e bs)
include hX hs hC hc hm hB
theorem snd_K (n : Nat) : ∀ (i : Nat), n + i = m → ∀ (M : Nat → Prop) (w : World), HeadK X β C e M w → ∀ u5 u6 u7 u8 u9 u12 u13 u14 u15 u16 u17 u18 u19 u20,
    Co Tryz.prog false ShS (SStop Tryz.prog ShS ch (MsgK bs) n i) M (headK X ch c m β i u5 u6 u7 u8 u9 u12 u13 u14 u15 u16 u17 u18 u19 u20) w := by
  induction n with
  | zero =>
    intro i hi M w H u5 u6 u7 u8 u9 u12 u13 u14 u15 u16 u17 u18 u19 u20
    refine done_K X ch c m β i (by omega) u5 u6 u7 u8 u9 u12 u13 u14 u15 u16 u17 u18 u19 u20 (.stop fun w1 _ => ?_)
    exact close_K X ch c m β i u5 u6 u7 u8 u9 u13 u14 u15 u16 u17 u18 u19 u20 w1
  | succ n ih =>
    intro i hi M w H u5 u6 u7 u8 u9 u12 u13 u14 u15 u16 u17 u18 u19 u20
    obtain ⟨fr, hbox⟩ := H.box
    obtain ⟨lo, hh, ht, hl⟩ := H.table
    have hgM : M 1 := H.sh _ ((shS_iff _).2 rfl)
    refine round_K X ch c m β i (by omega) (hc i (by omega)) fr hbox H.mine H.own (fun b hb => H.low b (H.sh b hb)) hX hs u5 u6 u7 u8 u9 u12 u13 u14 u15 u16 u17 u18 u19 u20 ?_
    refine co_call_in (Gl := glS) (Al := alS) (ρ := renK) (R := fun b => M b ∧ ¬ ShS b) (args := #[.agg X, .int .i64 (c + (i : Int))]) (wg := ghostK w C e)
      (Post := fun v w1 => (∃ b, Tryz.prog.globals.size ≤ b ∧ Sixty (bs i) v b w1) ∧ w1.heap[1]? = some (.cells C e (0, C.size))) tameS (fun b b' hb _ => (shS_iff b).2 hb.1) (fun b hb => H.low b (H.sh b hb)) (by rfl) (fun τ => ?_) (sit_K ht hC hl) ?_ (fun b => ?_) (fun b hb => ⟨H.low b hb.1, fun ⟨c, hc⟩ => hb.2 ((shS_iff b).2 hc.2)⟩) fun ρ1 v v' w1g w1 M' hv hP hrel hle hnew hM' hkR => ?_
    · have hsz : (World.ret (ghostK w C e) τ).heap.size = Tryz.prog.globals.size := by simp [World.ret, ghostK]
      have := hB i (by omega) (World.ret (ghostK w C e) τ) (Nat.le_of_eq hsz.symm) (by show (Array.replicate Tryz.prog.globals.size _)[_]? = _; rw [Array.getElem?_replicate, if_pos tableK])
      rw [hsz] at this
      exact this
    · refine ⟨rfl, fun j x x' h1 h2 => ?_⟩
      rw [h1] at h2
      cases h2
      have hx : x = .agg X ∨ x = .int .i64 (c + (i : Int)) := by simpa using Array.mem_of_getElem? h1
      rcases hx with rfl | rfl
      · exact .agg rfl fun j y y' g1 g2 => by rw [g1] at g2; cases g2; exact flatC_rel (hX _ (Array.mem_of_getElem? g1))
      · exact .int _ _
    · constructor
      · intro hb
        by_cases hz : ShS b
        · exact .inl ⟨_, rfl, (shS_iff b).1 hz⟩
        · exact .inr ⟨hb, hz⟩
      · rintro (⟨_, _, rfl⟩ | hb)
        · exact hgM
        · exact hb.1
    · obtain ⟨⟨b, hbn, h60⟩, htab⟩ := hP
      obtain ⟨b', hbb, h60'⟩ := h60.over hrel hv
      have hnewb : w.heap.size ≤ b' := by
        rcases hnew b b' hbb with x | x
        · have := tableK
          rw [x.1] at hbn
          omega
        · exact x.2
      have hbM : M' b' := (hM' b').2 (.inl ⟨b, hbb⟩)
      have hbS : ¬ ShS b' := fun x => by
        have h1 := H.low _ hgM
        rw [(shS_iff b').1 x] at hnewb
        omega
      have hβlt := H.low β H.mine
      have hβ' : M' β := (hM' β).2 (.inr ⟨H.mine, H.own⟩)
      have htab1 : TableIn C e w1 := by
        obtain ⟨o, o', g1, g2, g3⟩ := hrel.obj _ _ (hle.app (show renK _ _ from ⟨rfl, rfl⟩))
        rw [htab] at g1
        cases g1
        cases g3 with
        | part hl => exact absurd (by rw [hle.lo]; rfl) hl
        | @cells c c' e lo hi lo' hi' _ hr hf =>
          rw [row_same hr hC] at g2
          exact ⟨lo', hi', g2, fun i h1 h2 => (hf i h1 h2).2⟩
      have H1 : HeadK X β C e M' w1 := ⟨⟨fr, (hkR.heap β ⟨H.mine, H.own⟩).trans hbox⟩, hβ', H.own, fun b hb => (hM' b).2 (.inl ⟨_, hle.app (show renK _ _ from ⟨rfl, (shS_iff b).1 hb⟩)⟩), htab1, fun b hb => by
        rcases (hM' b).1 hb with ⟨d, hd⟩ | hb
        · exact (hrel.lt hd).2
        · exact Nat.lt_of_lt_of_le (H.low b hb.1) hkR.size⟩
      rw [finish_K]
      refine .stop fun w2 hk2 => ⟨_, _, v', .tuple #[], fun b => b = b', rfl, send_K X ch c m β i u5 u6 u7 u9 v' u20 w2, fun b hb => hb ▸ ⟨hbM, hbS⟩, ⟨b', rfl, h60'.keeps hbM hk2⟩, fun w3 hk3 => ?_⟩
      rw [sent_K]
      have H2 := H1.keeps X β C e hk2
      have H3 : HeadK X β C e (fun b => M' b ∧ ¬ b = b') w2 := ⟨H2.box, ⟨hβ', by omega⟩, H2.own, fun b hb => ⟨H2.sh b hb, fun x => hbS (x ▸ hb)⟩, H2.table, fun b hb => H2.low b hb.1⟩
      have H4 := H3.keeps X β C e hk3
      have hn1 := ih (i + 1) (by omega) _ w3 H4
      exact after_K X ch c m β i (hm i (by omega)) u5 u6 u7 u9 v' u20 fun u8 u12 u13 u14 u15 u16 u17 u18 u19 u20 => by
        have := hn1 u5 u6 u7 u8 u9 u12 u13 u14 u15 u16 u17 u18 u19 u20
        rw [show ((i + 1 : Nat) : Int) = (i : Int) + 1 by omega] at this
        exact this
end
section
variable {P : Program} {main : Bool} {Sh : Nat → Prop} {Stop : (Nat → Prop) → Goroutine → World → Prop} {M N : Nat → Prop} {w : World} {n : Nat} {A : Nat → Prop}
theorem Co.does {b : Frame} {a : Act} {k : List Item} {cs : List Frame} {ops : Array Oper} {i : Nat} {rest : List Nat} {o : Oper} (ho : ops[i]? = some o) (hw : Region.wanted o (yielded ops a.tmps) = true) (hk : b.kind ≠ .early)
    (hN : ∀ b, N b → M b) (hlow : ∀ b, M b → b < w.heap.size) (sim : SimS P P RelN (idr N n A) (execOp a.eval o) (execOp a.eval o)) (hm : ∀ w1, Keeps M w w1 → Mine Sh N n A w1) (hr : ∀ w1, Keeps M w w1 → ∃ v w2, (execOp a.eval o).run P w1 = .ok (.value v) w2)
    (h : ∀ w1, Keeps M w w1 → ∀ v w2, (execOp a.eval o).run P w1 = .ok (.value v) w2 → Co P main Sh Stop (grown M w1 w2) (G (b.at (a.put o.dst v) (.inRegion ops rest :: k)) cs) w2) : Co P main Sh Stop M (G (b.at a (.inRegion ops (i :: rest) :: k)) cs) w := by
  refine .step rfl (fun w1 hk1 => ?_) fun w1 hk1 g' w2 es he => ?_
  · obtain ⟨v, w2, hr1⟩ := hr w1 hk1
    have M1 := hm w1 hk1
    cases hrt : (execOp a.eval o).runT P w1 #[] with
    | mk r es0 =>
      have hr2 : r = .ok (.value v) w2 := by rw [← hr1, ← Sem.runT_fst P _ w1 #[], hrt]
      subst hr2
      obtain ⟨ρ1, v', w2', more, r1, _, r3, r4, r5⟩ := sim.runs #[] (M1.rel w2.drawn) M1.sh M1.big hrt (Nat.le_refl _)
      rw [hrt] at r1
      simp only [Prod.mk.injEq, Result.ok.injEq, Array.empty_append] at r1
      obtain ⟨⟨_, rfl⟩, rfl⟩ := r1
      have hpair : ∀ b b', ρ1 b b' → grown N w1 w2 b' := fun b b' hb => by
        rcases r4.new b b' hb with x | ⟨j, _, x⟩
        · exact .inl (x.1 ▸ x.2)
        · exact .inr ⟨by omega, (r3.lt hb).2⟩
      have hsame : ∀ b b', ρ1 b b' → b = b' := fun b b' hb => by
        rcases r4.new b b' hb with x | ⟨j, x, y⟩
        · exact x.1
        · omega
      refine ⟨_, _, _, stepG_value ho hw hk hr1, r4.size', fun b hb hn => r4.rest b hb fun c hc => hn (hN b (hc.1 ▸ hc.2)), fun b hs hmb => ?_, r4.os, r4.output, r4.tape, fun e he => ?_⟩
      · by_cases hnb : N b
        · exact r4.still b b hs ⟨rfl, hnb⟩
        · exact r4.rest b (Nat.lt_of_lt_of_le (hlow b hmb) hk1.size) fun c hc => hnb (hc.1 ▸ hc.2)
      · have he' : e ∈ es0 := by
          have := seen_sub _ _ he
          have hev : (execOp a.eval o).events P w1 #[] = es0 := by
            show ((execOp a.eval o).runT P w1 #[]).2 = es0
            rw [hrt]
          rwa [hev] at this
        have hup : ∀ b, grown N w1 w2 b → grown M w1 w2 b := fun b hb => hb.imp (hN b) id
        rcases r5 e he' with ⟨ad, c, h1, h2, h3, h4⟩ | ⟨r, c, h1, h2, h3, h4⟩ | h1
        · exact .inl ⟨ad, h1, h2, hup _ (hpair _ _ h3), hsame _ _ h3 ▸ h4⟩
        · exact .inr (.inl ⟨_, h1, h2, h3, hup _ (hpair _ _ h4)⟩)
        · exact .inr (.inr h1)
  · obtain ⟨v, w3, hr1⟩ := hr w1 hk1
    rw [stepG_value ho hw hk hr1] at he
    cases he
    exact h w1 hk1 v _ hr1
end
end Go.Proofs.YtnpffnhiefgglaaGreatDoor
