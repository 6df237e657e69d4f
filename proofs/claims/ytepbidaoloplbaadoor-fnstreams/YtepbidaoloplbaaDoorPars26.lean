/-
  The functions on the laws' roads are of the kinds of operations that are carried over.
  Where a law that calls Stream begins: a small world that knows the table and parts of the arguments' blocks.
  The table of places, as a row's text lays it (an array of arrays of ints), is as the walks ask for it.
  The table in the claim's world, as the walks beside others ask for it.
  What Stream of both sides answers, in the program of doors: a row of the call's own. Conditions: bytes all, capacities that are not less than the lengths, an int.
  What is streamed twice is what it was; of a beginning the stream is a beginning; of bytes 0 it is the blocks. (Pure.)
  What the draws' cursor does, whatever bytes it is over: l1New makes one, l1Byte and l1Below give a number in their bounds and move it on; condition: at most 1048576 bytes.
  What the draws' cursor does, whatever bytes it is over: l1New makes one, l1Byte and l1Below give a number in their bounds and move it on; condition: at most 1048576 bytes.
  What the draws of bytes, of one of some texts or numbers, and of yes or no do, whatever cursor they are given; conditions: at most 255 bytes, at most 256 to pick from.
-/
import Derived.Test.YtepbidaoloplbaaDoorPars25
import Derived.WideShapes
import Derived.Test.YtepbidaoloplbaaDoorPars22
import Derived.Lib.LaidTab
import GoSem.Claims
import Derived.Test.YtepbidaoloplbaaDoorPars11
import Derived.Test.YtepbidaoloplbaaDoorPars16
import Derived.Test.YtepbidaoloplbaaDoorPars14
import Derived.Test.YtepbidaoloplbaaDoorPars13
import Derived.Test.YtepbidaoloplbaaDoorPars15
import Derived.Test.YtepbidaoloplbaaDoorPars23
import Derived.Test.YtepbidaoloplbaaDoorPars24
import Derived.Test.YtepbidaoloplbaaDoorPars08
namespace Go.Proofs.YtepbidaoloplbaaDoor
open Go Go.Conc

/-- The table may be named; Stream is a door. -/
def glD : Globs := ⟨fun g => g == 0, fun f n => f == 8 && n == 4⟩
/-- The table may be named. -/
def glG : Globs := ⟨fun g => g == 0, fun _ _ => false⟩
def alL (f : Nat) : Bool := [3, 4, 5, 6, 7, 9, 10, 11, 12, 13, 14, 15, 16, 17, 18, 19, 20, 21, 22, 23, 24, 25, 26, 27, 28, 29, 32, 33, 34, 35, 36, 37, 38, 39, 40, 41, 42, 43, 44, 45, 46, 47, 48, 49, 50, 51, 52, 53, 54, 55, 56, 57, 58, 59, 60, 61].contains f
def alG (f : Nat) : Bool := [3, 4, 5, 6, 7, 9, 10, 11, 12, 13, 14, 15, 16, 17, 18, 19, 20, 21, 22, 23, 24, 25, 26, 27, 28, 29, 32, 33, 34, 35, 36, 37, 38, 39, 40, 41, 42, 43, 44, 45, 46, 47, 48, 49, 50, 51, 52, 53, 54, 55, 56, 57, 58, 59, 60, 61, 8, 82, 83].contains f
theorem tame_two {P Q : Program} {Gl : Globs} {Al : Nat → Bool} {f : Nat} {fn : Func} (h : P.funcs[f]? = some fn) (h' : Q.funcs[f]? = some fn) (hc : (match fn.body with | some b => okCode Q Gl Al b | none => false) = true) (hn : (fn.name == "runtime.NumGoroutine") = false) : ∃ fn body, P.funcs[f]? = some fn ∧ Q.funcs[f]? = some fn ∧ (fn.name == "runtime.NumGoroutine") = false ∧ fn.body = some body ∧ okCode Q Gl Al body = true := by
  cases hb : fn.body with
  | none => rw [hb] at hc; cases hc
  | some b => rw [hb] at hc; exact ⟨fn, b, h, h', hn, hb, hc⟩
theorem tameL : Tame2 Altd.prog Tryd.prog glD alL := by
  refine ⟨fun f hf => ?_, fun f n hd => ?_⟩
  · simp only [alL, List.contains_cons, List.contains_nil, Bool.or_false, Bool.or_eq_true, beq_iff_eq] at hf
    rcases hf with rfl | rfl | rfl | rfl | rfl | rfl | rfl | rfl | rfl | rfl | rfl | rfl | rfl | rfl | rfl | rfl | rfl | rfl | rfl | rfl | rfl | rfl | rfl | rfl | rfl | rfl | rfl | rfl | rfl | rfl | rfl | rfl | rfl | rfl | rfl | rfl | rfl | rfl | rfl | rfl | rfl | rfl | rfl | rfl | rfl | rfl | rfl | rfl | rfl | rfl | rfl | rfl | rfl | rfl | rfl | rfl
    · exact tame_two Altd.func3 Tryd.func3 (by kernel_rfl) (by kernel_rfl)
    · exact tame_two Altd.func4 Tryd.func4 (by kernel_rfl) (by kernel_rfl)
    · exact tame_two Altd.func5 Tryd.func5 (by kernel_rfl) (by kernel_rfl)
    · exact tame_two Altd.func6 Tryd.func6 (by kernel_rfl) (by kernel_rfl)
    · exact tame_two Altd.func7 Tryd.func7 (by kernel_rfl) (by kernel_rfl)
    · exact tame_two Altd.func9 Tryd.func9 (by kernel_rfl) (by kernel_rfl)
    · exact tame_two Altd.func10 Tryd.func10 (by kernel_rfl) (by kernel_rfl)
    · exact tame_two Altd.func11 Tryd.func11 (by kernel_rfl) (by kernel_rfl)
    · exact tame_two Altd.func12 Tryd.func12 (by kernel_rfl) (by kernel_rfl)
    · exact tame_two Altd.func13 Tryd.func13 (by kernel_rfl) (by kernel_rfl)
    · exact tame_two Altd.func14 Tryd.func14 (by kernel_rfl) (by kernel_rfl)
    · exact tame_two Altd.func15 Tryd.func15 (by kernel_rfl) (by kernel_rfl)
    · exact tame_two Altd.func16 Tryd.func16 (by kernel_rfl) (by kernel_rfl)
    · exact tame_two Altd.func17 Tryd.func17 (by kernel_rfl) (by kernel_rfl)
    · exact tame_two Altd.func18 Tryd.func18 (by kernel_rfl) (by kernel_rfl)
    · exact tame_two Altd.func19 Tryd.func19 (by kernel_rfl) (by kernel_rfl)
    · exact tame_two Altd.func20 Tryd.func20 (by kernel_rfl) (by kernel_rfl)
    · exact tame_two Altd.func21 Tryd.func21 (by kernel_rfl) (by kernel_rfl)
    · exact tame_two Altd.func22 Tryd.func22 (by kernel_rfl) (by kernel_rfl)
    · exact tame_two Altd.func23 Tryd.func23 (by kernel_rfl) (by kernel_rfl)
    · exact tame_two Altd.func24 Tryd.func24 (by kernel_rfl) (by kernel_rfl)
    · exact tame_two Altd.func25 Tryd.func25 (by kernel_rfl) (by kernel_rfl)
    · exact tame_two Altd.func26 Tryd.func26 (by kernel_rfl) (by kernel_rfl)
    · exact tame_two Altd.func27 Tryd.func27 (by kernel_rfl) (by kernel_rfl)
    · exact tame_two Altd.func28 Tryd.func28 (by kernel_rfl) (by kernel_rfl)
    · exact tame_two Altd.func29 Tryd.func29 (by kernel_rfl) (by kernel_rfl)
    · exact tame_two Altd.func32 Tryd.func32 (by kernel_rfl) (by kernel_rfl)
    · exact tame_two Altd.func33 Tryd.func33 (by kernel_rfl) (by kernel_rfl)
    · exact tame_two Altd.func34 Tryd.func34 (by kernel_rfl) (by kernel_rfl)
    · exact tame_two Altd.func35 Tryd.func35 (by kernel_rfl) (by kernel_rfl)
    · exact tame_two Altd.func36 Tryd.func36 (by kernel_rfl) (by kernel_rfl)
    · exact tame_two Altd.func37 Tryd.func37 (by kernel_rfl) (by kernel_rfl)
    · exact tame_two Altd.func38 Tryd.func38 (by kernel_rfl) (by kernel_rfl)
    · exact tame_two Altd.func39 Tryd.func39 (by kernel_rfl) (by kernel_rfl)
    · exact tame_two Altd.func40 Tryd.func40 (by kernel_rfl) (by kernel_rfl)
    · exact tame_two Altd.func41 Tryd.func41 (by kernel_rfl) (by kernel_rfl)
    · exact tame_two Altd.func42 Tryd.func42 (by kernel_rfl) (by kernel_rfl)
    · exact tame_two Altd.func43 Tryd.func43 (by kernel_rfl) (by kernel_rfl)
    · exact tame_two Altd.func44 Tryd.func44 (by kernel_rfl) (by kernel_rfl)
    · exact tame_two Altd.func45 Tryd.func45 (by kernel_rfl) (by kernel_rfl)
    · exact tame_two Altd.func46 Tryd.func46 (by kernel_rfl) (by kernel_rfl)
    · exact tame_two Altd.func47 Tryd.func47 (by kernel_rfl) (by kernel_rfl)
    · exact tame_two Altd.func48 Tryd.func48 (by kernel_rfl) (by kernel_rfl)
    · exact tame_two Altd.func49 Tryd.func49 (by kernel_rfl) (by kernel_rfl)
    · exact tame_two Altd.func50 Tryd.func50 (by kernel_rfl) (by kernel_rfl)
    · exact tame_two Altd.func51 Tryd.func51 (by kernel_rfl) (by kernel_rfl)
    · exact tame_two Altd.func52 Tryd.func52 (by kernel_rfl) (by kernel_rfl)
    · exact tame_two Altd.func53 Tryd.func53 (by kernel_rfl) (by kernel_rfl)
    · exact tame_two Altd.func54 Tryd.func54 (by kernel_rfl) (by kernel_rfl)
    · exact tame_two Altd.func55 Tryd.func55 (by kernel_rfl) (by kernel_rfl)
    · exact tame_two Altd.func56 Tryd.func56 (by kernel_rfl) (by kernel_rfl)
    · exact tame_two Altd.func57 Tryd.func57 (by kernel_rfl) (by kernel_rfl)
    · exact tame_two Altd.func58 Tryd.func58 (by kernel_rfl) (by kernel_rfl)
    · exact tame_two Altd.func59 Tryd.func59 (by kernel_rfl) (by kernel_rfl)
    · exact tame_two Altd.func60 Tryd.func60 (by kernel_rfl) (by kernel_rfl)
    · exact tame_two Altd.func61 Tryd.func61 (by kernel_rfl) (by kernel_rfl)
  · simp only [glD, Bool.and_eq_true, beq_iff_eq] at hd
    obtain ⟨rfl, _⟩ := hd
    exact ⟨⟨_, Altd.func8, by kernel_rfl, by kernel_rfl⟩, _, Tryd.func8, by kernel_rfl, by kernel_rfl⟩
theorem tameG : TameP Altd.prog glG alG := by
  refine ⟨fun f hf => ?_, fun _ _ => rfl⟩
  simp only [alG, List.contains_cons, List.contains_nil, Bool.or_false, Bool.or_eq_true, beq_iff_eq] at hf
  rcases hf with rfl | rfl | rfl | rfl | rfl | rfl | rfl | rfl | rfl | rfl | rfl | rfl | rfl | rfl | rfl | rfl | rfl | rfl | rfl | rfl | rfl | rfl | rfl | rfl | rfl | rfl | rfl | rfl | rfl | rfl | rfl | rfl | rfl | rfl | rfl | rfl | rfl | rfl | rfl | rfl | rfl | rfl | rfl | rfl | rfl | rfl | rfl | rfl | rfl | rfl | rfl | rfl | rfl | rfl | rfl | rfl | rfl | rfl | rfl
  · exact tame_one Altd.func3 (by kernel_rfl) (by kernel_rfl)
  · exact tame_one Altd.func4 (by kernel_rfl) (by kernel_rfl)
  · exact tame_one Altd.func5 (by kernel_rfl) (by kernel_rfl)
  · exact tame_one Altd.func6 (by kernel_rfl) (by kernel_rfl)
  · exact tame_one Altd.func7 (by kernel_rfl) (by kernel_rfl)
  · exact tame_one Altd.func9 (by kernel_rfl) (by kernel_rfl)
  · exact tame_one Altd.func10 (by kernel_rfl) (by kernel_rfl)
  · exact tame_one Altd.func11 (by kernel_rfl) (by kernel_rfl)
  · exact tame_one Altd.func12 (by kernel_rfl) (by kernel_rfl)
  · exact tame_one Altd.func13 (by kernel_rfl) (by kernel_rfl)
  · exact tame_one Altd.func14 (by kernel_rfl) (by kernel_rfl)
  · exact tame_one Altd.func15 (by kernel_rfl) (by kernel_rfl)
  · exact tame_one Altd.func16 (by kernel_rfl) (by kernel_rfl)
  · exact tame_one Altd.func17 (by kernel_rfl) (by kernel_rfl)
  · exact tame_one Altd.func18 (by kernel_rfl) (by kernel_rfl)
  · exact tame_one Altd.func19 (by kernel_rfl) (by kernel_rfl)
  · exact tame_one Altd.func20 (by kernel_rfl) (by kernel_rfl)
  · exact tame_one Altd.func21 (by kernel_rfl) (by kernel_rfl)
  · exact tame_one Altd.func22 (by kernel_rfl) (by kernel_rfl)
  · exact tame_one Altd.func23 (by kernel_rfl) (by kernel_rfl)
  · exact tame_one Altd.func24 (by kernel_rfl) (by kernel_rfl)
  · exact tame_one Altd.func25 (by kernel_rfl) (by kernel_rfl)
  · exact tame_one Altd.func26 (by kernel_rfl) (by kernel_rfl)
  · exact tame_one Altd.func27 (by kernel_rfl) (by kernel_rfl)
  · exact tame_one Altd.func28 (by kernel_rfl) (by kernel_rfl)
  · exact tame_one Altd.func29 (by kernel_rfl) (by kernel_rfl)
  · exact tame_one Altd.func32 (by kernel_rfl) (by kernel_rfl)
  · exact tame_one Altd.func33 (by kernel_rfl) (by kernel_rfl)
  · exact tame_one Altd.func34 (by kernel_rfl) (by kernel_rfl)
  · exact tame_one Altd.func35 (by kernel_rfl) (by kernel_rfl)
  · exact tame_one Altd.func36 (by kernel_rfl) (by kernel_rfl)
  · exact tame_one Altd.func37 (by kernel_rfl) (by kernel_rfl)
  · exact tame_one Altd.func38 (by kernel_rfl) (by kernel_rfl)
  · exact tame_one Altd.func39 (by kernel_rfl) (by kernel_rfl)
  · exact tame_one Altd.func40 (by kernel_rfl) (by kernel_rfl)
  · exact tame_one Altd.func41 (by kernel_rfl) (by kernel_rfl)
  · exact tame_one Altd.func42 (by kernel_rfl) (by kernel_rfl)
  · exact tame_one Altd.func43 (by kernel_rfl) (by kernel_rfl)
  · exact tame_one Altd.func44 (by kernel_rfl) (by kernel_rfl)
  · exact tame_one Altd.func45 (by kernel_rfl) (by kernel_rfl)
  · exact tame_one Altd.func46 (by kernel_rfl) (by kernel_rfl)
  · exact tame_one Altd.func47 (by kernel_rfl) (by kernel_rfl)
  · exact tame_one Altd.func48 (by kernel_rfl) (by kernel_rfl)
  · exact tame_one Altd.func49 (by kernel_rfl) (by kernel_rfl)
  · exact tame_one Altd.func50 (by kernel_rfl) (by kernel_rfl)
  · exact tame_one Altd.func51 (by kernel_rfl) (by kernel_rfl)
  · exact tame_one Altd.func52 (by kernel_rfl) (by kernel_rfl)
  · exact tame_one Altd.func53 (by kernel_rfl) (by kernel_rfl)
  · exact tame_one Altd.func54 (by kernel_rfl) (by kernel_rfl)
  · exact tame_one Altd.func55 (by kernel_rfl) (by kernel_rfl)
  · exact tame_one Altd.func56 (by kernel_rfl) (by kernel_rfl)
  · exact tame_one Altd.func57 (by kernel_rfl) (by kernel_rfl)
  · exact tame_one Altd.func58 (by kernel_rfl) (by kernel_rfl)
  · exact tame_one Altd.func59 (by kernel_rfl) (by kernel_rfl)
  · exact tame_one Altd.func60 (by kernel_rfl) (by kernel_rfl)
  · exact tame_one Altd.func61 (by kernel_rfl) (by kernel_rfl)
  · exact tame_one Altd.func8 (by kernel_rfl) (by kernel_rfl)
  · exact tame_one Altd.func82 (by kernel_rfl) (by kernel_rfl)
  · exact tame_one Altd.func83 (by kernel_rfl) (by kernel_rfl)
theorem alL_alG : ∀ f, alL f = true → alG f = true := fun f hf => by
  simp only [alL, alG, List.contains_cons, List.contains_nil, Bool.or_false, Bool.or_eq_true, beq_iff_eq] at hf ⊢
  omega

end Go.Proofs.YtepbidaoloplbaaDoor

namespace Go.Proofs.YtepbidaoloplbaaDoor
open Go Go.Conc Go.RowKit

/-- A part of a block: which one, from where on, which bytes. -/
structure Pt where
  b : Nat
  o : Nat
  xs : List Int
noncomputable def Pt.obj (q : Pt) : Obj := .cells (partRow q.o q.xs) 97 (0, (partRow q.o q.xs).size)
def PtIn (W : World) (q : Pt) : Prop := (∃ cs e fz, W.heap[q.b]? = some (.cells cs e fz)) ∧ ∀ j u, q.xs[j]? = some u → W.cell? ⟨q.b, q.o + j, none⟩ = some (.int .u8 u)
noncomputable def ghostT (W : World) (C : Array Value) (e : TypeId) (ps : List Pt) : World := { W with heap := Array.replicate Tryd.prog.globals.size (.cells C e (0, C.size)) ++ (ps.map Pt.obj).toArray }
noncomputable def renT (ps : List Pt) : Ren := ⟨fun b b' => (b = 0 ∧ b' = 0) ∨ ∃ i q, ps[i]? = some q ∧ b = Tryd.prog.globals.size + i ∧ b' = q.b, Tryd.prog.globals.size, fun f => alL f = true, fun b => if b < Tryd.prog.globals.size then 0 else ((ps[b - Tryd.prog.globals.size]?).map fun q => q.o + 1).getD 0, fun _ hb => if_pos hb, 97, fun f n => glD.d f n = true⟩
noncomputable def shT (ps : List Pt) (b : Nat) : Prop := b = 0 ∨ ∃ i, i < ps.length ∧ b = Tryd.prog.globals.size + i
theorem tabG : 0 < Tryd.prog.globals.size := by decide +kernel
theorem ghostT_size (W : World) (C : Array Value) (e : TypeId) (ps : List Pt) : (ghostT W C e ps).heap.size = Tryd.prog.globals.size + ps.length := by
  have h : ∀ (G : Nat) (x : Obj), (Array.replicate G x ++ (ps.map Pt.obj).toArray).size = G + ps.length := fun G x => by simp
  exact h _ _
theorem ghostT_tab (W : World) (C : Array Value) (e : TypeId) (ps : List Pt) : (ghostT W C e ps).heap[0]? = some (.cells C e (0, C.size)) := by
  have h := tabG
  unfold ghostT
  rw [Array.getElem?_append_left (by rw [Array.size_replicate]; exact h), Array.getElem?_replicate, if_pos h]
theorem ghostT_part (W : World) (C : Array Value) (e : TypeId) (ps : List Pt) {i : Nat} {q : Pt} (h : ps[i]? = some q) : (ghostT W C e ps).heap[Tryd.prog.globals.size + i]? = some q.obj := by
  unfold ghostT
  rw [Array.getElem?_append_right (by rw [Array.size_replicate]; omega), Array.size_replicate, Nat.add_sub_cancel_left, List.getElem?_toArray, List.getElem?_map, h]
  rfl
theorem renT_lo {ps : List Pt} {i : Nat} {q : Pt} (h : ps[i]? = some q) : (renT ps).lo (Tryd.prog.globals.size + i) = q.o + 1 := by
  show (if Tryd.prog.globals.size + i < Tryd.prog.globals.size then 0 else ((ps[Tryd.prog.globals.size + i - Tryd.prog.globals.size]?).map fun q => q.o + 1).getD 0) = q.o + 1
  rw [if_neg (by omega), Nat.add_sub_cancel_left, h]
  rfl
theorem relO_pt {ρ : Ren} {q : Pt} {W : World} (hb : ρ.Bg = 97) (h : PtIn W q) : ∃ o', W.heap[q.b]? = some o' ∧ RelO ρ (q.o + 1) q.obj o' := by
  obtain ⟨⟨cs, e, fz, hcs⟩, hc⟩ := h
  refine ⟨_, hcs, ?_⟩
  unfold Pt.obj
  rw [← hb]
  refine .part (Nat.succ_ne_zero _) (Nat.le_refl _) fun i v hi hv => ?_
  obtain ⟨j, rfl⟩ : ∃ j, i = q.o + j := ⟨i - q.o, by omega⟩
  rw [partRow_at] at hv
  obtain ⟨u, hu, rfl⟩ := Option.map_eq_some_iff.1 hv
  have := hc j u hu
  simp only [World.cell?, hcs, Option.isSome_none, Bool.false_eq_true, if_false] at this
  exact ⟨_, this, .int _ _⟩
theorem sit_T {W : World} {C : Array Value} {e : TypeId} {ps : List Pt} (hT : TableIn C e W) (hC : ∀ v ∈ C, flatC v = true) (hps : ∀ q ∈ ps, PtIn W q) : Sit 0 Tryd.prog glD alL (shT ps) (renT ps) (ghostT W C e ps) W := by
  have tg := tabG
  have lo0 : (renT ps).lo 0 = 0 := (renT ps).glo _ tg
  refine ⟨⟨fun b b' hb => ?_, fun b b' c' h1 h2 => ?_, fun b c b' h1 h2 => ?_, fun b hb => ?_, fun i q h => absurd h (Nat.not_lt_zero _), fun b b' hs hb => ?_⟩, fun b hb => ?_, ⟨rfl, bogS⟩, rfl, rfl, fun g hg => ?_, by rw [ghostT_size]; omega⟩
  · rcases hb with ⟨rfl, rfl⟩ | ⟨i, q, h, rfl, rfl⟩
    · obtain ⟨lo, hi, h1, h2⟩ := hT
      refine ⟨_, _, ghostT_tab W C e ps, h1, .cells e lo0 ⟨rfl, fun i v v' k1 k2 => ?_⟩ fun i k1 k2 => ⟨Nat.zero_le _, h2 i k1 k2⟩⟩
      rw [k1] at k2
      cases k2
      exact flatC_rel (hC v (Array.mem_of_getElem? k1))
    · obtain ⟨o', h1, h2⟩ := relO_pt (ρ := renT ps) rfl (hps q (List.mem_of_getElem? h))
      exact ⟨_, _, ghostT_part W C e ps h, h1, by rw [renT_lo h]; exact h2⟩
  · rcases h1 with ⟨e1, rfl⟩ | ⟨i, q, k1, e1, rfl⟩ <;> rcases h2 with ⟨e2, rfl⟩ | ⟨j, r, k2, e2, rfl⟩
    · rfl
    · omega
    · omega
    · obtain rfl : i = j := by omega
      rw [k1] at k2
      cases k2
      rfl
  · have key : ∀ b b', (renT ps) b b' → shT ps b := fun b b' h => by
      rcases h with ⟨rfl, _⟩ | ⟨i, q, k1, rfl, _⟩
      · exact .inl rfl
      · exact .inr ⟨i, (List.getElem?_eq_some_iff.1 k1).1, rfl⟩
    exact .inr ⟨key _ _ h1, key _ _ h2⟩
  · rw [ghostT_size] at hb
    show (if b < Tryd.prog.globals.size then 0 else ((ps[b - Tryd.prog.globals.size]?).map fun q => q.o + 1).getD 0) = 0
    rw [if_neg (by omega), List.getElem?_eq_none (by omega)]
    rfl
  · rcases hs with rfl | ⟨i, hi, rfl⟩
    · exact ⟨_, _, _, ghostT_tab W C e ps, Nat.le_refl _⟩
    · exact ⟨_, _, _, ghostT_part W C e ps (List.getElem?_eq_getElem hi), Nat.le_refl _⟩
  · rw [ghostT_size]
    rcases hb with rfl | ⟨i, hi, rfl⟩ <;> omega
  · have : g = 0 := by simpa [glD] using hg
    subst this
    exact ⟨.inl ⟨rfl, rfl⟩, lo0⟩
theorem shT_of {ps : List Pt} : ∀ b b', (renT ps) b b' → shT ps b := fun b b' h => by
  rcases h with ⟨rfl, _⟩ | ⟨i, q, k1, rfl, _⟩
  · exact .inl rfl
  · exact .inr ⟨i, (List.getElem?_eq_some_iff.1 k1).1, rfl⟩
/-- The table in the small world. -/
theorem ghostT_places {W : World} {C : Array Value} {e : TypeId} {ps : List Pt} (τ : Nat → Question → Nat) (hCp : ∀ (j : Nat) v, placesC[j]? = some v → C[j]? = some v) : PlacesIs (World.ret (ghostT W C e ps) τ) := fun j v hv => by
  have h : (World.ret (ghostT W C e ps) τ).heap[0]? = _ := ghostT_tab W C e ps
  simp only [World.cell?, h, Option.isSome_none, Bool.false_eq_true, if_false, Nat.zero_add]
  exact hCp j v hv

/-- An argument: a slice of bytes of the claim's world. -/
structure ArgIn (W : World) (a : Option Addr) (n c : Nat) (q : Pt) (zs : List Int) : Prop where
  pt : PtIn W q
  xs : q.xs = zs
  len : zs.length = n
  cap : n ≤ c
  byte : ∀ x ∈ zs, 0 ≤ x ∧ x < 256
  at_ : (a = none ∧ n = 0 ∧ c = 0) ∨ a = some ⟨q.b, q.o, none⟩
noncomputable def Pt.addr (q : Pt) (a : Option Addr) (i : Nat) : Option Addr := a.map fun _ => ⟨Tryd.prog.globals.size + i, q.o, none⟩
theorem ArgIn.rel {W : World} {a : Option Addr} {n c : Nat} {q : Pt} {zs : List Int} (h : ArgIn W a n c q zs) {ps : List Pt} {i : Nat} (hi : ps[i]? = some q) : RelV (renT ps) (.slice (q.addr a i) n c) (.slice a n c) := by
  rcases h.at_ with ⟨rfl, rfl, rfl⟩ | rfl
  · exact .sliceNil
  · exact .slice _ _ ⟨.inr ⟨i, q, hi, rfl, rfl⟩, rfl, rfl, fun (h : _ < Tryd.prog.globals.size) => absurd h (by show ¬ Tryd.prog.globals.size + i < Tryd.prog.globals.size; omega), by rw [renT_lo hi]; exact Nat.le_refl _⟩
theorem ArgIn.bytes {W : World} {a : Option Addr} {n c : Nat} {q : Pt} {zs : List Int} (h : ArgIn W a n c q zs) {ps : List Pt} {i : Nat} (hi : ps[i]? = some q) (C : Array Value) (e : TypeId) (τ : Nat → Question → Nat) : BytesIn (World.ret (ghostT W C e ps) τ) (q.addr a i) n zs := fun h0 => by
  rcases h.at_ with ⟨_, rfl, _⟩ | rfl
  · exact absurd h0 (Nat.lt_irrefl 0)
  · refine ⟨_, _, rfl, fun j hj => ?_⟩
    have hg : (World.ret (ghostT W C e ps) τ).heap[Tryd.prog.globals.size + i]? = some q.obj := ghostT_part W C e ps hi
    have hl := h.len
    simp only [World.cell?, hg, Pt.obj, Option.isSome_none, Bool.false_eq_true, if_false]
    rw [partRow_at, h.xs, List.getElem?_eq_getElem (by omega), List.getD_eq_getElem?_getD, List.getElem?_eq_getElem (by omega)]
    rfl
theorem arg_in {W : World} {base : Nat} {a : Option Addr} {len cap : Nat} {zs : List Int} (hok : Value.okWide Tryd.prog W .any base 22 (.slice a len cap)) (hT : ∃ cs e fz, W.heap[0]? = some (.cells cs e fz))
    (h : (a = none ∧ len = 0 ∧ cap = 0 ∧ zs = []) ∨ ∃ x, a = some x ∧ len ≤ cap ∧ cap ≤ maxLen ∧ zs.length = cap ∧ (∀ i, i < zs.length → W.cell? (x.add i) = some (.int .u8 (zs.getD i 0))) ∧ ∀ n ∈ zs, (Lit.int .u8 n).wf = true) :
    ∃ q, ArgIn W a len cap q (zs.take len) := by
  rcases h with ⟨rfl, rfl, rfl, rfl⟩ | ⟨x, rfl, hl, hm, hz, hcell, hwz⟩
  · exact ⟨⟨0, 0, []⟩, ⟨hT, (fun j u hu => by cases hu)⟩, rfl, rfl, Nat.le_refl _, (fun x hx => by cases hx), .inl ⟨rfl, rfl, rfl⟩⟩
  · have hh : x.spot = none ∧ ∃ row cells, W.shape? x.block = some (row, cells) := by
      simp only [Value.okWide, Tryd.underlying22, Cell.okWide, Cell.ok] at hok
      obtain ⟨_, _, _, h1, row, cells, h2, _⟩ := hok
      exact ⟨h1, row, cells, h2⟩
    obtain ⟨hs, row, cells, hsh⟩ := hh
    obtain ⟨b, o, sp⟩ := x
    obtain rfl : sp = none := hs
    refine ⟨⟨b, o, zs.take len⟩, ⟨?_, fun j u hu => ?_⟩, rfl, by simp; omega, hl, fun y hy => ?_, .inr rfl⟩
    · simp only [World.shape?] at hsh
      split at hsh
      · exact ⟨_, _, _, by assumption⟩
      · cases hsh
    · have hj := (List.getElem?_eq_some_iff.1 hu).1
      rw [List.length_take] at hj
      have := hcell j (by omega)
      rw [Addr.add_lit] at this
      rw [this]
      rw [List.getElem?_take, if_pos (by omega)] at hu
      rw [List.getD_eq_getElem?_getD, hu]
      rfl
    · have := bounds_u8 (hwz y (List.mem_of_mem_take hy))
      omega

end Go.Proofs.YtepbidaoloplbaaDoor

namespace Go.Proofs.YtepbidaoloplbaaDoor
open Go.RowKit

/-- An array of arrays of integers that reads as the table holds the table's numbers, row for row. -/
theorem cells_of_tab2 {H : Type} {enc : TypeId × Value → H} {P : Program} {w : World} {base : Nat} {sp : Nat → Bool} {held : Bool} {fuel : Nat} {t t2 e : TypeId} {n m : Nat} {k : IntKind} {cs : List Value} {zss : List (List Int)} {p : List MemPlace}
    (ht : P.underlying t = some (.array n t2)) (ht2 : P.underlying t2 = some (.array m e)) (he : P.underlying e = some (.int k)) (hce : P.cellsOf e = 1) (hc2 : P.cellsOf t2 = m)
    (h : DataW.trod enc P w base sp held fuel t cs = some (.agg (zss.map (Lib.tabData k)), p)) : ∀ i zs, zss[i]? = some zs → (cs.drop (i * m)).take m = zs.map fun z => Value.int k z := by
  cases fuel with
  | zero => simp [DataW.trod] at h
  | succ fuel =>
    simp only [DataW.trod, ht, hc2] at h
    split at h
    · obtain ⟨xs, hm, hx⟩ := Option.map_eq_some_iff.1 h
      have hxs : xs.map (·.1) = zss.map (Lib.tabData (H := H) k) := by
        have := congrArg Prod.fst hx
        simpa using this
      have hxl : xs.length = n := by simpa using Lib.mapM_length hm
      intro i zs hz
      have hi : i < n := by
        have h1 : i < zss.length := (List.getElem?_eq_some_iff.1 hz).1
        have := congrArg List.length hxs
        simp at this
        omega
      obtain ⟨b, hb, hf⟩ := Lib.mapM_at hm i i (by simp [hi])
      have h2 : (xs.map (·.1))[i]? = some b.1 := by simp [hb]
      rw [hxs, List.getElem?_map, hz] at h2
      have h3 : b = (Lib.tabData k zs, b.2) := by
        have := Option.some.inj h2
        rw [this]
      rw [h3] at hf
      exact Lib.cells_of_tab ht2 he hce hc2 hf
    · cases h

theorem places_of {W : World} {rest : List (String × DataW Unit)} (h : laidMet Tryd.prog (("loop.example/g00473/impl.quarterPlaces", .agg ((placesL.map castL).map (Lib.tabData .i64))) :: rest) W) : PlacesIs W := by
  obtain ⟨ps, ⟨g', t', cs, fuel, p, q, hg', ht', hvar, hd, _, _⟩, _⟩ := h
  have hg : Tryd.prog.globalNamed "loop.example/g00473/impl.quarterPlaces" = some 0 := by kernel_rfl
  have hty : (Tryd.prog.globals[0]?).map (·.type) = some 70 := by kernel_rfl
  obtain rfl := Option.some.inj (hg.symm.trans hg')
  obtain rfl := Option.some.inj (hty.symm.trans ht')
  have key := cells_of_tab2 Tryd.underlying70 Tryd.underlying69 Tryd.underlying3 (by kernel_rfl) (by kernel_rfl) hd
  intro j v hv
  have hj : j < 32 := (List.getElem?_eq_some_iff.1 hv).1
  have hc := World.var?_cell hg hvar j
  rw [Nat.zero_add, hc]
  obtain ⟨a, b, ha, hb, rfl⟩ : ∃ a b, a < 8 ∧ b < 4 ∧ j = a * 4 + b := ⟨j / 4, j % 4, by omega, by omega, by omega⟩
  have k1 := fun zs hz => congrArg (fun l : List Value => l[b]?) (key a zs hz)
  simp only [List.getElem?_take, List.getElem?_drop, if_pos hb] at k1
  have h8 : a = 0 ∨ a = 1 ∨ a = 2 ∨ a = 3 ∨ a = 4 ∨ a = 5 ∨ a = 6 ∨ a = 7 := by omega
  have h4 : b = 0 ∨ b = 1 ∨ b = 2 ∨ b = 3 := by omega
  have e : cs[a * 4 + b]? = cs.toList[a * 4 + b]? := by simp
  rw [e]
  clear e hc hvar hd key
  rcases h8 with rfl | rfl | rfl | rfl | rfl | rfl | rfl | rfl <;> rcases h4 with rfl | rfl | rfl | rfl <;> exact (k1 _ rfl).trans hv

end Go.Proofs.YtepbidaoloplbaaDoor

namespace Go.Proofs.YtepbidaoloplbaaDoor
open Go Go.Conc Go.RowKit

theorem tabW_of {W : World} (hsh : W.ShapedOpen Tryd.prog) (hP : PlacesIs W) : TabW W := by
  have h1 : (((begin Tryd.prog (fun _ _ => 0) default).world.heap[0]?).bind Obj.row?).map (fun x => x.1.size) = some 32 := by kernel_rfl
  obtain ⟨⟨zero, t⟩, h2, h3⟩ := Option.map_eq_some_iff.1 h1
  obtain ⟨cs, h4, h5, _⟩ := hsh.1 0 zero t tabG h2
  have hsz : cs.size = 32 := h5.trans h3
  have hcell : ∀ (j : Nat) v, placesC[j]? = some v → cs[j]? = some v := fun j v hv => by
    have := hP j v hv
    simpa only [World.cell?, h4, Option.isSome_none, Bool.false_eq_true, if_false, Nat.zero_add] using this
  have hps : placesC.toArray.size = 32 := by kernel_rfl
  have hfl : placesC.all flatC = true := by kernel_rfl
  refine ⟨cs, t, ⟨0, 0, h4, fun i _ h => absurd h (Nat.not_lt_zero _)⟩, fun v hv => ?_, hcell⟩
  obtain ⟨j, hj, rfl⟩ := Array.mem_iff_getElem.1 hv
  have hj' : j < placesC.length := by
    have : placesC.length = 32 := by simpa using hps
    omega
  have := hcell j placesC[j] (List.getElem?_eq_getElem hj')
  rw [Array.getElem?_eq_getElem hj] at this
  rw [Option.some.inj this]
  exact List.all_eq_true.1 hfl _ (List.getElem_mem _)

end Go.Proofs.YtepbidaoloplbaaDoor

namespace Go.Proofs.YtepbidaoloplbaaDoor.Alt
open Go.RowKit

def CtOk (ct : Int) (_ : World) : Prop := ct ≤ 9223372036854775807
theorem strS_le (ks : List Int) (ct : Int) (ns bs : List Int) : (strS ks ct ns bs).length ≤ 4000 := by
  unfold strS
  split
  · rename_i h
    rw [outS_length]
    have := h.1
    omega
  · exact Nat.zero_le _
theorem xor_u8 (u v : Int) : 0 ≤ bits BinOp.xor IntKind.u8 u v ∧ bits BinOp.xor IntKind.u8 u v < 256 := by
  have e : bits BinOp.xor IntKind.u8 u v = IntKind.u8.wrap ((BitVec.ofInt 8 u ^^^ BitVec.ofInt 8 v).toNat : Int) := rfl
  rw [e]
  simp [IntKind.wrap, IntKind.bits, IntKind.signed]
  omega
theorem xorL_byte : ∀ {xs ys : List Int}, ∀ x ∈ xorL xs ys, 0 ≤ x ∧ x < 256
  | [], ys, x, hx => by simp [xorL] at hx
  | u :: xs, [], x, hx => by simp [xorL] at hx
  | u :: xs, v :: ys, x, hx => by
    simp only [xorL, List.zipWith_cons_cons, List.mem_cons] at hx
    rcases hx with rfl | hx
    · exact xor_u8 u v
    · exact xorL_byte (xs := xs) (ys := ys) x hx
theorem strS_byte {ks : List Int} {ct : Int} {ns bs : List Int} : ∀ x ∈ strS ks ct ns bs, 0 ≤ x ∧ x < 256 := by
  have key : ∀ i, ∀ x ∈ outS ks ct ns bs i, 0 ≤ x ∧ x < 256 := by
    intro i
    induction i with
    | zero => intro x hx; cases hx
    | succ i ih =>
      intro x hx
      rw [outS] at hx
      rcases List.mem_append.1 hx with h | h
      · exact ih x h
      · exact xorL_byte x h
  unfold strS
  split
  · exact key _
  · intro x hx; cases hx
theorem specStream_own (p q r : Option Addr) (n m k c d f : Nat) (count : Int) (ks ns bs : List Int) (w : World) (hf : k ≤ f) (hx : ks.length = n) (hy : ns.length = m) (hz : bs.length = k) (h : BytesIn w p n ks) (h' : BytesIn w q m ns) (h'' : BytesIn w r k bs) (hb1 : ∀ x ∈ ks, 0 ≤ x ∧ x < 256) (hb2 : ∀ x ∈ ns, 0 ≤ x ∧ x < 256) :
    Calls Altd.prog 12 #[.slice p n c, .int .i64 count, .slice q m d, .slice r k f] w fun e w' => ∃ p' c', e = .returned (.slice p' (strS ks count ns bs).length c') ∧ Own 5 w' w.heap.size w'.heap.size (.slice p' (strS ks count ns bs).length c') (strS ks count ns bs).length (strS ks count ns bs) ∧ Below w.heap.size w w' :=
  (specStr_any p q r n m k c d f count ks ns bs w hf hx hy hz h h' h'' hb1 hb2).mono fun e w' ⟨p', L, c', h1, h2, h3⟩ => by
    have hl := h2.len
    subst hl
    exact ⟨p', c', h1, h2, h3⟩
theorem implStream_own (p q r : Option Addr) (n m k c d f : Nat) (count : Int) (ks ns bs : List Int) (w : World) (hn : n ≤ 1048576) (hm : m ≤ 1048576) (hk : k ≤ 1048576) (hc : n ≤ c) (hd : m ≤ d) (hf : k ≤ f) (hct : count ≤ 9223372036854775807) (hx : ks.length = n) (hy : ns.length = m) (hz : bs.length = k) (h : BytesIn w p n ks) (h' : BytesIn w q m ns) (h'' : BytesIn w r k bs) (hb1 : ∀ x ∈ ks, 0 ≤ x ∧ x < 256) (hb2 : ∀ x ∈ ns, 0 ≤ x ∧ x < 256) (hb3 : ∀ x ∈ bs, 0 ≤ x ∧ x < 256) :
    Calls Altd.prog 8 #[.slice p n c, .int .i64 count, .slice q m d, .slice r k f] w fun e w' => ∃ p' c', e = .returned (.slice p' (strS ks count ns bs).length c') ∧ Own 5 w' w.heap.size w'.heap.size (.slice p' (strS ks count ns bs).length c') (strS ks count ns bs).length (strS ks count ns bs) ∧ Below w.heap.size w w' := by
  refine (altStream_any p q r n m k c d f count ks ns bs w ⟨⟨hc, by omega, hd, by omega, hf, by omega, hct⟩, hb1, hb2, hb3⟩ hx hy hz h h' h'').mono fun e w' ⟨v, h1, h2, h3⟩ => ?_
  rcases h3 with ⟨hno, rfl⟩ | ⟨hg, g, rfl, hgs, hrow⟩
  · rw [good_no (by rw [hx, hy, hz]; exact hno)]
    exact ⟨none, 0, h1, .of ⟨rfl, .inl ⟨rfl, rfl⟩⟩, h2⟩
  · have hgl : GoodT ks.length ns.length bs.length count := by rw [hx, hy, hz]; exact hg
    rw [good_ok hgl]
    have hl : (strT ks count ns bs).length = k := by
      rw [strT, out_same, outS_length, hz]
      omega
    rw [hl]
    refine ⟨_, _, h1, .of ⟨by simp [hl], .inr ⟨g, k, _, rfl, hgs, hrow, Nat.le_refl _, by unfold maxLen; omega, by simp [hl], ?_⟩⟩, h2⟩
    simp only [Nat.mul_one]
    exact List.take_of_length_le (by simp [hl])

end Go.Proofs.YtepbidaoloplbaaDoor.Alt

namespace Go.Proofs.YtepbidaoloplbaaDoor
open Go.RowKit

/-- The stream's own byte at place j. -/
def keyS (ks : List Int) (ct : Int) (ns : List Int) (j : Nat) : Int := (blkB ks (ct + ((j / 64 : Nat) : Int)) ns).getD (j % 64) 0
theorem xorL_get (xs ys : List Int) (j : Nat) : (xorL xs ys)[j]? = (xs[j]?).bind fun x => (ys[j]?).map fun y => bits BinOp.xor IntKind.u8 x y := by
  simp only [xorL, List.getElem?_zipWith]
  cases xs[j]? <;> cases ys[j]? <;> rfl
theorem outS_get (ks : List Int) (ct : Int) (ns bs : List Int) (m j : Nat) : (outS ks ct ns bs m)[j]? = if j < 64 * m then (bs[j]?).map fun x => bits BinOp.xor IntKind.u8 (keyS ks ct ns j) x else none := by
  induction m with
  | zero => simp [outS]
  | succ m ih =>
    rw [outS, List.getElem?_append, outS_length]
    by_cases h1 : j < min (64 * m) bs.length
    · rw [if_pos h1, ih, if_pos (by omega), if_pos (by omega)]
    · rw [if_neg h1]
      by_cases h2 : bs.length ≤ j
      · have e1 : bs[j]? = none := List.getElem?_eq_none h2
        have e2 : (xorL (blkB ks (ct + (m : Int)) ns) (bs.drop (64 * m)))[j - min (64 * m) bs.length]? = none := by
          apply List.getElem?_eq_none
          rw [xorL_length, List.length_drop, blkB_length]
          omega
        rw [e1, e2]
        split <;> rfl
      · have e0 : min (64 * m) bs.length = 64 * m := by omega
        rw [e0, xorL_get, List.getElem?_drop, show 64 * m + (j - 64 * m) = j by omega]
        by_cases h3 : j < 64 * (m + 1)
        · rw [if_pos h3]
          have hl := blkB_length ks (ct + (m : Int)) ns
          have hj : j / 64 = m := by omega
          have hj' : j % 64 = j - 64 * m := by omega
          unfold keyS
          have e3 : (blkB ks (ct + (m : Int)) ns)[j - 64 * m]? = some ((blkB ks (ct + (m : Int)) ns)[j - 64 * m]'(by omega)) := List.getElem?_eq_getElem (by omega)
          rw [hj, hj']
          simp only [List.getD_eq_getElem?_getD, e3, Option.bind_some, Option.getD_some]
        · rw [if_neg h3]
          have hl := blkB_length ks (ct + (m : Int)) ns
          rw [List.getElem?_eq_none (by omega)]
          rfl
theorem strS_get {ks ns bs : List Int} {ct : Int} (h : GoodT ks.length ns.length bs.length ct) (j : Nat) : (strS ks ct ns bs)[j]? = (bs[j]?).map fun x => bits BinOp.xor IntKind.u8 (keyS ks ct ns j) x := by
  rw [good_ok h, strT, out_same, outS_get]
  by_cases hj : j < bs.length
  · rw [if_pos (by omega)]
  · rw [List.getElem?_eq_none (by omega)]
    split <;> rfl
theorem strS_length {ks ns bs : List Int} {ct : Int} (h : GoodT ks.length ns.length bs.length ct) : (strS ks ct ns bs).length = bs.length := by
  rw [good_ok h, strT, out_same, outS_length]
  omega
theorem wrap_u8 (n : Nat) (h : n < 2 ^ 8) : IntKind.u8.wrap (n : Int) = (n : Int) := by
  simp [IntKind.wrap, IntKind.bits, IntKind.signed]
  omega
theorem xor_twice (k x : Int) (h0 : 0 ≤ x) (h1 : x < 256) : bits BinOp.xor IntKind.u8 k (bits BinOp.xor IntKind.u8 k x) = x := by
  have e : ∀ a b : Int, bits BinOp.xor IntKind.u8 a b = ((BitVec.ofInt 8 a ^^^ BitVec.ofInt 8 b).toNat : Int) := fun a b => by
    have : bits BinOp.xor IntKind.u8 a b = IntKind.u8.wrap ((BitVec.ofInt 8 a ^^^ BitVec.ofInt 8 b).toNat : Int) := rfl
    rw [this]
    exact wrap_u8 _ (BitVec.ofInt 8 a ^^^ BitVec.ofInt 8 b).isLt
  rw [e, e]
  have : BitVec.ofInt 8 (((BitVec.ofInt 8 k ^^^ BitVec.ofInt 8 x).toNat : Nat) : Int) = BitVec.ofInt 8 k ^^^ BitVec.ofInt 8 x := by
    rw [BitVec.ofInt_natCast, BitVec.ofNat_toNat, BitVec.setWidth_eq]
  rw [this, ← BitVec.xor_assoc, BitVec.xor_self, BitVec.zero_xor, BitVec.toNat_ofInt]
  omega
theorem strS_twice {ks ns bs : List Int} {ct : Int} (h : GoodT ks.length ns.length bs.length ct) (hb : ∀ x ∈ bs, 0 ≤ x ∧ x < 256) : strS ks ct ns (strS ks ct ns bs) = bs := by
  apply List.ext_getElem?
  intro j
  rw [strS_get (by rw [strS_length h]; exact h), strS_get h]
  cases hj : bs[j]? with
  | none => rfl
  | some x =>
    have := hb x (List.mem_of_getElem? hj)
    simp only [Option.map_some]
    rw [xor_twice _ _ this.1 this.2]
theorem GoodT.less {n m k k' : Nat} {ct : Int} (h : GoodT n m k ct) (hk : k' ≤ k) : GoodT n m k' ct := by
  obtain ⟨h1, h2, h3, h4, h5⟩ := h
  exact ⟨h1, h2, by omega, h4, by omega⟩
theorem strS_take {ks ns bs : List Int} {ct : Int} (h : GoodT ks.length ns.length bs.length ct) (i : Nat) : strS ks ct ns (bs.take i) = (strS ks ct ns bs).take i := by
  apply List.ext_getElem?
  intro j
  rw [strS_get (h.less (by rw [List.length_take]; omega)), List.getElem?_take, List.getElem?_take]
  split
  · rw [strS_get h]
  · rfl

end Go.Proofs.YtepbidaoloplbaaDoor

namespace Go.Proofs.YtepbidaoloplbaaDoor
open Go.RowKit

/-- A cursor in block a, over the bytes xs at p. -/
def Cur (w : World) (a : Nat) (p : Option Addr) (n c : Nat) (xs : List Int) : Prop :=
  ∃ i h : Int, w.heap[a]? = some (.cells #[.slice p n c, .int .i64 i, .int .i64 h] 65 (0, 0)) ∧ 0 ≤ i ∧ i ≤ n ∧ n ≤ 1048576 ∧ xs.length = n ∧ BytesIn w p n xs ∧ ∀ x ∈ xs, 0 ≤ x ∧ x < 256

theorem Cur.not_in {w : World} {a : Nat} {p : Option Addr} {n c : Nat} {b o : Nat} {k : Nat} {u : Int} {i h : Int} (ha : w.heap[a]? = some (.cells #[.slice p n c, .int .i64 i, .int .i64 h] 65 (0, 0))) (hc : w.cell? ⟨b, o + k, none⟩ = some (.int .u8 u)) : b ≠ a := by
  intro e
  subst e
  rw [cell_of_row w b (o + k) _ _ _ ha] at hc
  match o + k, hc with
  | 0, hc => simp at hc
  | 1, hc => simp at hc
  | 2, hc => simp at hc
  | j + 3, hc => simp at hc

theorem in_grown {w w' : World} {p : Option Addr} {n : Nat} {xs : List Int} {a : Nat} (h : BytesIn w p n xs) (hg : w.grownBy w' (some a)) (hne : ∀ b o, p = some ⟨b, o, none⟩ → 0 < n → b ≠ a) : BytesIn w' p n xs := by
  intro hn
  obtain ⟨b, o, rfl, hc⟩ := h hn
  refine ⟨b, o, rfl, fun i hi => ?_⟩
  exact hg.cell (hc i hi) (by have := hne b o rfl hn; simp; exact this)

theorem and255 (y : Int) : 0 ≤ bits .and .i64 y 255 ∧ bits .and .i64 y 255 ≤ 255 := by
  have e : (BitVec.ofInt 64 y &&& BitVec.ofInt 64 255).toNat ≤ 255 := by
    rw [BitVec.toNat_and]
    exact Nat.le_trans Nat.and_le_right (by decide)
  have : bits .and .i64 y 255 = IntKind.i64.wrap ((BitVec.ofInt 64 y &&& BitVec.ofInt 64 255).toNat : Int) := rfl
  rw [this, IntKind.wrap_i64]
  omega

theorem cells_cur {w : World} {a : Nat} {v0 v1 v2 : Value} (ha : w.heap[a]? = some (.cells #[v0, v1, v2] 65 (0, 0))) :
    w.cell? ⟨a, 0, none⟩ = some v0 ∧ w.cell? ⟨a, 1, none⟩ = some v1 ∧ w.cell? ⟨a, 2, none⟩ = some v2 ∧ w.frozen? ⟨a, 1, none⟩ = false ∧ w.frozen? ⟨a, 2, none⟩ = false := by
  refine ⟨?_, ?_, ?_, frozen_of_row _ _ _ _ _ ha, frozen_of_row _ _ _ _ _ ha⟩ <;> rw [cell_of_row _ _ _ _ _ _ ha] <;> rfl

theorem set2_cur {w : World} {a : Nat} {v0 v1 v2 : Value} (ha : w.heap[a]? = some (.cells #[v0, v1, v2] 65 (0, 0))) (u : Value) :
    (w.setCell ⟨a, 2, none⟩ u).heap[a]? = some (.cells #[v0, v1, u] 65 (0, 0)) ∧ w.grownBy (w.setCell ⟨a, 2, none⟩ u) (some a) :=
  ⟨heap_setCell_same w a 2 _ _ u ha, ⟨rfl, rfl, rfl, by simp, fun k _ hk => heap_setCell_other w ⟨a, 2, none⟩ k u (fun e => hk (by simp [e]))⟩⟩
theorem set1_cur {w : World} {a : Nat} {v0 v1 v2 : Value} (ha : w.heap[a]? = some (.cells #[v0, v1, v2] 65 (0, 0))) (u : Value) :
    (w.setCell ⟨a, 1, none⟩ u).heap[a]? = some (.cells #[v0, u, v2] 65 (0, 0)) ∧ w.grownBy (w.setCell ⟨a, 1, none⟩ u) (some a) :=
  ⟨heap_setCell_same w a 1 _ _ u ha, ⟨rfl, rfl, rfl, by simp, fun k _ hk => heap_setCell_other w ⟨a, 1, none⟩ k u (fun e => hk (by simp [e]))⟩⟩

set_option maxHeartbeats 2000000 in
theorem l1Byte_any (a : Nat) (p : Option Addr) (n c : Nat) (xs : List Int) (w : World) (hcur : Cur w a p n c xs) :
    Calls Tryd.prog 48 #[.pointer (some ⟨a, 0, none⟩)] w fun e w' => ∃ x : Int, e = .returned (.int .i64 x) ∧ 0 ≤ x ∧ x ≤ 255 ∧ Cur w' a p n c xs ∧ w.grownBy w' (some a) := by
  obtain ⟨i, h, ha, hi0, hin, hn, hx, hb, hr⟩ := hcur
  obtain ⟨c0, c1, c2, f1, f2⟩ := cells_cur ha
  go_enter Tryd.func48, Tryd.ntmps48
  go_wp2
  generalize wrap64 (wrap64 (h * 6364136223846793005) + 1442695040888963407) = H
  have s2 := set2_cur ha (.int .i64 H)
  generalize w.setCell ⟨a, 2, none⟩ (.int .i64 H) = W at s2 ⊢
  obtain ⟨ha1, g1⟩ := s2
  have hb1 : BytesIn W p n xs := in_grown hb g1 fun b o e hn => by
    obtain ⟨b', o', e', hc⟩ := hb hn
    rw [e] at e'
    obtain ⟨rfl, rfl⟩ : b = b' ∧ o = o' := by simpa using e'
    exact Cur.not_in ha (hc 0 hn)
  clear c0 c1 c2 f1 f2 hb ha
  obtain ⟨c0, c1, c2, f1, f2⟩ := cells_cur ha1
  go_quiet (fail)
  generalize hX : bits BinOp.and IntKind.i64 (bits BinOp.xor IntKind.i64 (H / 8589934592) (H / 35184372088832)) 255 = X
  have hX1 := and255 (bits BinOp.xor IntKind.i64 (H / 8589934592) (H / 35184372088832))
  rw [hX] at hX1
  clear hX
  obtain ⟨x0, x1⟩ := hX1
  by_cases hlt : i < (n : Int)
  · obtain ⟨k, hk⟩ : ∃ k : Nat, i = (k : Int) := ⟨i.toNat, by omega⟩
    subst hk
    obtain ⟨b, o, rfl, hc⟩ := hb1 (by omega)
    have hck := hc k (by omega)
    obtain ⟨u, hu⟩ : ∃ u, u = xs.getD k 0 := ⟨_, rfl⟩
    rw [← hu] at hck
    have hu0 : 0 ≤ u ∧ u < 256 := by
      rw [hu]; apply hr
      simp [List.getElem?_eq_getElem (show k < xs.length by omega)]
    obtain ⟨u0, u1⟩ := hu0
    have hy := and255 (X + u)
    have s1 := set1_cur ha1 (.int .i64 ((k : Int) + 1))
    have hin2 : BytesIn W (some ⟨b, o, none⟩) n xs := hb1
    have hnot := Cur.not_in ha1 hck
    clear hc hu hb1
    go_wp2
    go_quiet (fail)
    go_wp2
    go_quiet (fail)
    go_wp2
    go_ret
    refine ⟨_, rfl, hy.1, hy.2, ⟨(k : Int) + 1, H, s1.1, by omega, by omega, hn, hx, ?_, hr⟩, ?_⟩
    · exact in_grown (w' := W.setCell ⟨a, 1, none⟩ (.int .i64 ((k : Int) + 1))) hin2 s1.2 fun b' o' e _ => by
        obtain ⟨rfl, rfl⟩ : b = b' ∧ o = o' := by simpa using e
        exact hnot
    · exact grown_trans g1 ⟨s1.2.os, s1.2.tape, s1.2.output, s1.2.size, s1.2.block⟩
  · go_wp2
    go_quiet (fail)
    go_wp2
    go_ret
    exact ⟨_, rfl, x0, x1, ⟨i, H, ha1, hi0, hin, hn, hx, hb1, hr⟩, ⟨g1.os, g1.tape, g1.output, g1.size, g1.block⟩⟩

set_option maxHeartbeats 2000000 in
theorem l1Below_any (a : Nat) (p : Option Addr) (n c : Nat) (xs : List Int) (m : Int) (w : World) (hm : 1 ≤ m) (hm2 : m ≤ 256) (hcur : Cur w a p n c xs) :
    Calls Tryd.prog 27 #[.pointer (some ⟨a, 0, none⟩), .int .i64 m] w fun e w' => ∃ x : Int, e = .returned (.int .i64 x) ∧ 0 ≤ x ∧ x < m ∧ Cur w' a p n c xs ∧ w.grownBy w' (some a) := by
  have c1 : ¬ m ≤ 0 := by omega
  go_enter Tryd.func27, Tryd.ntmps27
  go_wp2_with (fail)
  refine (l1Byte_any a p n c xs _ hcur).mono ?_
  rintro e w1 ⟨x, rfl, hx0, hx1, hc1, g1⟩
  have hz : (m == 0) = false := by simp; omega
  go_wp2_with (fail)
  go_ret
  exact ⟨_, rfl, Int.emod_nonneg _ (by omega), Int.emod_lt_of_pos _ (by omega), hc1, g1⟩

set_option maxHeartbeats 2000000 in
set_option maxRecDepth 100000 in
theorem l1New_any (p : Option Addr) (n c : Nat) (xs : List Int) (w : World) (hn : n ≤ 1048576) (hx : xs.length = n) (hb : BytesIn w p n xs) (hr : ∀ x ∈ xs, 0 ≤ x ∧ x < 256) :
    Calls Tryd.prog 23 #[.slice p n c] w fun e w' => ∃ a : Nat, e = .returned (.pointer (some ⟨a, 0, none⟩)) ∧ w.heap.size ≤ a ∧ a < w'.heap.size ∧ Cur w' a p n c xs ∧ Below w.heap.size w w' := by
  go_enter Tryd.func23, Tryd.ntmps23
  go_wp2
  go_loop [3, 4] (fun q i => ∃ k : Nat, k ≤ n ∧ i = .int .i64 k ∧ q = .int .i64 (intOf q)) (fun _ i => n - (intOf i).toNat)
  case atStart => exact ⟨0, Nat.zero_le _, rfl, rfl⟩
  case round =>
    obtain ⟨k, hk, rfl, hq⟩ := hrel
    obtain ⟨h, rfl⟩ : ∃ h, u3 = .int .i64 h := ⟨_, hq⟩
    clear hq
    by_cases hlt : k < n
    · by_cases h4 : k < 4000
      · obtain ⟨b, o, rfl, hc⟩ := hb (by omega)
        have hck := hc k hlt
        obtain ⟨u, hu⟩ : ∃ u, u = xs.getD k 0 := ⟨_, rfl⟩
        rw [← hu] at hck
        clear hc hu
        go_wp2
        go_round
        case rel => exact ⟨k + 1, by omega, by go_num, by unfold intOf; rfl⟩
        case measure => simp [intOf]; omega
      · have h4' : ¬ (k : Int) < 4000 := by omega
        go_wp2
        go_ret
        exact ⟨w.heap.size, rfl, Nat.le_refl _, by simp, ⟨0, h, heap_alloc_new w _, Int.le_refl _, by omega, hn, hx, in_below hb ((Below.refl _ _).alloc (Nat.le_refl _) _), hr⟩, (Below.refl _ _).alloc (Nat.le_refl _) _⟩
    · go_wp2
      go_ret
      exact ⟨w.heap.size, rfl, Nat.le_refl _, by simp, ⟨0, h, heap_alloc_new w _, Int.le_refl _, by omega, hn, hx, in_below hb ((Below.refl _ _).alloc (Nat.le_refl _) _), hr⟩, (Below.refl _ _).alloc (Nat.le_refl _) _⟩

end Go.Proofs.YtepbidaoloplbaaDoor

namespace Go.Proofs.YtepbidaoloplbaaDoor.Alt
open Go.RowKit

set_option maxHeartbeats 2000000 in
theorem l1Byte_any (a : Nat) (p : Option Addr) (n c : Nat) (xs : List Int) (w : World) (hcur : Cur w a p n c xs) :
    Calls Altd.prog 48 #[.pointer (some ⟨a, 0, none⟩)] w fun e w' => ∃ x : Int, e = .returned (.int .i64 x) ∧ 0 ≤ x ∧ x ≤ 255 ∧ Cur w' a p n c xs ∧ w.grownBy w' (some a) := by
  obtain ⟨i, h, ha, hi0, hin, hn, hx, hb, hr⟩ := hcur
  obtain ⟨c0, c1, c2, f1, f2⟩ := cells_cur ha
  go_enter Altd.func48, Altd.ntmps48
  go_wp2
  generalize wrap64 (wrap64 (h * 6364136223846793005) + 1442695040888963407) = H
  have s2 := set2_cur ha (.int .i64 H)
  generalize w.setCell ⟨a, 2, none⟩ (.int .i64 H) = W at s2 ⊢
  obtain ⟨ha1, g1⟩ := s2
  have hb1 : BytesIn W p n xs := in_grown hb g1 fun b o e hn => by
    obtain ⟨b', o', e', hc⟩ := hb hn
    rw [e] at e'
    obtain ⟨rfl, rfl⟩ : b = b' ∧ o = o' := by simpa using e'
    exact Cur.not_in ha (hc 0 hn)
  clear c0 c1 c2 f1 f2 hb ha
  obtain ⟨c0, c1, c2, f1, f2⟩ := cells_cur ha1
  go_quiet (fail)
  generalize hX : bits BinOp.and IntKind.i64 (bits BinOp.xor IntKind.i64 (H / 8589934592) (H / 35184372088832)) 255 = X
  have hX1 := and255 (bits BinOp.xor IntKind.i64 (H / 8589934592) (H / 35184372088832))
  rw [hX] at hX1
  clear hX
  obtain ⟨x0, x1⟩ := hX1
  by_cases hlt : i < (n : Int)
  · obtain ⟨k, hk⟩ : ∃ k : Nat, i = (k : Int) := ⟨i.toNat, by omega⟩
    subst hk
    obtain ⟨b, o, rfl, hc⟩ := hb1 (by omega)
    have hck := hc k (by omega)
    obtain ⟨u, hu⟩ : ∃ u, u = xs.getD k 0 := ⟨_, rfl⟩
    rw [← hu] at hck
    have hu0 : 0 ≤ u ∧ u < 256 := by
      rw [hu]; apply hr
      simp [List.getElem?_eq_getElem (show k < xs.length by omega)]
    obtain ⟨u0, u1⟩ := hu0
    have hy := and255 (X + u)
    have s1 := set1_cur ha1 (.int .i64 ((k : Int) + 1))
    have hin2 : BytesIn W (some ⟨b, o, none⟩) n xs := hb1
    have hnot := Cur.not_in ha1 hck
    clear hc hu hb1
    go_wp2
    go_quiet (fail)
    go_wp2
    go_quiet (fail)
    go_wp2
    go_ret
    refine ⟨_, rfl, hy.1, hy.2, ⟨(k : Int) + 1, H, s1.1, by omega, by omega, hn, hx, ?_, hr⟩, ?_⟩
    · exact in_grown (w' := W.setCell ⟨a, 1, none⟩ (.int .i64 ((k : Int) + 1))) hin2 s1.2 fun b' o' e _ => by
        obtain ⟨rfl, rfl⟩ : b = b' ∧ o = o' := by simpa using e
        exact hnot
    · exact grown_trans g1 ⟨s1.2.os, s1.2.tape, s1.2.output, s1.2.size, s1.2.block⟩
  · go_wp2
    go_quiet (fail)
    go_wp2
    go_ret
    exact ⟨_, rfl, x0, x1, ⟨i, H, ha1, hi0, hin, hn, hx, hb1, hr⟩, ⟨g1.os, g1.tape, g1.output, g1.size, g1.block⟩⟩

set_option maxHeartbeats 2000000 in
theorem l1Below_any (a : Nat) (p : Option Addr) (n c : Nat) (xs : List Int) (m : Int) (w : World) (hm : 1 ≤ m) (hm2 : m ≤ 256) (hcur : Cur w a p n c xs) :
    Calls Altd.prog 27 #[.pointer (some ⟨a, 0, none⟩), .int .i64 m] w fun e w' => ∃ x : Int, e = .returned (.int .i64 x) ∧ 0 ≤ x ∧ x < m ∧ Cur w' a p n c xs ∧ w.grownBy w' (some a) := by
  have c1 : ¬ m ≤ 0 := by omega
  go_enter Altd.func27, Altd.ntmps27
  go_wp2_with (fail)
  refine (l1Byte_any a p n c xs _ hcur).mono ?_
  rintro e w1 ⟨x, rfl, hx0, hx1, hc1, g1⟩
  have hz : (m == 0) = false := by simp; omega
  go_wp2_with (fail)
  go_ret
  exact ⟨_, rfl, Int.emod_nonneg _ (by omega), Int.emod_lt_of_pos _ (by omega), hc1, g1⟩

set_option maxHeartbeats 2000000 in
set_option maxRecDepth 100000 in
theorem l1New_any (p : Option Addr) (n c : Nat) (xs : List Int) (w : World) (hn : n ≤ 1048576) (hx : xs.length = n) (hb : BytesIn w p n xs) (hr : ∀ x ∈ xs, 0 ≤ x ∧ x < 256) :
    Calls Altd.prog 23 #[.slice p n c] w fun e w' => ∃ a : Nat, e = .returned (.pointer (some ⟨a, 0, none⟩)) ∧ w.heap.size ≤ a ∧ a < w'.heap.size ∧ Cur w' a p n c xs ∧ Below w.heap.size w w' := by
  go_enter Altd.func23, Altd.ntmps23
  go_wp2
  go_loop [3, 4] (fun q i => ∃ k : Nat, k ≤ n ∧ i = .int .i64 k ∧ q = .int .i64 (intOf q)) (fun _ i => n - (intOf i).toNat)
  case atStart => exact ⟨0, Nat.zero_le _, rfl, rfl⟩
  case round =>
    obtain ⟨k, hk, rfl, hq⟩ := hrel
    obtain ⟨h, rfl⟩ : ∃ h, u3 = .int .i64 h := ⟨_, hq⟩
    clear hq
    by_cases hlt : k < n
    · by_cases h4 : k < 4000
      · obtain ⟨b, o, rfl, hc⟩ := hb (by omega)
        have hck := hc k hlt
        obtain ⟨u, hu⟩ : ∃ u, u = xs.getD k 0 := ⟨_, rfl⟩
        rw [← hu] at hck
        clear hc hu
        go_wp2
        go_round
        case rel => exact ⟨k + 1, by omega, by go_num, by unfold intOf; rfl⟩
        case measure => simp [intOf]; omega
      · have h4' : ¬ (k : Int) < 4000 := by omega
        go_wp2
        go_ret
        exact ⟨w.heap.size, rfl, Nat.le_refl _, by simp, ⟨0, h, heap_alloc_new w _, Int.le_refl _, by omega, hn, hx, in_below hb ((Below.refl _ _).alloc (Nat.le_refl _) _), hr⟩, (Below.refl _ _).alloc (Nat.le_refl _) _⟩
    · go_wp2
      go_ret
      exact ⟨w.heap.size, rfl, Nat.le_refl _, by simp, ⟨0, h, heap_alloc_new w _, Int.le_refl _, by omega, hn, hx, in_below hb ((Below.refl _ _).alloc (Nat.le_refl _) _), hr⟩, (Below.refl _ _).alloc (Nat.le_refl _) _⟩

end Go.Proofs.YtepbidaoloplbaaDoor.Alt

namespace Go.Proofs.YtepbidaoloplbaaDoor
open Go.RowKit

theorem Cur.lt {w : World} {a : Nat} {p : Option Addr} {n c : Nat} {xs : List Int} (h : Cur w a p n c xs) : a < w.heap.size := by
  obtain ⟨i, k, ha, _⟩ := h
  exact (Array.getElem?_eq_some_iff.1 ha).1
theorem Cur.code_lt {w : World} {a : Nat} {p : Option Addr} {n c : Nat} {xs : List Int} (h : Cur w a p n c xs) : ∀ b o, p = some ⟨b, o, none⟩ → 0 < n → b < w.heap.size := by
  obtain ⟨i, k, ha, _, _, _, _, hb, _⟩ := h
  intro b o e hn
  obtain ⟨b', o', e', hc⟩ := hb hn
  rw [e] at e'
  obtain ⟨rfl, rfl⟩ : b = b' ∧ o = o' := by simpa using e'
  exact World.block_lt_of_cell? w ⟨b, o + 0, none⟩ (hc 0 hn)
theorem Cur.below {w1 w2 : World} {B a : Nat} {p : Option Addr} {n c : Nat} {xs : List Int} (h : Cur w1 a p n c xs) (hb : Below B w1 w2) (ha : a < B) (hp : ∀ b o, p = some ⟨b, o, none⟩ → 0 < n → b < B) : Cur w2 a p n c xs := by
  obtain ⟨i, k, h1, h2, h3, h4, h5, h6, h7⟩ := h
  refine ⟨i, k, by rw [hb.block a ha]; exact h1, h2, h3, h4, h5, ?_, h7⟩
  intro hn
  obtain ⟨b, o, rfl, hc⟩ := h6 hn
  refine ⟨b, o, rfl, fun j hj => ?_⟩
  rw [hb.cell (p := ⟨b, o + j, none⟩) (hp b o rfl hn)]
  exact hc j hj

/-- A row that lies behind the cursor stays as it was while the cursor is moved on. -/
theorem owns_cur {w w' : World} {a base e size : Nat} {v : Value} {n : Nat} {xs : List Value} (h : w.ownsRow base e size v n xs) (hg : w.grownBy w' (some a)) (ha : a < base) : w'.ownsRow base e size v n xs := by
  refine h.kept hg ?_
  rcases hv : v.ownBlock with _ | k
  · exact .inl rfl
  · right
    have := (h.lt k hv).1
    simp
    omega

theorem grown_below {w w2 w3 : World} {row : Option Nat} (h : w.grownBy w2 row) (hb : Below w.heap.size w2 w3) : w.grownBy w3 row :=
  ⟨hb.os.trans h.os, hb.tape.trans h.tape, hb.output.trans h.output, Nat.le_trans h.size hb.size, fun k hk hr => (hb.block k hk).trans (h.block k hk hr)⟩

set_option maxHeartbeats 2000000 in
theorem l1DrawBytes_any (a : Nat) (p : Option Addr) (n c : Nat) (xs : List Int) (m : Int) (w : World) (hm : 0 ≤ m) (hm2 : m ≤ 255) (hcur : Cur w a p n c xs) :
    Calls Tryd.prog 28 #[.pointer (some ⟨a, 0, none⟩), .int .i64 m] w fun e w' => ∃ g k c' ys, e = .returned (.slice (some ⟨g, 0, none⟩) k c') ∧ (k : Int) ≤ m ∧ Own 5 w' w.heap.size w'.heap.size (.slice (some ⟨g, 0, none⟩) k c') k ys ∧ (∀ y ∈ ys, 0 ≤ y ∧ y < 256) ∧ Cur w' a p n c xs ∧ w.grownBy w' (some a) := by
  obtain ⟨i0, hi, hz0, hz1, hz2⟩ := info_parts infoByte
  have ha := hcur.lt
  have hcl := hcur.code_lt
  go_enter Tryd.func28, Tryd.ntmps28
  go_wp2_with (fail)
  have hb0 : Below w.heap.size w (w.alloc (.cells #[] 5)) := (Below.refl _ _).alloc (Nat.le_refl _) _
  refine (l1Below_any a p n c xs (m + 1) _ (by omega) (by omega) (hcur.below hb0 ha hcl)).mono ?_
  rintro e w1 ⟨x, rfl, hx0, hx1, hc1, g1⟩
  obtain ⟨K, hK⟩ : ∃ K : Nat, x = (K : Int) := ⟨x.toNat, by omega⟩
  subst hK
  have o1 : w1.ownsRow w.heap.size 5 1 (.slice (some ⟨w.heap.size, 0, none⟩) 0 0) 0 (([] : List Int).map (Value.int .u8)) := owns_cur (World.ownsRow_made w #[] 0 (Nat.le_refl _) (by unfold maxLen; omega) rfl) g1 ha
  have gg : w.grownBy w1 (some a) := grown_trans (World.grownBy_alloc w _ _) g1
  clear hb0 g1
  go_wp2
  go_loopw [5, 7] (fun v i wr => ∃ (k : Nat) (ys : List Int), k ≤ K ∧ i = .int .i64 k ∧ Hid (∃ g cap, v = .slice (some ⟨g, 0, none⟩) k cap) ∧ wr.ownsRow w.heap.size 5 1 v k (ys.map (Value.int .u8)) ∧ Hid (∀ y ∈ ys, 0 ≤ y ∧ y < 256) ∧ Cur wr a p n c xs ∧ w.grownBy wr (some a))
    (fun _ i _ => K - (intOf i).toNat)
  case atStart => exact ⟨0, [], Nat.zero_le _, rfl, ⟨_, _, rfl⟩, o1, (fun y hy => by cases hy), hc1, gg⟩
  case round =>
    clear o1 gg hc1
    obtain ⟨k, ys, hk, rfl, hform, hown, hys, hc, hgr⟩ := hrel
    have hsz := hgr.size
    by_cases hlt : k < K
    · go_wp2_with (fail)
      refine (l1Below_any a p n c xs 256 _ (by omega) (by omega) hc).mono ?_
      rintro e w2 ⟨y, rfl, hy0, hy1, hc2, g2⟩
      have o2 := owns_cur hown g2 ha
      have gg := grown_trans hgr g2
      have hsz2 := gg.size
      have hys2 : Hid (∀ z ∈ ys ++ [y], 0 ≤ z ∧ z < 256) := by
        intro z hz
        rcases List.mem_append.1 hz with h | h
        · exact hys.out z h
        · simp at h; subst h; exact ⟨hy0, hy1⟩
      clear hown hc hgr hys hform
      go_wp2_with (at_builtin; refine list_pushK hi hz0 hz1 hz2 (.tmp 18) (.tmp 22) 22 Tryd.underlying22 _ o2 (by omega) hsz2 (by rfl) (by rfl) (by rfl) (by rfl) ?_; intro g cap w3 ho3 hb3 hkk)
      go_roundw
      case rel => exact ⟨k + 1, ys ++ [y], by omega, by go_num, ⟨_, _, rfl⟩, ho3, hys2, hc2.below hb3 ha hcl, grown_below gg hb3⟩
      case measure => simp [intOf]; omega
    · obtain ⟨g, c', hv⟩ := hform.out
      clear hform
      subst hv
      go_wp2
      go_ret
      exact ⟨g, k, c', ys, rfl, by omega, .of hown, hys.out, hc, hgr⟩

theorem below_cur {w w1 w2 : World} {a : Nat} (h : Below w.heap.size w w1) (hg : w1.grownBy w2 (some a)) (ha : w.heap.size ≤ a) : Below w.heap.size w w2 :=
  h.grown hg h.size fun k hk => by simp at hk; omega

theorem Own.mono {e : Nat} {w : World} {lo lo' hi hi' : Nat} {v : Value} {n : Nat} {xs : List Int} (h : Own e w lo hi v n xs) (hl : lo' ≤ lo) (hh : hi ≤ hi') : Own e w lo' hi' v n xs :=
  ⟨owns_mono h.1 hl, fun k hk => Nat.lt_of_lt_of_le (h.2 k hk) hh⟩

/-- A row behind the cursor, while the cursor is moved on. -/
theorem Own.cur {e : Nat} {w w' : World} {a lo hi : Nat} {v : Value} {n : Nat} {xs : List Int} (h : Own e w lo hi v n xs) (hg : w.grownBy w' (some a)) (ha : a < lo) : Own e w' lo hi v n xs := ⟨owns_cur h.1 hg ha, h.2⟩

theorem l1Once_any (a : Nat) (p : Option Addr) (n c : Nat) (xs : List Int) (m : Int) (w : World) (hm : 1 ≤ m) (hm2 : m ≤ 256) (hcur : Cur w a p n c xs) :
    Calls Tryd.prog 26 #[.pointer (some ⟨a, 0, none⟩), .int .i64 m] w fun e w' => ∃ b : Bool, e = .returned (.bool b) ∧ Cur w' a p n c xs ∧ w.grownBy w' (some a) := by
  go_enter Tryd.func26, Tryd.ntmps26
  go_wp2_with (fail)
  refine (l1Below_any a p n c xs m _ hm hm2 hcur).mono ?_
  rintro e w1 ⟨x, rfl, hx0, hx1, hc1, g1⟩
  go_wp2_with (fail)
  go_ret
  exact ⟨_, rfl, hc1, g1⟩

theorem l1PickInt_any (a : Nat) (p : Option Addr) (n c : Nat) (xs : List Int) (g L : Nat) (zs : List Int) (w : World) (hL : 1 ≤ L) (hL2 : L ≤ 256) (hz : zs.length = L) (hcells : ∀ i, i < L → w.cell? ⟨g, i, none⟩ = some (.int .i64 (zs.getD i 0))) (hg : g ≠ a) (hcur : Cur w a p n c xs) :
    Calls Tryd.prog 47 #[.pointer (some ⟨a, 0, none⟩), .slice (some ⟨g, 0, none⟩) L L] w fun e w' => ∃ z ∈ zs, e = .returned (.int .i64 z) ∧ Cur w' a p n c xs ∧ w.grownBy w' (some a) := by
  go_enter Tryd.func47, Tryd.ntmps47
  go_wp2_with (fail)
  refine (l1Below_any a p n c xs (L : Int) _ (by omega) (by omega) hcur).mono ?_
  rintro e w1 ⟨x, rfl, hx0, hx1, hc1, g1⟩
  obtain ⟨k, hk⟩ : ∃ k : Nat, x = (k : Int) := ⟨x.toNat, by omega⟩
  subst hk
  have hck : w1.cell? ⟨g, k, none⟩ = some (.int .i64 (zs.getD k 0)) := g1.cell (hcells k (by omega)) (by simpa using hg)
  obtain ⟨u, hu⟩ : ∃ u, u = zs.getD k 0 := ⟨_, rfl⟩
  rw [← hu] at hck
  have hmem : Hid (u ∈ zs) := by
    show u ∈ zs
    rw [hu]
    simp [List.getElem?_eq_getElem (show k < zs.length by omega)]
  clear hu
  go_wp2_with (fail)
  go_ret
  exact ⟨u, hmem.out, rfl, hc1, g1⟩

/-- The cells of a list that is written out. -/
theorem lit_ints (w : World) (zs : List Int) (t : TypeId) : ∀ i, i < zs.length → (w.alloc (.cells (zs.map (Value.int .i64)).toArray t)).cell? ⟨w.heap.size, i, none⟩ = some (.int .i64 (zs.getD i 0)) := by
  intro i hi
  rw [cell_of_row _ _ _ _ _ _ (heap_alloc_new w _)]
  simp [List.getElem?_eq_getElem hi]

end Go.Proofs.YtepbidaoloplbaaDoor
