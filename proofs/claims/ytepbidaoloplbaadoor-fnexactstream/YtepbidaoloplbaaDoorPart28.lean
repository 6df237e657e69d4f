/-
  The functions on the laws' roads are of the kinds of operations that are carried over.
  Where a law that calls Stream begins: a small world that knows the table and parts of the arguments' blocks.
  The table of places, as a row's text lays it (an array of arrays of ints), is as the walks ask for it.
  The table in the claim's world, as the walks beside others ask for it.
  What the laws' helper eqByteS does, whatever bytes it is given: it compares; no condition but that a length is an int's.
  What the laws' helper toByteS does, whatever bytes it is given: it copies them; condition: at most 1048576 bytes.
  What the laws' helpers that mark bytes do: markByteS lays its marks, heldByteS finds them; conditions: at most 2^40 bytes, marks from 0 to 2^40.
  What Stream of both sides answers, in the program of doors: a row of the call's own. Conditions: bytes all, capacities that are not less than the lengths, an int.
-/
import Derived.Test.YtepbidaoloplbaaDoorPart27
import Derived.WideShapes
import Derived.Test.YtepbidaoloplbaaDoorPart24
import Derived.Lib.LaidTab
import GoSem.Claims
import Derived.Test.YtepbidaoloplbaaDoorPart12
import Derived.Test.YtepbidaoloplbaaDoorPart17
import Derived.Test.YtepbidaoloplbaaDoorPart15
import Derived.Test.YtepbidaoloplbaaDoorPart14
import Derived.Test.YtepbidaoloplbaaDoorPart16
import Derived.Test.YtepbidaoloplbaaDoorPart18
import Derived.Test.YtepbidaoloplbaaDoorPart25
import Derived.Test.YtepbidaoloplbaaDoorPart26
namespace Go.Proofs.YtepbidaoloplbaaDoor
open Go Go.Conc

/-- The table may be named; Stream is a door. -/
def glD : Globs := ⟨fun g => g == 0, fun f n => f == 8 && n == 4⟩
/-- The table may be named. -/
def glG : Globs := ⟨fun g => g == 0, fun _ _ => false⟩
def alL (f : Nat) : Bool := [3, 4, 5, 6, 7, 9, 10, 11, 12, 13, 14, 15, 16, 17, 18, 19, 20, 21, 22, 23, 24, 25, 26, 27, 28, 29, 32, 33, 34, 35, 36, 37, 38, 39, 40, 41, 42, 43, 44, 45, 46, 47, 48, 49, 50, 51, 52, 53, 54, 55, 56, 57, 58, 59, 60, 61].contains f
def alG (f : Nat) : Bool := [3, 4, 5, 6, 7, 9, 10, 11, 12, 13, 14, 15, 16, 17, 18, 19, 20, 21, 22, 23, 24, 25, 26, 27, 28, 29, 32, 33, 34, 35, 36, 37, 38, 39, 40, 41, 42, 43, 44, 45, 46, 47, 48, 49, 50, 51, 52, 53, 54, 55, 56, 57, 58, 59, 60, 61, 8, 82, 83].contains f
theorem tame_two {P Q : Program} {Gl : Globs} {Al : Nat → Bool} {f : Nat} {fn : Func} (h : P.funcs[f]? = some fn) (h' : Q.funcs[f]? = some fn) (hc : (match fn.body with | some b => okCode Q Gl Al b | none => false) = true) (hn : (fn.name == "runtime.NumGoroutine") = false) : ∃ fn body, P.funcs[f]? = some fn ∧ Q.funcs[f]? = some fn ∧ (fn.name == "runtime.NumGoroutine") = false ∧ fn.body = some body ∧ okCode Q Gl Al body = true := by
  cases hb : fn.body with
  | none => rw [hb] at hc; cases hc
  | some b => rw [hb] at hc; exact ⟨fn, b, h, h', hn, hb, hc⟩
theorem tameL : Tame2 Altd.prog Tryd.prog glD alL := by
  refine ⟨fun f hf => ?_, fun f n hd => ?_⟩
  · simp only [alL, List.contains_cons, List.contains_nil, Bool.or_false, Bool.or_eq_true, beq_iff_eq] at hf
    rcases hf with rfl | rfl | rfl | rfl | rfl | rfl | rfl | rfl | rfl | rfl | rfl | rfl | rfl | rfl | rfl | rfl | rfl | rfl | rfl | rfl | rfl | rfl | rfl | rfl | rfl | rfl | rfl | rfl | rfl | rfl | rfl | rfl | rfl | rfl | rfl | rfl | rfl | rfl | rfl | rfl | rfl | rfl | rfl | rfl | rfl | rfl | rfl | rfl | rfl | rfl | rfl | rfl | rfl | rfl | rfl | rfl
    · exact tame_two Altd.func3 Tryd.func3 (by kernel_rfl) (by kernel_rfl)
    · exact tame_two Altd.func4 Tryd.func4 (by kernel_rfl) (by kernel_rfl)
    · exact tame_two Altd.func5 Tryd.func5 (by kernel_rfl) (by kernel_rfl)
    · exact tame_two Altd.func6 Tryd.func6 (by kernel_rfl) (by kernel_rfl)
    · exact tame_two Altd.func7 Tryd.func7 (by kernel_rfl) (by kernel_rfl)
    · exact tame_two Altd.func9 Tryd.func9 (by kernel_rfl) (by kernel_rfl)
    · exact tame_two Altd.func10 Tryd.func10 (by kernel_rfl) (by kernel_rfl)
    · exact tame_two Altd.func11 Tryd.func11 (by kernel_rfl) (by kernel_rfl)
    · exact tame_two Altd.func12 Tryd.func12 (by kernel_rfl) (by kernel_rfl)
    · exact tame_two Altd.func13 Tryd.func13 (by kernel_rfl) (by kernel_rfl)
    · exact tame_two Altd.func14 Tryd.func14 (by kernel_rfl) (by kernel_rfl)
    · exact tame_two Altd.func15 Tryd.func15 (by kernel_rfl) (by kernel_rfl)
    · exact tame_two Altd.func16 Tryd.func16 (by kernel_rfl) (by kernel_rfl)
    · exact tame_two Altd.func17 Tryd.func17 (by kernel_rfl) (by kernel_rfl)
    · exact tame_two Altd.func18 Tryd.func18 (by kernel_rfl) (by kernel_rfl)
    · exact tame_two Altd.func19 Tryd.func19 (by kernel_rfl) (by kernel_rfl)
    · exact tame_two Altd.func20 Tryd.func20 (by kernel_rfl) (by kernel_rfl)
    · exact tame_two Altd.func21 Tryd.func21 (by kernel_rfl) (by kernel_rfl)
    · exact tame_two Altd.func22 Tryd.func22 (by kernel_rfl) (by kernel_rfl)
    · exact tame_two Altd.func23 Tryd.func23 (by kernel_rfl) (by kernel_rfl)
    · exact tame_two Altd.func24 Tryd.func24 (by kernel_rfl) (by kernel_rfl)
    · exact tame_two Altd.func25 Tryd.func25 (by kernel_rfl) (by kernel_rfl)
    · exact tame_two Altd.func26 Tryd.func26 (by kernel_rfl) (by kernel_rfl)
    · exact tame_two Altd.func27 Tryd.func27 (by kernel_rfl) (by kernel_rfl)
    · exact tame_two Altd.func28 Tryd.func28 (by kernel_rfl) (by kernel_rfl)
    · exact tame_two Altd.func29 Tryd.func29 (by kernel_rfl) (by kernel_rfl)
    · exact tame_two Altd.func32 Tryd.func32 (by kernel_rfl) (by kernel_rfl)
    · exact tame_two Altd.func33 Tryd.func33 (by kernel_rfl) (by kernel_rfl)
    · exact tame_two Altd.func34 Tryd.func34 (by kernel_rfl) (by kernel_rfl)
    · exact tame_two Altd.func35 Tryd.func35 (by kernel_rfl) (by kernel_rfl)
    · exact tame_two Altd.func36 Tryd.func36 (by kernel_rfl) (by kernel_rfl)
    · exact tame_two Altd.func37 Tryd.func37 (by kernel_rfl) (by kernel_rfl)
    · exact tame_two Altd.func38 Tryd.func38 (by kernel_rfl) (by kernel_rfl)
    · exact tame_two Altd.func39 Tryd.func39 (by kernel_rfl) (by kernel_rfl)
    · exact tame_two Altd.func40 Tryd.func40 (by kernel_rfl) (by kernel_rfl)
    · exact tame_two Altd.func41 Tryd.func41 (by kernel_rfl) (by kernel_rfl)
    · exact tame_two Altd.func42 Tryd.func42 (by kernel_rfl) (by kernel_rfl)
    · exact tame_two Altd.func43 Tryd.func43 (by kernel_rfl) (by kernel_rfl)
    · exact tame_two Altd.func44 Tryd.func44 (by kernel_rfl) (by kernel_rfl)
    · exact tame_two Altd.func45 Tryd.func45 (by kernel_rfl) (by kernel_rfl)
    · exact tame_two Altd.func46 Tryd.func46 (by kernel_rfl) (by kernel_rfl)
    · exact tame_two Altd.func47 Tryd.func47 (by kernel_rfl) (by kernel_rfl)
    · exact tame_two Altd.func48 Tryd.func48 (by kernel_rfl) (by kernel_rfl)
    · exact tame_two Altd.func49 Tryd.func49 (by kernel_rfl) (by kernel_rfl)
    · exact tame_two Altd.func50 Tryd.func50 (by kernel_rfl) (by kernel_rfl)
    · exact tame_two Altd.func51 Tryd.func51 (by kernel_rfl) (by kernel_rfl)
    · exact tame_two Altd.func52 Tryd.func52 (by kernel_rfl) (by kernel_rfl)
    · exact tame_two Altd.func53 Tryd.func53 (by kernel_rfl) (by kernel_rfl)
    · exact tame_two Altd.func54 Tryd.func54 (by kernel_rfl) (by kernel_rfl)
    · exact tame_two Altd.func55 Tryd.func55 (by kernel_rfl) (by kernel_rfl)
    · exact tame_two Altd.func56 Tryd.func56 (by kernel_rfl) (by kernel_rfl)
    · exact tame_two Altd.func57 Tryd.func57 (by kernel_rfl) (by kernel_rfl)
    · exact tame_two Altd.func58 Tryd.func58 (by kernel_rfl) (by kernel_rfl)
    · exact tame_two Altd.func59 Tryd.func59 (by kernel_rfl) (by kernel_rfl)
    · exact tame_two Altd.func60 Tryd.func60 (by kernel_rfl) (by kernel_rfl)
    · exact tame_two Altd.func61 Tryd.func61 (by kernel_rfl) (by kernel_rfl)
  · simp only [glD, Bool.and_eq_true, beq_iff_eq] at hd
    obtain ⟨rfl, _⟩ := hd
    exact ⟨⟨_, Altd.func8, by kernel_rfl, by kernel_rfl⟩, _, Tryd.func8, by kernel_rfl, by kernel_rfl⟩
theorem tameG : TameP Altd.prog glG alG := by
  refine ⟨fun f hf => ?_, fun _ _ => rfl⟩
  simp only [alG, List.contains_cons, List.contains_nil, Bool.or_false, Bool.or_eq_true, beq_iff_eq] at hf
  rcases hf with rfl | rfl | rfl | rfl | rfl | rfl | rfl | rfl | rfl | rfl | rfl | rfl | rfl | rfl | rfl | rfl | rfl | rfl | rfl | rfl | rfl | rfl | rfl | rfl | rfl | rfl | rfl | rfl | rfl | rfl | rfl | rfl | rfl | rfl | rfl | rfl | rfl | rfl | rfl | rfl | rfl | rfl | rfl | rfl | rfl | rfl | rfl | rfl | rfl | rfl | rfl | rfl | rfl | rfl | rfl | rfl | rfl | rfl | rfl
  · exact tame_one Altd.func3 (by kernel_rfl) (by kernel_rfl)
  · exact tame_one Altd.func4 (by kernel_rfl) (by kernel_rfl)
  · exact tame_one Altd.func5 (by kernel_rfl) (by kernel_rfl)
  · exact tame_one Altd.func6 (by kernel_rfl) (by kernel_rfl)
  · exact tame_one Altd.func7 (by kernel_rfl) (by kernel_rfl)
  · exact tame_one Altd.func9 (by kernel_rfl) (by kernel_rfl)
  · exact tame_one Altd.func10 (by kernel_rfl) (by kernel_rfl)
  · exact tame_one Altd.func11 (by kernel_rfl) (by kernel_rfl)
  · exact tame_one Altd.func12 (by kernel_rfl) (by kernel_rfl)
  · exact tame_one Altd.func13 (by kernel_rfl) (by kernel_rfl)
  · exact tame_one Altd.func14 (by kernel_rfl) (by kernel_rfl)
  · exact tame_one Altd.func15 (by kernel_rfl) (by kernel_rfl)
  · exact tame_one Altd.func16 (by kernel_rfl) (by kernel_rfl)
  · exact tame_one Altd.func17 (by kernel_rfl) (by kernel_rfl)
  · exact tame_one Altd.func18 (by kernel_rfl) (by kernel_rfl)
  · exact tame_one Altd.func19 (by kernel_rfl) (by kernel_rfl)
  · exact tame_one Altd.func20 (by kernel_rfl) (by kernel_rfl)
  · exact tame_one Altd.func21 (by kernel_rfl) (by kernel_rfl)
  · exact tame_one Altd.func22 (by kernel_rfl) (by kernel_rfl)
  · exact tame_one Altd.func23 (by kernel_rfl) (by kernel_rfl)
  · exact tame_one Altd.func24 (by kernel_rfl) (by kernel_rfl)
  · exact tame_one Altd.func25 (by kernel_rfl) (by kernel_rfl)
  · exact tame_one Altd.func26 (by kernel_rfl) (by kernel_rfl)
  · exact tame_one Altd.func27 (by kernel_rfl) (by kernel_rfl)
  · exact tame_one Altd.func28 (by kernel_rfl) (by kernel_rfl)
  · exact tame_one Altd.func29 (by kernel_rfl) (by kernel_rfl)
  · exact tame_one Altd.func32 (by kernel_rfl) (by kernel_rfl)
  · exact tame_one Altd.func33 (by kernel_rfl) (by kernel_rfl)
  · exact tame_one Altd.func34 (by kernel_rfl) (by kernel_rfl)
  · exact tame_one Altd.func35 (by kernel_rfl) (by kernel_rfl)
  · exact tame_one Altd.func36 (by kernel_rfl) (by kernel_rfl)
  · exact tame_one Altd.func37 (by kernel_rfl) (by kernel_rfl)
  · exact tame_one Altd.func38 (by kernel_rfl) (by kernel_rfl)
  · exact tame_one Altd.func39 (by kernel_rfl) (by kernel_rfl)
  · exact tame_one Altd.func40 (by kernel_rfl) (by kernel_rfl)
  · exact tame_one Altd.func41 (by kernel_rfl) (by kernel_rfl)
  · exact tame_one Altd.func42 (by kernel_rfl) (by kernel_rfl)
  · exact tame_one Altd.func43 (by kernel_rfl) (by kernel_rfl)
  · exact tame_one Altd.func44 (by kernel_rfl) (by kernel_rfl)
  · exact tame_one Altd.func45 (by kernel_rfl) (by kernel_rfl)
  · exact tame_one Altd.func46 (by kernel_rfl) (by kernel_rfl)
  · exact tame_one Altd.func47 (by kernel_rfl) (by kernel_rfl)
  · exact tame_one Altd.func48 (by kernel_rfl) (by kernel_rfl)
  · exact tame_one Altd.func49 (by kernel_rfl) (by kernel_rfl)
  · exact tame_one Altd.func50 (by kernel_rfl) (by kernel_rfl)
  · exact tame_one Altd.func51 (by kernel_rfl) (by kernel_rfl)
  · exact tame_one Altd.func52 (by kernel_rfl) (by kernel_rfl)
  · exact tame_one Altd.func53 (by kernel_rfl) (by kernel_rfl)
  · exact tame_one Altd.func54 (by kernel_rfl) (by kernel_rfl)
  · exact tame_one Altd.func55 (by kernel_rfl) (by kernel_rfl)
  · exact tame_one Altd.func56 (by kernel_rfl) (by kernel_rfl)
  · exact tame_one Altd.func57 (by kernel_rfl) (by kernel_rfl)
  · exact tame_one Altd.func58 (by kernel_rfl) (by kernel_rfl)
  · exact tame_one Altd.func59 (by kernel_rfl) (by kernel_rfl)
  · exact tame_one Altd.func60 (by kernel_rfl) (by kernel_rfl)
  · exact tame_one Altd.func61 (by kernel_rfl) (by kernel_rfl)
  · exact tame_one Altd.func8 (by kernel_rfl) (by kernel_rfl)
  · exact tame_one Altd.func82 (by kernel_rfl) (by kernel_rfl)
  · exact tame_one Altd.func83 (by kernel_rfl) (by kernel_rfl)
theorem alL_alG : ∀ f, alL f = true → alG f = true := fun f hf => by
  simp only [alL, alG, List.contains_cons, List.contains_nil, Bool.or_false, Bool.or_eq_true, beq_iff_eq] at hf ⊢
  omega

end Go.Proofs.YtepbidaoloplbaaDoor

namespace Go.Proofs.YtepbidaoloplbaaDoor
open Go Go.Conc Go.RowKit

/-- A part of a block: which one, from where on, which bytes. -/
structure Pt where
  b : Nat
  o : Nat
  xs : List Int
noncomputable def Pt.obj (q : Pt) : Obj := .cells (partRow q.o q.xs) 97 (0, (partRow q.o q.xs).size)
def PtIn (W : World) (q : Pt) : Prop := (∃ cs e fz, W.heap[q.b]? = some (.cells cs e fz)) ∧ ∀ j u, q.xs[j]? = some u → W.cell? ⟨q.b, q.o + j, none⟩ = some (.int .u8 u)
noncomputable def ghostT (W : World) (C : Array Value) (e : TypeId) (ps : List Pt) : World := { W with heap := Array.replicate Tryd.prog.globals.size (.cells C e (0, C.size)) ++ (ps.map Pt.obj).toArray }
noncomputable def renT (ps : List Pt) : Ren := ⟨fun b b' => (b = 0 ∧ b' = 0) ∨ ∃ i q, ps[i]? = some q ∧ b = Tryd.prog.globals.size + i ∧ b' = q.b, Tryd.prog.globals.size, fun f => alL f = true, fun b => if b < Tryd.prog.globals.size then 0 else ((ps[b - Tryd.prog.globals.size]?).map fun q => q.o + 1).getD 0, fun _ hb => if_pos hb, 97, fun f n => glD.d f n = true⟩
noncomputable def shT (ps : List Pt) (b : Nat) : Prop := b = 0 ∨ ∃ i, i < ps.length ∧ b = Tryd.prog.globals.size + i
theorem tabG : 0 < Tryd.prog.globals.size := by decide +kernel
theorem ghostT_size (W : World) (C : Array Value) (e : TypeId) (ps : List Pt) : (ghostT W C e ps).heap.size = Tryd.prog.globals.size + ps.length := by
  have h : ∀ (G : Nat) (x : Obj), (Array.replicate G x ++ (ps.map Pt.obj).toArray).size = G + ps.length := fun G x => by simp
  exact h _ _
theorem ghostT_tab (W : World) (C : Array Value) (e : TypeId) (ps : List Pt) : (ghostT W C e ps).heap[0]? = some (.cells C e (0, C.size)) := by
  have h := tabG
  unfold ghostT
  rw [Array.getElem?_append_left (by rw [Array.size_replicate]; exact h), Array.getElem?_replicate, if_pos h]
theorem ghostT_part (W : World) (C : Array Value) (e : TypeId) (ps : List Pt) {i : Nat} {q : Pt} (h : ps[i]? = some q) : (ghostT W C e ps).heap[Tryd.prog.globals.size + i]? = some q.obj := by
  unfold ghostT
  rw [Array.getElem?_append_right (by rw [Array.size_replicate]; omega), Array.size_replicate, Nat.add_sub_cancel_left, List.getElem?_toArray, List.getElem?_map, h]
  rfl
theorem renT_lo {ps : List Pt} {i : Nat} {q : Pt} (h : ps[i]? = some q) : (renT ps).lo (Tryd.prog.globals.size + i) = q.o + 1 := by
  show (if Tryd.prog.globals.size + i < Tryd.prog.globals.size then 0 else ((ps[Tryd.prog.globals.size + i - Tryd.prog.globals.size]?).map fun q => q.o + 1).getD 0) = q.o + 1
  rw [if_neg (by omega), Nat.add_sub_cancel_left, h]
  rfl
theorem relO_pt {ρ : Ren} {q : Pt} {W : World} (hb : ρ.Bg = 97) (h : PtIn W q) : ∃ o', W.heap[q.b]? = some o' ∧ RelO ρ (q.o + 1) q.obj o' := by
  obtain ⟨⟨cs, e, fz, hcs⟩, hc⟩ := h
  refine ⟨_, hcs, ?_⟩
  unfold Pt.obj
  rw [← hb]
  refine .part (Nat.succ_ne_zero _) (Nat.le_refl _) fun i v hi hv => ?_
  obtain ⟨j, rfl⟩ : ∃ j, i = q.o + j := ⟨i - q.o, by omega⟩
  rw [partRow_at] at hv
  obtain ⟨u, hu, rfl⟩ := Option.map_eq_some_iff.1 hv
  have := hc j u hu
  simp only [World.cell?, hcs, Option.isSome_none, Bool.false_eq_true, if_false] at this
  exact ⟨_, this, .int _ _⟩
theorem sit_T {W : World} {C : Array Value} {e : TypeId} {ps : List Pt} (hT : TableIn C e W) (hC : ∀ v ∈ C, flatC v = true) (hps : ∀ q ∈ ps, PtIn W q) : Sit 0 Tryd.prog glD alL (shT ps) (renT ps) (ghostT W C e ps) W := by
  have tg := tabG
  have lo0 : (renT ps).lo 0 = 0 := (renT ps).glo _ tg
  refine ⟨⟨fun b b' hb => ?_, fun b b' c' h1 h2 => ?_, fun b c b' h1 h2 => ?_, fun b hb => ?_, fun i q h => absurd h (Nat.not_lt_zero _), fun b b' hs hb => ?_⟩, fun b hb => ?_, ⟨rfl, bogS⟩, rfl, rfl, fun g hg => ?_, by rw [ghostT_size]; omega⟩
  · rcases hb with ⟨rfl, rfl⟩ | ⟨i, q, h, rfl, rfl⟩
    · obtain ⟨lo, hi, h1, h2⟩ := hT
      refine ⟨_, _, ghostT_tab W C e ps, h1, .cells e lo0 ⟨rfl, fun i v v' k1 k2 => ?_⟩ fun i k1 k2 => ⟨Nat.zero_le _, h2 i k1 k2⟩⟩
      rw [k1] at k2
      cases k2
      exact flatC_rel (hC v (Array.mem_of_getElem? k1))
    · obtain ⟨o', h1, h2⟩ := relO_pt (ρ := renT ps) rfl (hps q (List.mem_of_getElem? h))
      exact ⟨_, _, ghostT_part W C e ps h, h1, by rw [renT_lo h]; exact h2⟩
  · rcases h1 with ⟨e1, rfl⟩ | ⟨i, q, k1, e1, rfl⟩ <;> rcases h2 with ⟨e2, rfl⟩ | ⟨j, r, k2, e2, rfl⟩
    · rfl
    · omega
    · omega
    · obtain rfl : i = j := by omega
      rw [k1] at k2
      cases k2
      rfl
  · have key : ∀ b b', (renT ps) b b' → shT ps b := fun b b' h => by
      rcases h with ⟨rfl, _⟩ | ⟨i, q, k1, rfl, _⟩
      · exact .inl rfl
      · exact .inr ⟨i, (List.getElem?_eq_some_iff.1 k1).1, rfl⟩
    exact .inr ⟨key _ _ h1, key _ _ h2⟩
  · rw [ghostT_size] at hb
    show (if b < Tryd.prog.globals.size then 0 else ((ps[b - Tryd.prog.globals.size]?).map fun q => q.o + 1).getD 0) = 0
    rw [if_neg (by omega), List.getElem?_eq_none (by omega)]
    rfl
  · rcases hs with rfl | ⟨i, hi, rfl⟩
    · exact ⟨_, _, _, ghostT_tab W C e ps, Nat.le_refl _⟩
    · exact ⟨_, _, _, ghostT_part W C e ps (List.getElem?_eq_getElem hi), Nat.le_refl _⟩
  · rw [ghostT_size]
    rcases hb with rfl | ⟨i, hi, rfl⟩ <;> omega
  · have : g = 0 := by simpa [glD] using hg
    subst this
    exact ⟨.inl ⟨rfl, rfl⟩, lo0⟩
theorem shT_of {ps : List Pt} : ∀ b b', (renT ps) b b' → shT ps b := fun b b' h => by
  rcases h with ⟨rfl, _⟩ | ⟨i, q, k1, rfl, _⟩
  · exact .inl rfl
  · exact .inr ⟨i, (List.getElem?_eq_some_iff.1 k1).1, rfl⟩
/-- The table in the small world. -/
theorem ghostT_places {W : World} {C : Array Value} {e : TypeId} {ps : List Pt} (τ : Nat → Question → Nat) (hCp : ∀ (j : Nat) v, placesC[j]? = some v → C[j]? = some v) : PlacesIs (World.ret (ghostT W C e ps) τ) := fun j v hv => by
  have h : (World.ret (ghostT W C e ps) τ).heap[0]? = _ := ghostT_tab W C e ps
  simp only [World.cell?, h, Option.isSome_none, Bool.false_eq_true, if_false, Nat.zero_add]
  exact hCp j v hv

/-- An argument: a slice of bytes of the claim's world. -/
structure ArgIn (W : World) (a : Option Addr) (n c : Nat) (q : Pt) (zs : List Int) : Prop where
  pt : PtIn W q
  xs : q.xs = zs
  len : zs.length = n
  cap : n ≤ c
  byte : ∀ x ∈ zs, 0 ≤ x ∧ x < 256
  at_ : (a = none ∧ n = 0 ∧ c = 0) ∨ a = some ⟨q.b, q.o, none⟩
noncomputable def Pt.addr (q : Pt) (a : Option Addr) (i : Nat) : Option Addr := a.map fun _ => ⟨Tryd.prog.globals.size + i, q.o, none⟩
theorem ArgIn.rel {W : World} {a : Option Addr} {n c : Nat} {q : Pt} {zs : List Int} (h : ArgIn W a n c q zs) {ps : List Pt} {i : Nat} (hi : ps[i]? = some q) : RelV (renT ps) (.slice (q.addr a i) n c) (.slice a n c) := by
  rcases h.at_ with ⟨rfl, rfl, rfl⟩ | rfl
  · exact .sliceNil
  · exact .slice _ _ ⟨.inr ⟨i, q, hi, rfl, rfl⟩, rfl, rfl, fun (h : _ < Tryd.prog.globals.size) => absurd h (by show ¬ Tryd.prog.globals.size + i < Tryd.prog.globals.size; omega), by rw [renT_lo hi]; exact Nat.le_refl _⟩
theorem ArgIn.bytes {W : World} {a : Option Addr} {n c : Nat} {q : Pt} {zs : List Int} (h : ArgIn W a n c q zs) {ps : List Pt} {i : Nat} (hi : ps[i]? = some q) (C : Array Value) (e : TypeId) (τ : Nat → Question → Nat) : BytesIn (World.ret (ghostT W C e ps) τ) (q.addr a i) n zs := fun h0 => by
  rcases h.at_ with ⟨_, rfl, _⟩ | rfl
  · exact absurd h0 (Nat.lt_irrefl 0)
  · refine ⟨_, _, rfl, fun j hj => ?_⟩
    have hg : (World.ret (ghostT W C e ps) τ).heap[Tryd.prog.globals.size + i]? = some q.obj := ghostT_part W C e ps hi
    have hl := h.len
    simp only [World.cell?, hg, Pt.obj, Option.isSome_none, Bool.false_eq_true, if_false]
    rw [partRow_at, h.xs, List.getElem?_eq_getElem (by omega), List.getD_eq_getElem?_getD, List.getElem?_eq_getElem (by omega)]
    rfl
theorem arg_in {W : World} {base : Nat} {a : Option Addr} {len cap : Nat} {zs : List Int} (hok : Value.okWide Tryd.prog W .any base 22 (.slice a len cap)) (hT : ∃ cs e fz, W.heap[0]? = some (.cells cs e fz))
    (h : (a = none ∧ len = 0 ∧ cap = 0 ∧ zs = []) ∨ ∃ x, a = some x ∧ len ≤ cap ∧ cap ≤ maxLen ∧ zs.length = cap ∧ (∀ i, i < zs.length → W.cell? (x.add i) = some (.int .u8 (zs.getD i 0))) ∧ ∀ n ∈ zs, (Lit.int .u8 n).wf = true) :
    ∃ q, ArgIn W a len cap q (zs.take len) := by
  rcases h with ⟨rfl, rfl, rfl, rfl⟩ | ⟨x, rfl, hl, hm, hz, hcell, hwz⟩
  · exact ⟨⟨0, 0, []⟩, ⟨hT, (fun j u hu => by cases hu)⟩, rfl, rfl, Nat.le_refl _, (fun x hx => by cases hx), .inl ⟨rfl, rfl, rfl⟩⟩
  · have hh : x.spot = none ∧ ∃ row cells, W.shape? x.block = some (row, cells) := by
      simp only [Value.okWide, Tryd.underlying22, Cell.okWide, Cell.ok] at hok
      obtain ⟨_, _, _, h1, row, cells, h2, _⟩ := hok
      exact ⟨h1, row, cells, h2⟩
    obtain ⟨hs, row, cells, hsh⟩ := hh
    obtain ⟨b, o, sp⟩ := x
    obtain rfl : sp = none := hs
    refine ⟨⟨b, o, zs.take len⟩, ⟨?_, fun j u hu => ?_⟩, rfl, by simp; omega, hl, fun y hy => ?_, .inr rfl⟩
    · simp only [World.shape?] at hsh
      split at hsh
      · exact ⟨_, _, _, by assumption⟩
      · cases hsh
    · have hj := (List.getElem?_eq_some_iff.1 hu).1
      rw [List.length_take] at hj
      have := hcell j (by omega)
      rw [Addr.add_lit] at this
      rw [this]
      rw [List.getElem?_take, if_pos (by omega)] at hu
      rw [List.getD_eq_getElem?_getD, hu]
      rfl
    · have := bounds_u8 (hwz y (List.mem_of_mem_take hy))
      omega

end Go.Proofs.YtepbidaoloplbaaDoor

namespace Go.Proofs.YtepbidaoloplbaaDoor
open Go.RowKit

/-- An array of arrays of integers that reads as the table holds the table's numbers, row for row. -/
theorem cells_of_tab2 {H : Type} {enc : TypeId × Value → H} {P : Program} {w : World} {base : Nat} {sp : Nat → Bool} {held : Bool} {fuel : Nat} {t t2 e : TypeId} {n m : Nat} {k : IntKind} {cs : List Value} {zss : List (List Int)} {p : List MemPlace}
    (ht : P.underlying t = some (.array n t2)) (ht2 : P.underlying t2 = some (.array m e)) (he : P.underlying e = some (.int k)) (hce : P.cellsOf e = 1) (hc2 : P.cellsOf t2 = m)
    (h : DataW.trod enc P w base sp held fuel t cs = some (.agg (zss.map (Lib.tabData k)), p)) : ∀ i zs, zss[i]? = some zs → (cs.drop (i * m)).take m = zs.map fun z => Value.int k z := by
  cases fuel with
  | zero => simp [DataW.trod] at h
  | succ fuel =>
    simp only [DataW.trod, ht, hc2] at h
    split at h
    · obtain ⟨xs, hm, hx⟩ := Option.map_eq_some_iff.1 h
      have hxs : xs.map (·.1) = zss.map (Lib.tabData (H := H) k) := by
        have := congrArg Prod.fst hx
        simpa using this
      have hxl : xs.length = n := by simpa using Lib.mapM_length hm
      intro i zs hz
      have hi : i < n := by
        have h1 : i < zss.length := (List.getElem?_eq_some_iff.1 hz).1
        have := congrArg List.length hxs
        simp at this
        omega
      obtain ⟨b, hb, hf⟩ := Lib.mapM_at hm i i (by simp [hi])
      have h2 : (xs.map (·.1))[i]? = some b.1 := by simp [hb]
      rw [hxs, List.getElem?_map, hz] at h2
      have h3 : b = (Lib.tabData k zs, b.2) := by
        have := Option.some.inj h2
        rw [this]
      rw [h3] at hf
      exact Lib.cells_of_tab ht2 he hce hc2 hf
    · cases h

theorem places_of {W : World} {rest : List (String × DataW Unit)} (h : laidMet Tryd.prog (("loop.example/g00473/impl.quarterPlaces", .agg ((placesL.map castL).map (Lib.tabData .i64))) :: rest) W) : PlacesIs W := by
  obtain ⟨ps, ⟨g', t', cs, fuel, p, q, hg', ht', hvar, hd, _, _⟩, _⟩ := h
  have hg : Tryd.prog.globalNamed "loop.example/g00473/impl.quarterPlaces" = some 0 := by kernel_rfl
  have hty : (Tryd.prog.globals[0]?).map (·.type) = some 70 := by kernel_rfl
  obtain rfl := Option.some.inj (hg.symm.trans hg')
  obtain rfl := Option.some.inj (hty.symm.trans ht')
  have key := cells_of_tab2 Tryd.underlying70 Tryd.underlying69 Tryd.underlying3 (by kernel_rfl) (by kernel_rfl) hd
  intro j v hv
  have hj : j < 32 := (List.getElem?_eq_some_iff.1 hv).1
  have hc := World.var?_cell hg hvar j
  rw [Nat.zero_add, hc]
  obtain ⟨a, b, ha, hb, rfl⟩ : ∃ a b, a < 8 ∧ b < 4 ∧ j = a * 4 + b := ⟨j / 4, j % 4, by omega, by omega, by omega⟩
  have k1 := fun zs hz => congrArg (fun l : List Value => l[b]?) (key a zs hz)
  simp only [List.getElem?_take, List.getElem?_drop, if_pos hb] at k1
  have h8 : a = 0 ∨ a = 1 ∨ a = 2 ∨ a = 3 ∨ a = 4 ∨ a = 5 ∨ a = 6 ∨ a = 7 := by omega
  have h4 : b = 0 ∨ b = 1 ∨ b = 2 ∨ b = 3 := by omega
  have e : cs[a * 4 + b]? = cs.toList[a * 4 + b]? := by simp
  rw [e]
  clear e hc hvar hd key
  rcases h8 with rfl | rfl | rfl | rfl | rfl | rfl | rfl | rfl <;> rcases h4 with rfl | rfl | rfl | rfl <;> exact (k1 _ rfl).trans hv

end Go.Proofs.YtepbidaoloplbaaDoor

namespace Go.Proofs.YtepbidaoloplbaaDoor
open Go Go.Conc Go.RowKit

theorem tabW_of {W : World} (hsh : W.ShapedOpen Tryd.prog) (hP : PlacesIs W) : TabW W := by
  have h1 : (((begin Tryd.prog (fun _ _ => 0) default).world.heap[0]?).bind Obj.row?).map (fun x => x.1.size) = some 32 := by kernel_rfl
  obtain ⟨⟨zero, t⟩, h2, h3⟩ := Option.map_eq_some_iff.1 h1
  obtain ⟨cs, h4, h5, _⟩ := hsh.1 0 zero t tabG h2
  have hsz : cs.size = 32 := h5.trans h3
  have hcell : ∀ (j : Nat) v, placesC[j]? = some v → cs[j]? = some v := fun j v hv => by
    have := hP j v hv
    simpa only [World.cell?, h4, Option.isSome_none, Bool.false_eq_true, if_false, Nat.zero_add] using this
  have hps : placesC.toArray.size = 32 := by kernel_rfl
  have hfl : placesC.all flatC = true := by kernel_rfl
  refine ⟨cs, t, ⟨0, 0, h4, fun i _ h => absurd h (Nat.not_lt_zero _)⟩, fun v hv => ?_, hcell⟩
  obtain ⟨j, hj, rfl⟩ := Array.mem_iff_getElem.1 hv
  have hj' : j < placesC.length := by
    have : placesC.length = 32 := by simpa using hps
    omega
  have := hcell j placesC[j] (List.getElem?_eq_getElem hj')
  rw [Array.getElem?_eq_getElem hj] at this
  rw [Option.some.inj this]
  exact List.all_eq_true.1 hfl _ (List.getElem_mem _)

end Go.Proofs.YtepbidaoloplbaaDoor

namespace Go.Proofs.YtepbidaoloplbaaDoor.Alt
open Go.RowKit

/-- eqByteS: are the two lists one? -/
theorem eq_len (p q : Option Addr) (n m c d : Nat) (w : World) (hne : n ≠ m) :
    Calls Altd.prog 20 #[.slice p n c, .slice q m d] w fun e w' => e = .returned (.bool false) ∧ Below w.heap.size w w' := by
  have hd : ((n : Int) != (m : Int)) = true := by simp; omega
  go_enter Altd.func20, Altd.ntmps20
  go_wp2
  go_ret
  exact ⟨rfl, Below.refl _ _⟩

set_option maxHeartbeats 1000000 in
theorem eq_same (p q : Option Addr) (n c d : Nat) (xs ys : List Int) (w : World) (hn : n ≤ 9223372036854775807) (hx : xs.length = n) (hy : ys.length = n) (h : BytesIn w p n xs) (h' : BytesIn w q n ys) :
    Calls Altd.prog 20 #[.slice p n c, .slice q n d] w fun e w' => e = .returned (.bool (decide (xs = ys))) ∧ Below w.heap.size w w' := by
  have hd : ((n : Int) != (n : Int)) = false := by simp
  go_enter Altd.func20, Altd.ntmps20
  go_wp2
  go_loopw [5] (fun i wr => ∃ k : Nat, k ≤ n ∧ i = .int .i64 k ∧ Hid (xs.take k = ys.take k) ∧ ∃ m, wr = w.drewN m) (fun i _ => n - (intOf i).toNat)
  case atStart => exact ⟨0, Nat.zero_le _, rfl, by simp [Hid], 0, rfl⟩
  case round =>
    obtain ⟨k, hk, rfl, hsame, m, rfl⟩ := hrel
    by_cases hlt : k < n
    · obtain ⟨b, o, rfl, hc⟩ := h (by omega)
      obtain ⟨b', o', rfl, hc'⟩ := h' (by omega)
      have h1 := hc k hlt
      have h2 := hc' k hlt
      obtain ⟨u, hu⟩ : ∃ u, u = xs.getD k 0 := ⟨_, rfl⟩
      obtain ⟨v, hv⟩ : ∃ v, v = ys.getD k 0 := ⟨_, rfl⟩
      rw [← hu] at h1
      rw [← hv] at h2
      clear hc hc' h h'
      by_cases huv : u = v
      · subst huv
        have hd2 : (u != u) = false := by simp
        have hmore : Hid (xs.take (k + 1) = ys.take (k + 1)) := take_more hx hy hlt hsame (by rw [← hu, ← hv])
        clear hu hv hsame
        go_wp2
        go_quiet (fail)
        go_wp2
        go_roundw
        case rel => exact ⟨k + 1, by omega, by go_num, hmore, _, rfl⟩
        case measure => simp [intOf]; omega
      · have hd2 : (u != v) = true := by simpa using huv
        have hne : Hid (decide (xs = ys) = false) := by have := take_less (k := k) (xs := xs) (ys := ys) (by rw [← hu, ← hv]; exact huv); simpa [Hid] using this
        clear hu hv hsame huv
        go_wp2
        go_quiet (fail)
        go_wp2
        go_ret
        rw [hne.out, World.drewN_drewN]
        exact ⟨rfl, below_drewN (Below.refl _ _) _⟩
    · have hkn : k = n := by omega
      subst hkn
      have hall : Hid (decide (xs = ys) = true) := by simpa [Hid] using take_all hx hy hsame
      clear hsame
      go_wp2
      go_ret
      rw [hall.out]
      exact ⟨rfl, below_drewN (Below.refl _ _) _⟩

theorem eqByteS_any (p q : Option Addr) (n m c d : Nat) (xs ys : List Int) (w : World) (hn : n ≤ 9223372036854775807) (hx : xs.length = n) (hy : ys.length = m) (h : BytesIn w p n xs) (h' : BytesIn w q m ys) :
    Calls Altd.prog 20 #[.slice p n c, .slice q m d] w fun e w' => e = .returned (.bool (decide (xs = ys))) ∧ Below w.heap.size w w' := by
  by_cases hnm : n = m
  · subst hnm
    exact eq_same p q n c d xs ys w hn hx hy h h'
  · have : decide (xs = ys) = false := by
      simp only [decide_eq_false_iff_not]
      intro e
      subst e
      omega
    rw [this]
    exact eq_len p q n m c d w hnm

end Go.Proofs.YtepbidaoloplbaaDoor.Alt

namespace Go.Proofs.YtepbidaoloplbaaDoor.Alt
open Go.RowKit

set_option maxHeartbeats 1000000 in
theorem toByteS_any (p : Option Addr) (n c : Nat) (xs : List Int) (w : World) (hn : n ≤ 1048576) (hx : xs.length = n) (h : BytesIn w p n xs) :
    Calls Altd.prog 19 #[.slice p n c] w fun e w' => e = .returned (.slice (some ⟨w.heap.size, 0, none⟩) n n) ∧
      w'.ownsRow w.heap.size 5 1 (.slice (some ⟨w.heap.size, 0, none⟩) n n) n (xs.map (Value.int .u8)) ∧ Below w.heap.size w w' := by
  obtain ⟨i0, hi, hz0, hz1, hz2⟩ := info_parts infoByte
  go_enter Altd.func19, Altd.ntmps19
  go_wp2_with (at_make; refine wpList_make_full _ rfl _ _ 22 rfl w.heap.size 5 i0 (.int .u8 0) 1 Altd.underlying22 hi hz0 hz1 _ _ _ _ n rfl rfl rfl rfl ?b2 ?b3 ?b4 ?_)
  case b2 => rw [hz2]; omega
  case b3 => unfold maxLen; omega
  case b4 => exact Nat.le_refl _
  intro w1 hown hgrow
  rw [fill_start xs n] at hown
  have hbel : Below w.heap.size w w1 := (Below.refl _ _).grown hgrow (Nat.le_refl _) (fun _ h => by cases h)
  clear hgrow
  go_wp2
  go_loopw [4] (fun i wr => ∃ k : Nat, k ≤ n ∧ i = .int .i64 k ∧ wr.ownsRow w.heap.size 5 1 (.slice (some ⟨w.heap.size, 0, none⟩) n n) n ((xs.take k ++ List.replicate (n - k) 0).map (Value.int .u8)) ∧ Below w.heap.size w wr)
    (fun i _ => n - (intOf i).toNat)
  case atStart => exact ⟨0, Nat.zero_le _, rfl, hown, hbel⟩
  case round =>
    clear hown hbel
    obtain ⟨k, hk, rfl, hown, hbel⟩ := hrel
    by_cases hlt : k < n
    · obtain ⟨b, o, rfl, hc⟩ := h (by omega)
      obtain ⟨u, hu⟩ : ∃ u, u = xs.getD k 0 := ⟨_, rfl⟩
      have hcx : wr.cell? ⟨b, o + k, none⟩ = some (.int .u8 u) := by
        rw [hbel.cell (p := ⟨b, o + k, none⟩) (World.block_lt_of_cell? w ⟨b, o + k, none⟩ (hc k hlt)), hu]
        exact hc k hlt
      have hold : wr.cell? ⟨w.heap.size, k, none⟩ = some (.int .u8 0) := by
        rw [hown.cellAt k (by omega)]; exact fill_old xs n k hlt hx
      have hfz := hown.frozenAt k
      have hst := hown.stored k (.int .u8 u)
      rw [fill_step xs n k u hu hlt hx] at hst
      have hbel' := hbel.setCell (p := ⟨w.heap.size, k, none⟩) (Nat.le_refl _) (.int .u8 u)
      clear hc h hu
      go_wp2
      go_roundw
      case rel => exact ⟨k + 1, by omega, by go_num, hst.1, hbel'⟩
      case measure => simp [intOf]; omega
    · have hkn : k = n := by omega
      subst hkn
      go_wp2
      go_ret
      rw [fill_end xs k hx] at hown
      exact ⟨rfl, hown, hbel⟩

theorem toByteS_own (p : Option Addr) (n c : Nat) (xs : List Int) (w : World) (hn : n ≤ 1048576) (hx : xs.length = n) (h : BytesIn w p n xs) :
    Calls Altd.prog 19 #[.slice p n c] w fun e w' => ∃ p' c', e = .returned (.slice p' n c') ∧ Own 5 w' w.heap.size w'.heap.size (.slice p' n c') n xs ∧ Below w.heap.size w w' :=
  (toByteS_any p n c xs w hn hx h).mono fun _ _ ⟨h1, h2, h3⟩ => ⟨_, _, h1, .of h2, h3⟩

end Go.Proofs.YtepbidaoloplbaaDoor.Alt

namespace Go.Proofs.YtepbidaoloplbaaDoor.Alt
open Go.RowKit

set_option maxHeartbeats 1000000 in
theorem markByteS_any (base : Nat) (p : Option Addr) (n c : Nat) (xs : List Int) (k : Int) (w : World) (hn : n ≤ 1099511627776) (hk : 0 ≤ k) (hk2 : k ≤ 1099511627776)
    (h : w.ownsRow base 5 1 (.slice p n c) n (xs.map (Value.int .u8))) :
    Calls Altd.prog 21 #[.slice p n c, .int .i64 k] w fun e w' => e = .returned (.int .i64 (k + n)) ∧
      w'.ownsRow base 5 1 (.slice p n c) n ((marks k n).map (Value.int .u8)) ∧ w.grownBy w' (Value.ownBlock (.slice p n c)) := by
  have hx := owns_len h
  go_enter Altd.func21, Altd.ntmps21
  go_wp2
  go_loopw [1, 5] (fun q i wr => ∃ j : Nat, j ≤ n ∧ i = .int .i64 j ∧ q = .int .i64 (k + j) ∧ wr.ownsRow base 5 1 (.slice p n c) n ((marks k j ++ xs.drop j).map (Value.int .u8)) ∧ w.grownBy wr (Value.ownBlock (.slice p n c)))
    (fun _ i _ => n - (intOf i).toNat)
  case atStart => exact ⟨0, Nat.zero_le _, rfl, by simp, by simpa [marks] using h, World.grownBy.refl _ _⟩
  case round =>
    clear h
    obtain ⟨j, hj, rfl, rfl, hown, hgr⟩ := hrel
    by_cases hlt : j < n
    · obtain ⟨g, rfl⟩ := owns_at hown (by omega)
      obtain ⟨v, hv⟩ := marks_old k xs n j hlt hx
      have hold : wr.cell? ⟨g, j, none⟩ = some (.int .u8 v) := by
        rw [hown.cellAt j (by omega)]; exact hv
      have hfz := hown.frozenAt j
      clear hv
      have hst := hown.stored j (.int .u8 ((k + (j : Int)) % 256))
      rw [marks_step k xs n j _ rfl hlt hx] at hst
      go_wp2
      go_roundw
      case rel => exact ⟨j + 1, by omega, by go_num, by go_num, hst.1, grown_trans hgr hst.2⟩
      case measure => simp [intOf]; omega
    · have hjn : j = n := by omega
      subst hjn
      rw [marks_end k xs j hx] at hown
      go_wp2
      go_ret
      exact ⟨rfl, hown, hgr⟩

set_option maxHeartbeats 1000000 in
theorem heldByteS_any (p : Option Addr) (n c : Nat) (k : Int) (w : World) (hn : n ≤ 1099511627776) (hk : 0 ≤ k) (hk2 : k ≤ 1099511627776)
    (h : BytesIn w p n (marks k n)) :
    Calls Altd.prog 22 #[.slice p n c, .int .i64 k] w fun e w' => e = .returned (.int .i64 (k + n)) ∧ Below w.heap.size w w' := by
  go_enter Altd.func22, Altd.ntmps22
  go_wp2
  go_loop [1, 5] (fun q i => ∃ j : Nat, j ≤ n ∧ i = .int .i64 j ∧ q = .int .i64 (k + j)) (fun _ i => n - (intOf i).toNat)
  case atStart => exact ⟨0, Nat.zero_le _, rfl, by simp⟩
  case round =>
    obtain ⟨j, hj, rfl, rfl⟩ := hrel
    by_cases hlt : j < n
    · obtain ⟨b, o, rfl, hc⟩ := h (by omega)
      have h1 := hc j hlt
      rw [marks_getD k n j hlt] at h1
      have hd : ((k + (j : Int)) % 256 != (k + (j : Int)) % 256) = false := by simp
      clear hc h
      go_wp2
      go_round
      case rel => exact ⟨j + 1, by omega, by go_num, by go_num⟩
      case measure => simp [intOf]; omega
    · have hjn : j = n := by omega
      subst hjn
      go_wp2
      go_ret
      exact ⟨rfl, Below.refl _ _⟩

theorem markByteS_own (lo hi : Nat) (p : Option Addr) (n c : Nat) (xs : List Int) (k : Int) (w : World) (hn : n ≤ 1099511627776) (hk : 0 ≤ k) (hk2 : k ≤ 1099511627776)
    (h : Own 5 w lo hi (.slice p n c) n xs) :
    Calls Altd.prog 21 #[.slice p n c, .int .i64 k] w fun e w' => e = .returned (.int .i64 (k + n)) ∧
      Own 5 w' lo hi (.slice p n c) n (marks k n) ∧ w.grownBy w' (Value.ownBlock (.slice p n c)) :=
  (markByteS_any lo p n c xs k w hn hk hk2 h.1).mono fun _ _ ⟨h1, h2, h3⟩ => ⟨h1, ⟨h2, h.2⟩, h3⟩

end Go.Proofs.YtepbidaoloplbaaDoor.Alt

namespace Go.Proofs.YtepbidaoloplbaaDoor.Alt
open Go.RowKit

def CtOk (ct : Int) (_ : World) : Prop := ct ≤ 9223372036854775807
theorem strS_le (ks : List Int) (ct : Int) (ns bs : List Int) : (strS ks ct ns bs).length ≤ 4000 := by
  unfold strS
  split
  · rename_i h
    rw [outS_length]
    have := h.1
    omega
  · exact Nat.zero_le _
theorem xor_u8 (u v : Int) : 0 ≤ bits BinOp.xor IntKind.u8 u v ∧ bits BinOp.xor IntKind.u8 u v < 256 := by
  have e : bits BinOp.xor IntKind.u8 u v = IntKind.u8.wrap ((BitVec.ofInt 8 u ^^^ BitVec.ofInt 8 v).toNat : Int) := rfl
  rw [e]
  simp [IntKind.wrap, IntKind.bits, IntKind.signed]
  omega
theorem xorL_byte : ∀ {xs ys : List Int}, ∀ x ∈ xorL xs ys, 0 ≤ x ∧ x < 256
  | [], ys, x, hx => by simp [xorL] at hx
  | u :: xs, [], x, hx => by simp [xorL] at hx
  | u :: xs, v :: ys, x, hx => by
    simp only [xorL, List.zipWith_cons_cons, List.mem_cons] at hx
    rcases hx with rfl | hx
    · exact xor_u8 u v
    · exact xorL_byte (xs := xs) (ys := ys) x hx
theorem strS_byte {ks : List Int} {ct : Int} {ns bs : List Int} : ∀ x ∈ strS ks ct ns bs, 0 ≤ x ∧ x < 256 := by
  have key : ∀ i, ∀ x ∈ outS ks ct ns bs i, 0 ≤ x ∧ x < 256 := by
    intro i
    induction i with
    | zero => intro x hx; cases hx
    | succ i ih =>
      intro x hx
      rw [outS] at hx
      rcases List.mem_append.1 hx with h | h
      · exact ih x h
      · exact xorL_byte x h
  unfold strS
  split
  · exact key _
  · intro x hx; cases hx
theorem specStream_own (p q r : Option Addr) (n m k c d f : Nat) (count : Int) (ks ns bs : List Int) (w : World) (hf : k ≤ f) (hx : ks.length = n) (hy : ns.length = m) (hz : bs.length = k) (h : BytesIn w p n ks) (h' : BytesIn w q m ns) (h'' : BytesIn w r k bs) (hb1 : ∀ x ∈ ks, 0 ≤ x ∧ x < 256) (hb2 : ∀ x ∈ ns, 0 ≤ x ∧ x < 256) :
    Calls Altd.prog 12 #[.slice p n c, .int .i64 count, .slice q m d, .slice r k f] w fun e w' => ∃ p' c', e = .returned (.slice p' (strS ks count ns bs).length c') ∧ Own 5 w' w.heap.size w'.heap.size (.slice p' (strS ks count ns bs).length c') (strS ks count ns bs).length (strS ks count ns bs) ∧ Below w.heap.size w w' :=
  (specStr_any p q r n m k c d f count ks ns bs w hf hx hy hz h h' h'' hb1 hb2).mono fun e w' ⟨p', L, c', h1, h2, h3⟩ => by
    have hl := h2.len
    subst hl
    exact ⟨p', c', h1, h2, h3⟩
theorem implStream_own (p q r : Option Addr) (n m k c d f : Nat) (count : Int) (ks ns bs : List Int) (w : World) (hn : n ≤ 1048576) (hm : m ≤ 1048576) (hk : k ≤ 1048576) (hc : n ≤ c) (hd : m ≤ d) (hf : k ≤ f) (hct : count ≤ 9223372036854775807) (hx : ks.length = n) (hy : ns.length = m) (hz : bs.length = k) (h : BytesIn w p n ks) (h' : BytesIn w q m ns) (h'' : BytesIn w r k bs) (hb1 : ∀ x ∈ ks, 0 ≤ x ∧ x < 256) (hb2 : ∀ x ∈ ns, 0 ≤ x ∧ x < 256) (hb3 : ∀ x ∈ bs, 0 ≤ x ∧ x < 256) :
    Calls Altd.prog 8 #[.slice p n c, .int .i64 count, .slice q m d, .slice r k f] w fun e w' => ∃ p' c', e = .returned (.slice p' (strS ks count ns bs).length c') ∧ Own 5 w' w.heap.size w'.heap.size (.slice p' (strS ks count ns bs).length c') (strS ks count ns bs).length (strS ks count ns bs) ∧ Below w.heap.size w w' := by
  refine (altStream_any p q r n m k c d f count ks ns bs w ⟨⟨hc, by omega, hd, by omega, hf, by omega, hct⟩, hb1, hb2, hb3⟩ hx hy hz h h' h'').mono fun e w' ⟨v, h1, h2, h3⟩ => ?_
  rcases h3 with ⟨hno, rfl⟩ | ⟨hg, g, rfl, hgs, hrow⟩
  · rw [good_no (by rw [hx, hy, hz]; exact hno)]
    exact ⟨none, 0, h1, .of ⟨rfl, .inl ⟨rfl, rfl⟩⟩, h2⟩
  · have hgl : GoodT ks.length ns.length bs.length count := by rw [hx, hy, hz]; exact hg
    rw [good_ok hgl]
    have hl : (strT ks count ns bs).length = k := by
      rw [strT, out_same, outS_length, hz]
      omega
    rw [hl]
    refine ⟨_, _, h1, .of ⟨by simp [hl], .inr ⟨g, k, _, rfl, hgs, hrow, Nat.le_refl _, by unfold maxLen; omega, by simp [hl], ?_⟩⟩, h2⟩
    simp only [Nat.mul_one]
    exact List.take_of_length_le (by simp [hl])

end Go.Proofs.YtepbidaoloplbaaDoor.Alt
