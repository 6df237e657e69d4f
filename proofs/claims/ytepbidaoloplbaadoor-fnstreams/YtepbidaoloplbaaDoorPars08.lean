/-
  A run beside others, carried over from a run alone, up to the numbers of blocks. HERE: goroutine 0's whole run beside those that only leave, out of a run alone in a program in which some functions (the doors: those that start goroutines) have another body; what a door does beside others, and alone, is asked for.
  A run beside others, carried over from a run alone, up to the numbers of blocks. HERE: the whole run of goroutine 0, through doors.
  A run alone that does not die: what its operations must have met.
  A run alone that does not die: bytes that were made a string are bytes, in the other world too.
  A run beside others, carried over from a run alone. HERE: more functions may be named.
  Plain facts on worlds and lists of bytes for the proofs of this seat: what a row of bytes that the call made reads as, that it stays behind calls that make memory of their own, and what is stored into it. Conditions: none beyond each fact's own.
  The byte's row of the program's table of types.
-/
import Derived.Test.YtepbidaoloplbaaDoorPars07
import Derived.WalkKit
import Derived.ProofKit
import Derived.WalkSpells
import Derived.OpenShut
import Derived.Laws.BytesArg
import Derived.Deep.QuietTactic
import Derived.BigQuiet
import Derived.Deep.AppendLies
import Derived.Lib.OthersKept
import Derived.Laws.RangeAny
import Derived.Deep.RegionLaw
import Derived.Test.YtepbidaoloplbaaDoorChecked
namespace Go.Proofs.YtepbidaoloplbaaDoor
open Go Go.Conc

/-- Beside those that only leave, goroutine 0 comes from g to such a state. -/
def Bes (P : Program) (Q : Goroutine → World → Prop) (g : Goroutine) (w : World) : Prop :=
  ∀ gs sl t q, gs[0]? = some g → LeavX P 0 t gs q → Past (fun _ => False) w.heap.size t → Comes P (fun gs1 w1 _ t1 => ∃ g1 q1, gs1[0]? = some g1 ∧ Q g1 w1 ∧ LeavX P 0 t1 gs1 q1 ∧ Past (fun _ => False) w1.heap.size t1) gs w sl t
section
variable {P : Program} {Q Q' : Goroutine → World → Prop} {g : Goroutine} {w : World}
theorem Bes.now (h : Q g w) : Bes P Q g w := fun _ _ _ q h0 hL hP => .now ⟨g, q, h0, h, hL, hP⟩
theorem Bes.bind (h : Bes P Q g w) (f : ∀ g w, Q g w → Bes P Q' g w) : Bes P Q' g w := fun gs sl t q h0 hL hP => (h gs sl t q h0 hL hP).then fun gs1 w1 sl1 t1 ⟨g1, q1, e0, hq, hL1, hP1⟩ => f g1 w1 hq gs1 sl1 t1 q1 e0 hL1 hP1
theorem Bes.of_co {Sh M : Nat → Prop} {Stop : (Nat → Prop) → Goroutine → World → Prop} (h : Co P true Sh Stop M g w) (hM : ∀ b, M b → b < w.heap.size) (f : ∀ M g w, Stop M g w → (∀ b, M b → b < w.heap.size) → Q g w) : Bes P Q g w := fun gs sl t q h0 hL hP =>
  (co_beside h _ gs w sl t q rfl (.refl _ _) h0 hL hP hM rfl).then fun _ w1 _ _ ⟨_, a, M0, q1, e0, hs, hL1, hP1⟩ => .now ⟨a, q1, e0, f M0 a w1 hs.1 hs.2, hL1, hP1⟩
end

/-! ### the run alone -/
section
variable {P : Program} {Gl : Globs} {Al : Nat → Bool} {Sh : Nat → Prop} {d0 : Nat}
/-- A panic does not come back. -/
theorem pan_gone (T : TameP P Gl Al) (n : Nat) : ∀ (fr : Frame) (st : List Frame) (w : World) (c : List PanicEntry), fr.mode = .panicking c → fr.defers = [] → Al fr.fn = true → (∀ f ∈ st, f.mode = .run ∧ f.defers = [] ∧ Al f.fn = true) → ∀ sE : St, (sE.fr.mode = .run ∨ sE.fr.mode = .returning) → runN P n (lone fr (st ++ [c0 P]) w) ≠ .next (mach P sE) := by
  induction n with
  | zero =>
    intro fr st w c hm hd ha hst sE hE h
    have h' : mach P ⟨fr, st, w⟩ = mach P sE := by simpa [runN, mach] using h
    have hx : fr.mode = sE.fr.mode := congrArg Frame.mode (mach_inj h').1
    rw [hm] at hx
    rcases hE with hE | hE <;> rw [hE] at hx <;> cases hx
  | succ n ih =>
    intro fr st w c hm hd ha hst sE hE h
    obtain ⟨fn, body, f1, _⟩ := T.body fr.fn ha
    have hcat : fr.catches P = false := by simp [Frame.catches, f1]
    cases st with
    | cons f2 st2 =>
      have hg : stepG P true (G fr (f2 :: st2 ++ [c0 P])) w = .go (G (f2.raise c) (st2 ++ [c0 P])) w #[] := by
        simp only [stepG, G, hm, unwind, hd, hcat, List.cons_append]
        rfl
      rw [runN, step_of_go hg] at h
      obtain ⟨g1, g2, g3⟩ := hst f2 List.mem_cons_self
      exact ih (f2.raise c) st2 w c (by simp [Frame.raise, g1]) (by simp [Frame.raise, g1, g2]) (by simp [Frame.raise, g1, g3]) (fun f hf => hst f (List.mem_cons_of_mem _ hf)) sE hE h
    | nil =>
      have hg : stepG P true (G fr ([] ++ [c0 P])) w = .go (G ((c0 P).raise c) []) w #[] := by
        simp only [stepG, G, hm, unwind, hd, hcat, List.nil_append]
        rfl
      rw [runN, step_of_go hg] at h
      have h2 : ∃ o w1 es, stepG P true (G ((c0 P).raise c) []) w = .ended o w1 es := by
        have e1 : ((c0 P).raise c).mode = .panicking c := rfl
        have e2 : ((c0 P).raise c).defers = [] := rfl
        have e3 : ((c0 P).raise c).catches P = true := by
          have : P.funcs[P.funcs.size]? = none := by simp
          simp only [Frame.catches, Frame.raise, c0, this]
          exact door_starts
        refine ⟨_, _, _, by simp only [stepG, G, e1, unwind, e2, e3]; rfl⟩
      obtain ⟨o, w1, es, h2⟩ := h2
      cases n with
      | zero =>
        simp only [runN] at h
        have h3 : lone ((c0 P).raise c) [] w = mach P sE := by simpa using h
        simp only [mach, lone, Machine.mk.injEq, Array.mk.injEq, List.cons.injEq, Goroutine.mk.injEq, and_true] at h3
        have := congrArg List.length h3.2.2
        simp at this
      | succ n => simp only [runN, step_of_ended h2] at h; cases h
theorem don_none (T : TameP P Gl Al) {s : St} (hp : Part P Gl Al Sh s) (hd : Don s) {n : Nat} {sE : St} (h : runN P (n + 1) (mach P s) = .next (mach P sE)) : False := by
  obtain ⟨L, ρ, fr', st', w', hs, hF, hS⟩ := hp
  obtain ⟨fn, body, f1, f2, f3, f4⟩ := T.body s.fr.fn hF.al
  have hm : mach P s = lone s.fr [c0 P] s.w := by simp [mach, hd.1]
  rw [hm] at h
  cases hr : (results fn s.fr.tmps).runT P s.w #[] with
  | mk r es0 =>
    cases r with
    | ok v w2 =>
      have hg : stepG P true (G s.fr [c0 P]) s.w = .go (G ((c0 P).finish v) []) w2 (seen P s.fr.fn es0) := by
        simp only [stepG, G, hd.2, unwind, hF.defers, f1, hr, GStep.after, doReturn, hF.kind, Array.append_empty]
      rw [runN, step_of_go hg] at h
      have h2 : ∃ o w1 es, stepG P true (G ((c0 P).finish v) []) w2 = .ended o w1 es := by
        have e3 : ((c0 P).finish v) = { c0 P with todo := [.extern "fmt's door of nobody" #[v]] } := rfl
        have e4 : Extern.next "fmt's door of nobody" = none := by rfl
        exact ⟨_, _, _, by rw [e3]; simp only [stepG, G, c0, stepG.exec, e4, Option.elim]; rfl⟩
      obtain ⟨o, w1, es, h2⟩ := h2
      cases n with
      | zero =>
        simp only [runN] at h
        have h3 : lone ((c0 P).finish v) [] w2 = mach P sE := by simpa using h
        simp only [mach, lone, Machine.mk.injEq, Array.mk.injEq, List.cons.injEq, Goroutine.mk.injEq, and_true] at h3
        have := congrArg List.length h3.2.2
        simp at this
      | succ n => simp only [runN, step_of_ended h2] at h; cases h
    | halt y w2 =>
      have hg : ∃ o w1 es, stepG P true (G s.fr [c0 P]) s.w = .ended o w1 es := by
        cases y <;> exact ⟨_, _, _, by simp only [stepG, G, hd.2, unwind, hF.defers, f1, hr, GStep.after]; rfl⟩
      obtain ⟨o, w1, es, hg⟩ := hg
      rw [runN, step_of_ended hg] at h
      cases h
/-- Some steps, on the answers that are there. -/
inductive Nxs (P : Program) (d0 : Nat) : St → St → Prop
  | refl (s : St) : Nxs P d0 s s
  | tail {s s1 s2 : St} (h : Nx P d0 s1 s) (k : Nxs P d0 s2 s1) : Nxs P d0 s2 s
theorem part_run {s : St} (h : Part P Gl Al Sh s) : (s.fr.mode = .run ∨ s.fr.mode = .returning) ∧ s.fr.defers = [] ∧ Al s.fr.fn = true ∧ ∀ f ∈ s.st, f.mode = .run ∧ f.defers = [] ∧ Al f.fn = true := by
  obtain ⟨L, ρ, fr', st', w', hs, hF, hS⟩ := h
  exact ⟨hF.run, hF.defers, hF.al, relFs_run hS⟩
/-- A run that comes to a state that is no panic: step by step. -/
theorem nxs_of_run (T : TameP P Gl Al) (n : Nat) : ∀ {s sE : St}, Part P Gl Al Sh s → (sE.fr.mode = .run ∨ sE.fr.mode = .returning) → runN P n (mach P s) = .next (mach P sE) → Nxs P d0 sE s ∧ Part P Gl Al Sh sE := by
  induction n with
  | zero =>
    intro s sE hp hE h
    obtain ⟨e1, e2, e3⟩ := mach_inj (by simpa [runN] using h : mach P s = mach P sE)
    obtain ⟨a, b, c⟩ := s
    obtain ⟨a', b', c'⟩ := sE
    simp only at e1 e2 e3
    subst e1 e2 e3
    exact ⟨.refl _, hp⟩
  | succ n ih =>
    intro s sE hp hE h
    by_cases hd : Don s
    · exact (don_none T hp hd h).elim
    · obtain ⟨L, ρ, fr', st', w', hs, hF, hS⟩ := id hp
      have hs' : ∀ L', Sit L' P Gl Al Sh ρ s.w (follow s.w w') := fun L' => { hs with rel := hs.rel.follow _ }
      obtain ⟨L1, hL1⟩ : ∃ L1, ∀ g1 w1 es, stepG P true (G s.fr (s.st ++ [c0 P])) s.w = .go g1 w1 es → w1.drawn ≤ L1 := by
        cases stepG P true (G s.fr (s.st ++ [c0 P])) s.w with
        | go g1 w2 es => exact ⟨w2.drawn, fun g1 w2 es h => by cases h; exact Nat.le_refl _⟩
        | _ => exact ⟨0, fun g1 w2 es h => by cases h⟩
      have out := sim_step (base := []) (main := true) T (hs' L1) hF hS hd hL1
      cases out with
      | ended h1 =>
        rw [runN, show mach P s = lone s.fr (s.st ++ [c0 P]) s.w from rfl, step_of_ended h1] at h
        cases h
      | pan h1 hm1 hd1 hf1 =>
        rw [runN, show mach P s = lone s.fr (s.st ++ [c0 P]) s.w from rfl, step_of_go h1] at h
        exact absurd h (pan_gone T n _ _ _ _ hm1 hd1 hf1 (relFs_run hS) sE hE)
      | @go ρ1 fr1 fr1' st1 st1' w2 w1' es es' h1 h2 hF1 hS1 hs1 hf1 he1 =>
        rw [runN, show mach P s = lone s.fr (s.st ++ [c0 P]) s.w from rfl, step_of_go h1] at h
        have htp : w2.tape = s.w.tape := hf1.gtape
        have hnx : Nx P d0 ⟨fr1, st1, w2⟩ s := ⟨hd, fun i q _ _ => by rw [show (St.mk fr1 st1 w2).w.tape = s.w.tape from htp], hF1.run, es, by rw [show (St.mk fr1 st1 w2).w.tape = s.w.tape from htp]; exact h1⟩
        obtain ⟨h3, h4⟩ := ih (s := ⟨fr1, st1, w2⟩) (nx_part T hp hnx) hE h
        exact ⟨.tail hnx h3, h4⟩
end

end Go.Proofs.YtepbidaoloplbaaDoor

namespace Go.Proofs.YtepbidaoloplbaaDoor
open Go Go.Conc

/-- What lay there lies there. -/
structure Stays (n : Nat) (w w1 : World) : Prop where
  heap : ∀ b, b < n → w1.heap[b]? = w.heap[b]?
  size : w.heap.size ≤ w1.heap.size
  os : w1.os = w.os
  output : w1.output = w.output
  tape : w1.tape = w.tape
theorem Stays.refl (n : Nat) (w : World) : Stays n w w := ⟨fun _ _ => rfl, Nat.le_refl _, rfl, rfl, rfl⟩
theorem Stays.trans {n m : Nat} {w w1 w2 : World} (h : Stays n w w1) (k : Stays m w1 w2) (hm : n ≤ m) : Stays n w w2 := ⟨fun b hb => (k.heap b (Nat.lt_of_lt_of_le hb hm)).trans (h.heap b hb), Nat.le_trans h.size k.size, k.os.trans h.os, k.output.trans h.output, k.tape.trans h.tape⟩
theorem Keeps.stays {M : Nat → Prop} {w w1 : World} {n : Nat} (h : Keeps M w w1) (hM : ∀ b, b < n → M b) : Stays n w w1 := ⟨fun b hb => h.heap b (hM b hb), h.size, h.os, h.output, h.tape⟩
theorem RelW.kept {L : Nat} {Sh : Nat → Prop} {ρ : Ren} {w w' w1 : World} (h : RelW L Sh ρ w w') (hk : ∀ b b', ρ b b' → w1.heap[b']? = w'.heap[b']?) : RelW 0 Sh ρ w w1 := by
  refine ⟨fun b b' hb => ?_, h.fn, h.inj, h.low0, fun i q hi => absurd hi (Nat.not_lt_zero _), h.shared⟩
  obtain ⟨o, o', h1, h2, ho⟩ := h.obj b b' hb
  exact ⟨o, o', h1, (hk b b' hb).trans h2, ho⟩
theorem finish_mode (fr : Frame) (v : Value) : (fr.finish v).mode = fr.mode := by
  unfold Frame.finish
  split <;> rfl

section
variable {Pg P : Program} [Kin Pg P] {Gl Gl0 : Globs} {Al Alg : Nat → Bool} {Sh : Nat → Prop} {d0 : Nat}
/-- What is not told of, and what is shared, lies as it lay. -/
structure Still (ρ : Ren) (Sh : Nat → Prop) (w w1 : World) : Prop where
  heap : ∀ b, b < w.heap.size → (∀ c, ρ c b → Sh c) → w1.heap[b]? = w.heap[b]?
  size : w.heap.size ≤ w1.heap.size
  os : w1.os = w.os
  output : w1.output = w.output
  tape : w1.tape = w.tape
/-- A run alone, in the program of doors, does not die. -/
def Lives (Pg : Program) (Gl0 : Globs) (Alg : Nat → Bool) (Sh : Nat → Prop) (f : FuncId) (x : Array Value) (wg : World) : Prop := ∃ st n sE, (∀ f ∈ st, f.mode = .run ∧ f.defers = [] ∧ Alg f.fn = true) ∧ runN Pg n (mach Pg ⟨Frame.enter Pg f x .normal, st, wg⟩) = .next (mach Pg sE) ∧ Don sE ∧ Part Pg Gl0 Alg Sh sE
/-- What is asked of the doors. -/
def DoorIs (Pg P : Program) (Gl Gl0 : Globs) (Al Alg : Nat → Bool) (Sh : Nat → Prop) (n0' : Nat) (W' : World) : Prop := ∀ (f : FuncId) (x x' : Array Value) (ρ : Ren) (wg w' : World), Gl.d f x.size = true → RelR ρ x x' → Sit 0 P Gl Al Sh ρ wg w' → Stays n0' W' w' → n0' ≤ w'.heap.size → Lives Pg Gl0 Alg Sh f x wg →
  ∃ Post : Value → World → Prop, (∀ τ, Calls Pg f x (World.ret wg τ) fun e w1 => ∃ v, e = .returned v ∧ Post v w1) ∧
    ∀ (c : Frame) (cs : List Frame), Bes P (fun g1 w1 => ∃ v', g1 = G (c.finish v') cs ∧ Still ρ Sh w' w1 ∧ ∀ v w1g, Post v w1g → ∃ ρ1 : Ren, ρ.le ρ1 ∧ RelV ρ1 v v' ∧ Sit 0 P Gl Al Sh ρ1 w1g w1 ∧ (∀ b b', ρ1 b b' → ρ b b' ∨ (wg.heap.size ≤ b ∧ w'.heap.size ≤ b')) ∧ wg.heap.size ≤ w1g.heap.size) (G (Frame.enter P f x' .normal) (c :: cs)) w'
/-- Where the two runs stand. -/
structure Along (P : Program) (Gl : Globs) (Al : Nat → Bool) (Sh : Nat → Prop) (ρ0 : Ren) (n0 n0' : Nat) (W' : World) (s : St) (ρ : Ren) (fr' : Frame) (st' : List Frame) (w' : World) : Prop where
  sit : Sit 0 P Gl Al Sh ρ s.w w'
  fr : RelF P Gl Al ρ s.fr fr'
  st : RelFs P Gl Al ρ s.st st'
  le0 : ρ0.le ρ
  pair : ∀ b b', ρ b b' → ρ0 b b' ∨ (n0 ≤ b ∧ n0' ≤ b')
  low : n0 ≤ s.w.heap.size
  low' : n0' ≤ w'.heap.size
  stays : Stays n0' W' w'
theorem good_nxs {E : St → Prop} (T : TameP Pg Gl0 Alg) {s1 s : St} (h : Nxs Pg d0 s1 s) (hp : Part Pg Gl0 Alg Sh s) (hg : Good Pg E d0 s) (hd : d0 ≤ s.w.drawn) : Good Pg E d0 s1 ∧ d0 ≤ s1.w.drawn := by
  induction h with
  | refl s => exact ⟨hg, hd⟩
  | @tail s s1 s2 h k ih => exact ih (nx_part T hp h) (good_step T hp hg hd h) (Nat.le_trans hd (nx_local T hp h (τ := s1.w.tape) fun _ _ _ _ => rfl).2)
theorem trans_nxs {s2 s1 : St} (k : Nxs Pg d0 s2 s1) : ∀ {s : St}, Nx Pg d0 s1 s → Relation.TransGen (Nx Pg d0) s2 s := by
  induction k with
  | refl s1 => exact fun h => .single h
  | tail h1 _ ih => exact fun h => (ih h1).tail h
/-- What comes of a step. -/
def NextIs (Pg P : Program) (Gl : Globs) (Al : Nat → Bool) (Sh : Nat → Prop) (d0 : Nat) (ρ0 : Ren) (n0 n0' : Nat) (W' : World) (s : St) (fr' : Frame) (st' : List Frame) (g : Goroutine) (w1 : World) : Prop :=
  (∃ s1 ρ1 fr1' st1', Nx Pg d0 s1 s ∧ g = G fr1' st1' ∧ Along P Gl Al Sh ρ0 n0 n0' W' s1 ρ1 fr1' st1' w1) ∨
  ∃ f x x' ρ1 wg1, Gl.d f x.size = true ∧ Nx Pg d0 ⟨Frame.enter Pg f x .normal, s.fr :: s.st, wg1⟩ s ∧ g = G (Frame.enter P f x' .normal) (fr' :: st') ∧ RelR ρ1 x x' ∧ s.fr.mode = .run ∧ (∃ ops i rest k, s.fr.todo = .inRegion ops (i :: rest) :: k) ∧ Along P Gl Al Sh ρ0 n0 n0' W' ⟨s.fr, s.st, wg1⟩ ρ1 fr' st' w1
theorem next_is (T2 : Tame2 Pg P Gl Al) (Tg : TameP Pg Gl0 Alg) (hAA : ∀ f, Al f = true → Alg f = true) {ρ0 : Ren} {n0 n0' : Nat} {W' : World} (hSh0 : ∀ b b', ρ0 b b' → Sh b) {E : St → Prop} {s : St} {ρ : Ren} {fr' : Frame} {st' : List Frame} {w' : World} (hg : Good Pg E d0 s) (hdon : ¬ Don s) (A : Along P Gl Al Sh ρ0 n0 n0' W' s ρ fr' st' w') (w1 : World) (hk : Keeps (fun b => b < w'.heap.size) w' w1) :
    ∃ g' w2 es, stepG P true (G fr' st') w1 = .go g' w2 es ∧ Guar (fun _ => False) (fun b => b < w'.heap.size) w1 w2 es ∧ ∀ w3, Keeps (grown (fun b => b < w'.heap.size) w1 w2) w2 w3 → NextIs Pg P Gl Al Sh d0 ρ0 n0 n0' W' s fr' st' g' w3 := by
  have hsz := hk.size
  have rk : RelW 0 Sh ρ s.w w1 := A.sit.rel.kept fun b b' hb => hk.heap b' (A.sit.rel.lt hb).2
  obtain ⟨τ, hτ⟩ : ∃ τ : Nat → Question → Nat, τ = fun i q => if i < s.w.drawn then s.w.tape i q else w1.tape (i - s.w.drawn + w1.drawn) q := ⟨_, rfl⟩
  have hold : ∀ i q, d0 ≤ i → i < s.w.drawn → τ i q = s.w.tape i q := fun i q _ h => by rw [hτ]; simp [h]
  have hsit : ∀ L, Sit L P Gl Al Sh ρ (World.ret s.w τ) w1 := fun L => ⟨rk.retape (τ := τ) (τ' := w1.tape) (d := s.w.drawn) (d' := w1.drawn) fun i q _ => by
    rw [hτ]
    show (if s.w.drawn + i < s.w.drawn then _ else _) = _
    rw [if_neg (by omega), show s.w.drawn + i - s.w.drawn + w1.drawn = w1.drawn + i by omega], A.sit.sh, A.sit.hG, A.sit.hA, A.sit.hD, A.sit.gl, A.sit.big⟩
  obtain ⟨L, hL⟩ : ∃ L, ∀ g1 w2 es, stepG Pg true (G s.fr (s.st ++ [c0 Pg])) (World.ret s.w τ) = .go g1 w2 es → w2.drawn ≤ L := by
    cases stepG Pg true (G s.fr (s.st ++ [c0 Pg])) (World.ret s.w τ) with
    | go g1 w2 es => exact ⟨w2.drawn, fun g1 w2 es h => by cases h; exact Nat.le_refl _⟩
    | _ => exact ⟨0, fun g1 w2 es h => by cases h⟩
  obtain ⟨n, sE, hn, hE1, _⟩ := hg τ hold
  have hst : ∀ f ∈ s.st, f.mode = .run ∧ f.defers = [] ∧ Alg f.fn = true := fun f hf => let ⟨x, y, z⟩ := relFs_run A.st f hf; ⟨x, y, hAA _ z⟩
  -- what a step keeps
  have stay : ∀ {ρ1 : Ren} {wg2 w2 w3 : World}, Frm Sh ρ ρ1 (World.ret s.w τ) wg2 w1 w2 → Keeps (grown (fun b => b < w'.heap.size) w1 w2) w2 w3 → Stays n0' W' w3 := fun {ρ1 wg2 w2 w3} hf hk3 => by
    refine A.stays.trans (m := n0') ⟨fun b hb => ?_, Nat.le_trans hsz (Nat.le_trans hf.size' hk3.size), (hk3.os.trans hf.os).trans hk.os, (hk3.output.trans hf.output).trans hk.output, (hk3.tape.trans hf.tape).trans hk.tape⟩ (Nat.le_refl _)
    have hb' : b < w'.heap.size := Nat.lt_of_lt_of_le hb A.low'
    rw [hk3.heap b (.inl hb'), ← hk.heap b hb']
    by_cases hx : ∃ c, ρ c b
    · obtain ⟨c, hc⟩ := hx
      rcases A.pair c b hc with h | h
      · exact hf.still c b (hSh0 c b h) hc
      · omega
    · exact hf.rest b (Nat.lt_of_lt_of_le hb' hsz) fun c hc => hx ⟨c, hc⟩
  have guar : ∀ {ρ1 : Ren} {wg2 w2 : World} {es : Array Event}, Frm Sh ρ ρ1 (World.ret s.w τ) wg2 w1 w2 → RelW L Sh ρ1 wg2 w2 → (∀ e ∈ es, EvR Sh ρ1 e) → Guar (fun _ => False) (fun b => b < w'.heap.size) w1 w2 es := fun {ρ1 wg2 w2 es} hf hr he => by
    have hin : ∀ b b', ρ1 b b' → grown (fun b => b < w'.heap.size) w1 w2 b' := fun b b' hb => by
      rcases hf.new b b' hb with h | ⟨j, _, h⟩
      · exact .inl (A.sit.rel.lt h).2
      · exact .inr ⟨by omega, (hr.lt hb).2⟩
    refine ⟨hf.size', fun b hb hn => hf.rest b hb fun c hc => hn (A.sit.rel.lt hc).2, fun b h _ => h.elim, hf.os, hf.output, hf.tape, fun e h => ?_⟩
    rcases he e h with ⟨a, b, h1, h2, h3, h4⟩ | ⟨r, b, h1, h2, h3, h4⟩ | h
    · exact .inl ⟨a, h1, h2, hin _ _ h3, fun _ => id⟩
    · exact .inr (.inl ⟨r, h1, h2, h3, hin _ _ h4⟩)
    · exact .inr (.inr h)
  have kept : ∀ {ρ1 : Ren} {wg2 w2 w3 : World}, Frm Sh ρ ρ1 (World.ret s.w τ) wg2 w1 w2 → RelW L Sh ρ1 wg2 w2 → Keeps (grown (fun b => b < w'.heap.size) w1 w2) w2 w3 → RelW 0 Sh ρ1 wg2 w3 := fun {ρ1 wg2 w2 w3} hf hr hk3 => hr.kept fun b b' hb => hk3.heap b' (by
    rcases hf.new b b' hb with h | ⟨j, _, h⟩
    · exact .inl (A.sit.rel.lt h).2
    · exact .inr ⟨by omega, (hr.lt hb).2⟩)
  have pairs : ∀ {ρ1 : Ren} {wg2 w2 : World}, Frm Sh ρ ρ1 (World.ret s.w τ) wg2 w1 w2 → ∀ b b', ρ1 b b' → ρ0 b b' ∨ (n0 ≤ b ∧ n0' ≤ b') := fun {ρ1 wg2 w2} hf b b' hb => by
    have l1 := A.low
    have l2 := A.low'
    rcases hf.new b b' hb with h | ⟨j, h1, h2⟩
    · exact A.pair b b' h
    · have h1' : b = s.w.heap.size + j := h1
      exact .inr ⟨by omega, by omega⟩
  cases n with
  | zero =>
    have := mach_inj (by simpa [runN] using hn : mach Pg (s.ret τ) = mach Pg sE)
    exact absurd (show Don s from ⟨this.2.1.trans hE1.1, (congrArg Frame.mode this.1).trans hE1.2⟩) hdon
  | succ n =>
    have out := sim_step2 (base := []) (main := true) T2 (hsit L) A.fr A.st hdon hL
    cases out with
    | ended h1 =>
      rw [runN, show mach Pg (s.ret τ) = lone s.fr (s.st ++ [c0 Pg]) (World.ret s.w τ) from rfl, step_of_ended h1] at hn
      cases hn
    | pan h1 hm1 hd1 hf1 =>
      rw [runN, show mach Pg (s.ret τ) = lone s.fr (s.st ++ [c0 Pg]) (World.ret s.w τ) from rfl, step_of_go h1] at hn
      exact absurd hn (pan_gone Tg n _ _ _ _ hm1 hd1 (hAA _ hf1) hst sE (.inr hE1.2))
    | @go ρ1 fr1 fr1' st1 st1' w2 w1' es es' h1 h2 hF1 hS1 hs1 hf1 he1 =>
      have htp : w2.tape = τ := hf1.gtape
      have hnx : Nx Pg d0 ⟨fr1, st1, w2⟩ s := ⟨hdon, fun i q a b => by rw [show (St.mk fr1 st1 w2).w.tape = τ from htp]; exact hold i q a b, hF1.run, es, by rw [show (St.mk fr1 st1 w2).w.tape = τ from htp]; exact h1⟩
      refine ⟨_, _, _, by simpa using h2, guar hf1 hs1.rel he1, fun w3 hk3 => .inl ⟨⟨fr1, st1, w2⟩, ρ1, fr1', st1', hnx, by simp, ⟨kept hf1 hs1.rel hk3, hs1.sh, hs1.hG, hs1.hA, hs1.hD, hs1.gl, hs1.big⟩, hF1, hS1, A.le0.trans hf1.le, pairs hf1, Nat.le_trans A.low hf1.size, Nat.le_trans A.low' (Nat.le_trans hsz (Nat.le_trans hf1.size' hk3.size)), stay hf1 hk3⟩⟩
    | @meets ρ1 f x x' w2 w1' es es' hd h1 h2 hx hF1 hr ht hS1 hs1 hf1 he1 =>
      have htp : w2.tape = τ := hf1.gtape
      have hnx : Nx Pg d0 ⟨Frame.enter Pg f x .normal, s.fr :: s.st, w2⟩ s := ⟨hdon, fun i q a b => by rw [show (St.mk (Frame.enter Pg f x .normal) (s.fr :: s.st) w2).w.tape = τ from htp]; exact hold i q a b, .inl rfl, es, by rw [show (St.mk (Frame.enter Pg f x .normal) (s.fr :: s.st) w2).w.tape = τ from htp]; exact h1⟩
      refine ⟨_, _, _, by simpa using h2, guar hf1 hs1.rel he1, fun w3 hk3 => .inr ⟨f, x, x', ρ1, w2, hd, hnx, by simp, hx, hr, ht, ⟨kept hf1 hs1.rel hk3, hs1.sh, hs1.hG, hs1.hA, hs1.hD, hs1.gl, hs1.big⟩, hF1, hS1, A.le0.trans hf1.le, pairs hf1, Nat.le_trans A.low hf1.size, Nat.le_trans A.low' (Nat.le_trans hsz (Nat.le_trans hf1.size' hk3.size)), stay hf1 hk3⟩⟩
/-- ████ THE WHOLE RUN, BESIDE THOSE THAT ONLY LEAVE. ████ -/
theorem law_beside (T2 : Tame2 Pg P Gl Al) (Tg : TameP Pg Gl0 Alg) (hAA : ∀ f, Al f = true → Alg f = true) {ρ0 : Ren} {n0 n0' : Nat} {W' : World} (hD : DoorIs Pg P Gl Gl0 Al Alg Sh n0' W') (hSh0 : ∀ b b', ρ0 b b' → Sh b) {E : St → Prop} (s : St) (hacc : Acc (Relation.TransGen (Nx Pg d0)) s) :
    ∀ (ρ : Ren) (fr' : Frame) (st' : List Frame) (w' : World), Part Pg Gl0 Alg Sh s → Good Pg E d0 s → d0 ≤ s.w.drawn → Along P Gl Al Sh ρ0 n0 n0' W' s ρ fr' st' w' →
      Bes P (fun g w1 => ∃ sE ρ1 frE', g = G frE' [] ∧ Don sE ∧ E sE ∧ Along P Gl Al Sh ρ0 n0 n0' W' sE ρ1 frE' [] w1) (G fr' st') w' := by
  induction hacc with
  | intro s _ ih =>
    intro ρ fr' st' w' hp hg hd A
    by_cases hdon : Don s
    · obtain ⟨n, sE, hn, hE1, hE2⟩ := hg s.w.tape fun _ _ _ _ => rfl
      have e : s = sE := by
        cases n with
        | zero =>
          obtain ⟨e1, e2, e3⟩ := mach_inj (by simpa [runN] using hn : mach Pg (s.ret s.w.tape) = mach Pg sE)
          obtain ⟨a, b, c⟩ := s
          obtain ⟨a', b', c'⟩ := sE
          simp only [St.ret] at e1 e2 e3
          subst e1 e2 e3
          rfl
        | succ n => exact (don_none Tg hp hdon (show runN Pg (n + 1) (mach Pg s) = .next (mach Pg sE) from hn)).elim
      subst e
      obtain rfl : st' = [] := by
        have := A.st
        rw [hdon.1] at this
        cases this
        rfl
      exact .now ⟨s, ρ, fr', rfl, hdon, hE2, A⟩
    · have hco : Co P true (fun _ => False) (fun _ g w1 => NextIs Pg P Gl Al Sh d0 ρ0 n0 n0' W' s fr' st' g w1) (fun b => b < w'.heap.size) (G fr' st') w' := by
        refine .step rfl (fun w1 hk => ?_) fun w1 hk g2 w2 es he => ?_
        · obtain ⟨g', w2, es, h1, h2, _⟩ := next_is T2 Tg hAA hSh0 hg hdon A w1 hk
          exact ⟨g', w2, es, h1, h2⟩
        · obtain ⟨g', w3, es', h1, _, h3⟩ := next_is T2 Tg hAA hSh0 hg hdon A w1 hk
          rw [he] at h1
          cases h1
          exact .stop h3
      refine (Bes.of_co hco (fun b hb => hb) fun _ _ _ h _ => h).bind fun g1 w1 h => ?_
      rcases h with ⟨s1, ρ1, fr1', st1', hnx, rfl, A1⟩ | ⟨f, x, x', ρ1, wg1, hdr, hnx, rfl, hx, hr, ht, A1⟩
      · exact ih s1 (.single hnx) ρ1 fr1' st1' w1 (nx_part Tg hp hnx) (good_step Tg hp hg hd hnx) (Nat.le_trans hd (nx_local Tg hp hnx (τ := s1.w.tape) fun _ _ _ _ => rfl).2) A1
      · have hpF := nx_part Tg hp hnx
        have hgF := good_step Tg hp hg hd hnx
        have hdF : d0 ≤ wg1.drawn := Nat.le_trans hd (nx_local Tg hp hnx (τ := wg1.tape) fun _ _ _ _ => rfl).2
        have hlive : Lives Pg Gl0 Alg Sh f x wg1 := by
          obtain ⟨n, sE, hn, hE1, _⟩ := hgF wg1.tape fun _ _ _ _ => rfl
          exact ⟨s.fr :: s.st, n, sE, (part_run hpF).2.2.2, hn, hE1, (nxs_of_run (d0 := d0) (Sh := Sh) Tg n hpF (.inr hE1.2) hn).2⟩
        obtain ⟨Post, hC, hB⟩ := hD f x x' ρ1 wg1 w1 hdr hx A1.sit A1.stays A1.low' hlive
        refine (hB fr' st').bind fun g2 w2 ⟨v', e2, hst, hrel⟩ => ?_
        subst e2
        obtain ⟨e, w1g, fr, ⟨v, rfl, hpost⟩, ⟨n, hn⟩, _, hlv⟩ := hC wg1.tape (s.fr :: s.st ++ [c0 Pg])
        have hrun : runN Pg (n + 1) (mach Pg ⟨Frame.enter Pg f x .normal, s.fr :: s.st, wg1⟩) = .next (mach Pg ⟨s.fr.finish v, s.st, w1g⟩) := by
          rw [runN_add]
          rw [show runN Pg n (mach Pg ⟨Frame.enter Pg f x .normal, s.fr :: s.st, wg1⟩) = .next (lone fr (s.fr :: s.st ++ [c0 Pg]) w1g) from hn]
          simp only [runN]
          rw [List.cons_append, step_leave_returned (c := s.fr) (cs := s.st ++ [c0 Pg]) hlv]
          rfl
        have hmode : (s.fr.finish v).mode = .run := (finish_mode _ _).trans hr
        obtain ⟨hnxs, hpR⟩ := nxs_of_run (d0 := d0) (Sh := Sh) Tg (n + 1) (sE := ⟨s.fr.finish v, s.st, w1g⟩) hpF (.inl hmode) hrun
        obtain ⟨hgR, hdR⟩ := good_nxs Tg hnxs hpF hgF hdF
        obtain ⟨ρ2, hle, hv, hs2, hpair, hgsz⟩ := hrel v w1g hpost
        obtain ⟨ops, i, rest, k, ht⟩ := ht
        refine ih ⟨s.fr.finish v, s.st, w1g⟩ (trans_nxs hnxs hnx) ρ2 _ _ w2 hpR hgR hdR ⟨hs2, (A1.fr.mono hle).finish ht hv, A1.st.mono hle, A1.le0.trans hle, fun b b' hb => ?_, Nat.le_trans A1.low hgsz, Nat.le_trans A1.low' hst.size, A1.stays.trans (m := n0') ⟨fun b hb => hst.heap b (Nat.lt_of_lt_of_le hb A1.low') fun c hc => (A1.pair c b hc).elim (hSh0 c b) fun x => absurd hb (by omega), hst.size, hst.os, hst.output, hst.tape⟩ (Nat.le_refl _)⟩
        have l1 : n0 ≤ wg1.heap.size := A1.low
        have l2 := A1.low'
        rcases hpair b b' hb with h | h
        · exact A1.pair b b' h
        · exact .inr ⟨by omega, by omega⟩
end

end Go.Proofs.YtepbidaoloplbaaDoor

namespace Go.Proofs.YtepbidaoloplbaaDoor
open Go Go.Conc

section
variable {P : Program} {Gl : Globs} {Al : Nat → Bool} {Sh : Nat → Prop}
/-- From here the run alone comes to its end. -/
def Live (P : Program) (Gl : Globs) (Al : Nat → Bool) (Sh : Nat → Prop) (s : St) : Prop := (∀ f ∈ s.st, f.mode = .run ∧ f.defers = [] ∧ Al f.fn = true) ∧ ∃ n sE, runN P n (mach P s) = .next (mach P sE) ∧ Don sE ∧ Part P Gl Al Sh sE
theorem Lives.live {f : FuncId} {x : Array Value} {w : World} (h : Lives P Gl Al Sh f x w) : ∃ st, Live P Gl Al Sh ⟨Frame.enter P f x .normal, st, w⟩ :=
  let ⟨st, n, sE, h1, h2, h3⟩ := h
  ⟨st, h1, n, sE, h2, h3⟩
theorem live_go {fr fr1 : Frame} {st st1 : List Frame} {w w1 : World} {es : Array Event} (h : Live P Gl Al Sh ⟨fr, st, w⟩) (hd : fr.mode = .run) (hs : stepG P true (G fr (st ++ [c0 P])) w = .go (G fr1 (st1 ++ [c0 P])) w1 es) (h1 : ∀ f ∈ st1, f.mode = .run ∧ f.defers = [] ∧ Al f.fn = true) : Live P Gl Al Sh ⟨fr1, st1, w1⟩ := by
  obtain ⟨_, n, sE, hn, hE⟩ := h
  cases n with
  | zero =>
    obtain ⟨e1, _⟩ := mach_inj (by simpa [runN] using hn : mach P ⟨fr, st, w⟩ = mach P sE)
    simp only at e1
    rw [e1, hE.1.2] at hd
    cases hd
  | succ n =>
    rw [runN, show mach P ⟨fr, st, w⟩ = lone fr (st ++ [c0 P]) w from rfl, step_of_go hs] at hn
    exact ⟨h1, n, sE, hn, hE⟩
/-- A step of control. -/
theorem live_ctl {b : Frame} {a a1 : Act} {k k1 : List Item} {st : List Frame} {w : World} (h : Live P Gl Al Sh ⟨b.at a k, st, w⟩) (hd : (b.at a k).mode = .run) (hs : ∀ cs, stepG P true (G (b.at a k) cs) w = .go (G (b.at a1 k1) cs) w) : Live P Gl Al Sh ⟨b.at a1 k1, st, w⟩ := live_go h hd (hs _) h.1
/-- An operation that can only yield a value: it has yielded one. -/
theorem live_op (T : TameP P Gl Al) {b : Frame} {a : Act} {k : List Item} {st : List Frame} {w : World} {ops : Array Oper} {i : Nat} {rest : List Nat} {o : Oper} (h : Live P Gl Al Sh ⟨b.at a (.inRegion ops (i :: rest) :: k), st, w⟩) (hm : (b.at a (.inRegion ops (i :: rest) :: k)).mode = .run) (hal : Al b.fn = true) (hk : b.kind = .normal) (hdf : a.defers = [])
    (ho : ops[i]? = some o) (hw : Region.wanted o (yielded ops a.tmps) = true) (hty : ∀ y w1, (execOp a.eval o).run P w = .halt y w1 → tame y = true) (hv : ∀ x w1, (execOp a.eval o).run P w = .ok x w1 → ∃ v, x = .value v) :
    ∃ v w1, (execOp a.eval o).run P w = .ok (.value v) w1 ∧ Live P Gl Al Sh ⟨b.at (a.put o.dst v) (.inRegion ops rest :: k), st, w1⟩ := by
  cases hr : (execOp a.eval o).run P w with
  | ok x w1 =>
    obtain ⟨v, rfl⟩ := hv x w1 hr
    exact ⟨v, w1, rfl, live_go h hm (stepG_value ho hw (by rw [hk]; decide) hr) h.1⟩
  | halt y w1 =>
    exfalso
    have hyt := hty y w1 hr
    obtain ⟨hst, n, sE, hn, hE⟩ := h
    cases n with
    | zero =>
      obtain ⟨e1, _⟩ := mach_inj (by simpa [runN] using hn : mach P ⟨b.at a (.inRegion ops (i :: rest) :: k), st, w⟩ = mach P sE)
      simp only at e1
      rw [e1, hE.1.2] at hm
      cases hm
    | succ n =>
      have hrt : (execOp a.eval o).runT P w #[] = (.halt y w1, (execOp a.eval o).events P w #[]) := by
        apply Prod.ext
        · rw [Sem.runT_fst, hr]
        · rfl
      rw [runN, show mach P ⟨b.at a (.inRegion ops (i :: rest) :: k), st, w⟩ = lone (b.at a (.inRegion ops (i :: rest) :: k)) (st ++ [c0 P]) w from rfl] at hn
      have A1 := stepG_oper (P := P) (main := true) (b := b) (k := k) (cs := st ++ [c0 P]) (w := w) (rest := rest) ho hw
      rcases apply_halt (P := P) (fr := b.at a (.inRegion ops (i :: rest) :: k)) (cs := st ++ [c0 P]) (show (b.at a _).kind = .normal from hk) hyt hrt with ⟨o1, h1⟩ | ⟨v, h1⟩
      · rw [step_of_ended (A1.trans h1)] at hn
        cases hn
      · rw [step_of_go (A1.trans h1)] at hn
        refine pan_gone T n _ st w1 [{ v, recovered := false }] ?_ ?_ ?_ hst sE (.inr hE.1.2) hn
        · simp [Frame.raise, hm]
        · simp only [Frame.raise, hm]
          exact hdf
        · simp only [Frame.raise, hm]
          exact hal
/-- A call. -/
theorem live_enter {b : Frame} {a : Act} {k : List Item} {st : List Frame} {w : World} {ops : Array Oper} {i : Nat} {rest : List Nat} {o : Oper} {f : FuncId} {x : Array Value} (h : Live P Gl Al Sh ⟨b.at a (.inRegion ops (i :: rest) :: k), st, w⟩) (hal : Al b.fn = true) (hk : b.kind = .normal) (hdf : a.defers = [])
    (ho : ops[i]? = some o) (hw : Region.wanted o (yielded ops a.tmps) = true) (hr : (execOp a.eval o).run P w = .ok (.enter f x) w) : Live P Gl Al Sh ⟨Frame.enter P f x .normal, b.at a (.inRegion ops (i :: rest) :: k) :: st, w⟩ := by
  have hrt : (execOp a.eval o).runT P w #[] = (.ok (.enter f x) w, (execOp a.eval o).events P w #[]) := by
    apply Prod.ext
    · rw [Sem.runT_fst, hr]
    · rfl
  refine live_go h rfl ((stepG_oper ho hw).trans (apply_enter (fr := b.at a (.inRegion ops (i :: rest) :: k)) (cs := st ++ [c0 P]) rfl hk hrt)) fun g hg => ?_
  rcases List.mem_cons.1 hg with rfl | hg
  · exact ⟨rfl, hdf, hal⟩
  · exact h.1 g hg
/-- A call of what is known alone: it has come back. -/
theorem live_call (T : TameP P Gl Al) {f : FuncId} {x : Array Value} {fr : Frame} {st : List Frame} {w : World} {Post : Value → World → Prop} (h : Live P Gl Al Sh ⟨Frame.enter P f x .normal, fr :: st, w⟩) (hC : Calls P f x w fun e w1 => ∃ v, e = .returned v ∧ Post v w1) : ∃ v w1, Post v w1 ∧ Live P Gl Al Sh ⟨fr.finish v, st, w1⟩ := by
  obtain ⟨e, w1, fr1, ⟨v, rfl, hpost⟩, ⟨n, hn⟩, _, hlv⟩ := hC (fr :: st ++ [c0 P])
  have hrun : runN P (n + 1) (mach P ⟨Frame.enter P f x .normal, fr :: st, w⟩) = .next (mach P ⟨fr.finish v, st, w1⟩) := by
    rw [runN_add]
    rw [show runN P n (mach P ⟨Frame.enter P f x .normal, fr :: st, w⟩) = .next (lone fr1 (fr :: st ++ [c0 P]) w1) from hn]
    simp only [runN]
    rw [List.cons_append, step_leave_returned (c := fr) (cs := st ++ [c0 P]) hlv]
    rfl
  obtain ⟨hst, N, sE, hN, hE, hp⟩ := h
  refine ⟨v, w1, hpost, fun g hg => hst g (List.mem_cons_of_mem _ hg), ?_⟩
  rcases Nat.lt_or_ge N (n + 1) with hlt | hge
  · exfalso
    obtain ⟨k, hk⟩ : ∃ k, n + 1 = N + (k + 1) := ⟨n - N, by omega⟩
    rw [hk, runN_add, hN] at hrun
    exact don_none T hp hE hrun
  · obtain ⟨k, rfl⟩ : ∃ k, N = n + 1 + k := ⟨N - (n + 1), by omega⟩
    rw [runN_add, hrun] at hN
    exact ⟨k, sE, hN, hE, hp⟩
end

end Go.Proofs.YtepbidaoloplbaaDoor

namespace Go.Proofs.YtepbidaoloplbaaDoor
open Go Go.Conc

section
variable {P : Program} {L : Nat} {Sh : Nat → Prop} {ρ : Ren} {wg w : World} {a a' : Addr}
theorem loads_are (h : RelW L Sh ρ wg w) (ha : RelA ρ a a') (n : Nat) : ∀ (i : Nat) (acc cells : Array Value) (w1 : World), (loadCellsFrom a i n acc).run P wg = .ok cells w1 → w1 = wg ∧ ∃ vs : List Value, vs.length = n ∧ cells.toList = acc.toList ++ vs ∧ ∀ j v, vs[j]? = some v → wg.cell? (a.add (i + j)) = some v := by
  induction n with
  | zero =>
    intro i acc cells w1 hr
    simp only [loadCellsFrom, Sem.run_pure, Result.ok.injEq] at hr
    exact ⟨hr.2.symm, [], rfl, by rw [← hr.1]; simp, fun j v hv => by simp at hv⟩
  | succ n ih =>
    intro i acc cells w1 hr
    simp only [loadCellsFrom, Sem.run_bind, run_load] at hr
    cases hc : wg.cell? (a.add i) with
    | some v =>
      rw [hc] at hr
      obtain ⟨e1, vs, e2, e3, e4⟩ := ih (i + 1) (acc.push v) cells w1 hr
      refine ⟨e1, v :: vs, by simp [e2], by rw [e3]; simp, fun j u hu => ?_⟩
      cases j with
      | zero =>
        cases hu
        exact hc
      | succ j =>
        rw [show i + (j + 1) = i + 1 + j by omega]
        exact e4 j u hu
    | none =>
      obtain ⟨⟨x, hx, _⟩, _⟩ := (h.cell (ha.add i)).2 hc P (Mode.plain == .atomic)
      rw [hc] at hr
      simp only [hx] at hr
      cases hr
theorem string_are (e : ByteArray → Sem (ForInStep ByteArray)) (he : ∀ s, Dead P (e s)) (l : List Value) : ∀ (s s1 : ByteArray) (w w1 : World), (forIn l s fun c s => match c with | .int .u8 n => Pure.pure (ForInStep.yield (s.push (UInt8.ofNat n.toNat))) | _ => e s : Sem ByteArray).run P w = .ok s1 w1 → w1 = w ∧ ∀ v ∈ l, ∃ z, v = .int .u8 z := by
  induction l with
  | nil =>
    intro s s1 w w1 hr
    cases hr
    exact ⟨rfl, fun v hv => by cases hv⟩
  | cons a l ih =>
    intro s s1 w w1 hr
    rw [List.forIn_cons] at hr
    by_cases ha : ∃ z, a = .int .u8 z
    · obtain ⟨z, rfl⟩ := ha
      obtain ⟨h1, h2⟩ := ih _ s1 w w1 hr
      refine ⟨h1, fun v hv => ?_⟩
      rcases List.mem_cons.1 hv with rfl | hv
      · exact ⟨z, rfl⟩
      · exact h2 v hv
    · exfalso
      cases a with
      | int k z => cases k <;> first | exact ha ⟨z, rfl⟩ | exact (dead_left (he s)).1 w s1 w1 hr
      | _ => exact (dead_left (he s)).1 w s1 w1 hr
def intV : Value → Int
  | .int _ z => z
  | _ => 0
/-- Bytes. -/
theorem bytes_are (h : RelW L Sh ρ wg w) (ha : RelA ρ a a') {n c : Nat} {v : Value} {w1 : World} (hr : (Conv.bytesToString (.slice (some a) n c)).run P wg = .ok v w1) : w1 = wg ∧ ∃ xs : List Int, xs.length = n ∧ ∀ j u, xs[j]? = some u → wg.cell? (a.add j) = some (.int .u8 u) ∧ w.cell? (a'.add j) = some (.int .u8 u) := by
  unfold Conv.bytesToString at hr
  simp only [Sem.run_bind] at hr
  cases hl : (loadCells a n).run P wg with
  | halt y w2 =>
    rw [hl] at hr
    cases hr
  | ok cells w2 =>
    obtain ⟨e1, vs, e2, e3, e4⟩ := loads_are h ha n 0 #[] cells w2 hl
    rw [hl] at hr
    subst e1
    obtain ⟨cl⟩ := cells
    have e3' : cl = vs := by simpa using e3
    subst e3'
    simp only [Result.andThen_ok, List.forIn_toArray] at hr
    generalize hF : (forIn cl ByteArray.empty _ : Sem ByteArray) = F at hr
    cases hq : F.run P w2 with
    | halt y w3 =>
      rw [hq] at hr
      cases hr
    | ok s1 w3 =>
      rw [hq] at hr
      subst hF
      obtain ⟨g1, g2⟩ := string_are _ (fun s => dead_left (dead_stuck _)) cl ByteArray.empty s1 w2 w3 hq
      subst g1
      cases hr
      refine ⟨rfl, cl.map intV, by simp [e2], fun j u hu => ?_⟩
      rw [List.getElem?_map] at hu
      obtain ⟨x, hx, rfl⟩ := Option.map_eq_some_iff.1 hu
      obtain ⟨z, rfl⟩ := g2 x (List.mem_of_getElem? hx)
      have hc := e4 j _ hx
      rw [Nat.zero_add] at hc
      obtain ⟨v', hv', hr'⟩ := (h.cell (ha.add j)).1 _ hc
      cases hr'
      exact ⟨hc, hv'⟩
end

end Go.Proofs.YtepbidaoloplbaaDoor

namespace Go.Proofs.YtepbidaoloplbaaDoor
open Go Go.Conc

/-- The same renaming, with other functions. -/
def Ren.up (ρ : Ren) (A : Nat → Prop) (D : Nat → Nat → Prop) : Ren := { ρ with A := A, D := D }
section
variable {ρ : Ren} {A : Nat → Prop} {D : Nat → Nat → Prop}
theorem RelA.up {a a' : Addr} (h : RelA ρ a a') : RelA (ρ.up A D) a a' := h
theorem RelV.up (hA : ∀ f, ρ.A f → A f) {v v' : Value} (h : RelV ρ v v') : RelV (ρ.up A D) v v' := by
  induction h with
  | bool b => exact .bool b
  | int k n => exact .int k n
  | string s => exact .string s
  | ptrNil => exact .ptrNil
  | ptr h => exact .ptr h.up
  | sliceNil => exact .sliceNil
  | slice n c h => exact .slice n c h.up
  | mapNil => exact .mapNil
  | chanNil => exact .chanNil
  | func f h0 hx _ hy _ ih1 ih2 => exact .func f (hA f h0) hx ih1 hy ih2
  | nilFunc => exact .nilFunc
  | iface t _ ih => exact .iface t ih
  | nilIface => exact .nilIface
  | agg hx _ ih => exact .agg hx ih
  | tuple hx _ ih => exact .tuple hx ih
theorem RelR.up (hA : ∀ f, ρ.A f → A f) {x x' : Array Value} (h : RelR ρ x x') : RelR (ρ.up A D) x x' := ⟨h.1, fun i v v' h1 h2 => (h.2 i v v' h1 h2).up hA⟩
theorem RelO.up (hA : ∀ f, ρ.A f → A f) {l : Nat} {o o' : Obj} (h : RelO ρ l o o') : RelO (ρ.up A D) l o o' := by
  cases h with
  | cells e hl hr hf => exact .cells e hl (hr.up hA) hf
  | number z hl h => exact .number z hl h.up
  | part hl hh hr => exact .part (ρ := ρ.up A D) hl hh fun i v h1 h2 => let ⟨v', h3, h4⟩ := hr i v h1 h2; ⟨v', h3, h4.up hA⟩
theorem RelW.up (hA : ∀ f, ρ.A f → A f) {L : Nat} {Sh : Nat → Prop} {w w' : World} (h : RelW L Sh ρ w w') : RelW L Sh (ρ.up A D) w w' :=
  ⟨fun b b' hb => let ⟨o, o', h1, h2, h3⟩ := h.obj b b' hb; ⟨o, o', h1, h2, h3.up hA⟩, h.fn, h.inj, h.low0, h.tape, h.shared⟩
theorem Sit.up {L : Nat} {Pg P : Program} [hk : Kin Pg P] {Gl Gl0 : Globs} {Al Alg : Nat → Bool} {Sh : Nat → Prop} {w w' : World} (h : Sit L P Gl Al Sh ρ w w') (hA : ∀ f, Al f = true → Alg f = true) (hg : ∀ g, Gl0 g = true → Gl g = true) : Sit L Pg Gl0 Alg Sh (ρ.up (fun f => Alg f = true) (fun f n => Gl0.d f n = true)) w w' := by
  have hA' : ∀ f, ρ.A f → Alg f = true := fun f hf => hA f (by rw [h.hA] at hf; exact hf)
  have e : ∀ t, Pg.info? t = P.info? t := fun t => by rw [hk.tables]
  have e2 : Pg.globals = P.globals := by rw [hk.tables]
  exact ⟨h.rel.up hA', h.sh, ⟨by rw [e2]; exact h.hG.size, by rw [e]; exact h.hG.bog⟩, rfl, rfl, fun g hgg => h.gl g (hg g hgg), by rw [e2]; exact h.big⟩
end

end Go.Proofs.YtepbidaoloplbaaDoor

namespace Go.Proofs.YtepbidaoloplbaaDoor
open Go.RowKit

/-- The bytes xs lie in a slice of n elements at p; of one that has none nothing is said. -/
def BytesIn (w : World) (p : Option Addr) (n : Nat) (xs : List Int) : Prop :=
  0 < n → ∃ b o, p = some ⟨b, o, none⟩ ∧ ∀ i, i < n → w.cell? ⟨b, o + i, none⟩ = some (.int .u8 (xs.getD i 0))

/-- The text of a slice of bytes. -/
theorem text_of {P : Program} {w : World} {p : Option Addr} {n : Nat} {xs : List Int} (h : BytesIn w p n xs) (hx : xs.length = n) (c : Nat) (src e dst : TypeId)
    (hs : P.underlying src = some (.slice e)) (he : P.underlying e = some (.int .u8)) (hd : P.underlying dst = some .string) :
    (convert src dst (.slice p n c)).run P w = .ok (.string (strOfNums xs)) w := by
  rcases Nat.eq_zero_or_pos n with hn | hn
  · subst hn
    obtain rfl : xs = [] := List.eq_nil_of_length_eq_zero hx
    rw [run_convert_bytes_string w src dst e _ 0 c hs he hd]
    cases p <;> simp [Conv.bytesToString, loadCells]
    all_goals rfl
  · obtain ⟨b, o, rfl, hc⟩ := h hn
    exact run_convert_bytes_arg (P := P) w src e hs he b o n c xs hx hc dst hd

theorem below_drewN {B : Nat} {a w : World} (h : Below B a w) (n : Nat) : Below B a (w.drewN n) := h.trans ⟨rfl, rfl, rfl, Nat.le_refl _, fun _ _ => rfl⟩

/-- One step more. -/
theorem below_on {a w w' : World} (h : Below a.heap.size a w) (k : Below w.heap.size w w') : Below a.heap.size a w' := h.trans (k.mono h.size)

/-- What a row owns it owns behind a step that turned nothing old. -/
theorem owns_below {w w' : World} {base e size : Nat} {v : Value} {n : Nat} {xs : List Value} (h : w.ownsRow base e size v n xs) (hb : Below w.heap.size w w') : w'.ownsRow base e size v n xs :=
  h.kept (row := none) ⟨hb.os, hb.tape, hb.output, hb.size, fun k hk _ => hb.block k hk⟩ (by cases v.ownBlock <;> simp)

theorem owns_mono {w : World} {base base' e size : Nat} {v : Value} {n : Nat} {xs : List Value} (h : w.ownsRow base e size v n xs) (hb : base' ≤ base) : w.ownsRow base' e size v n xs := by
  refine ⟨h.1, ?_⟩
  rcases h.2 with hn | ⟨g, cap, cur, hv, hbg, rest⟩
  · exact .inl hn
  · exact .inr ⟨g, cap, cur, hv, Nat.le_trans hb hbg, rest⟩

/-- What a row of bytes that the call owns reads as. -/
theorem owns_in {w : World} {base e : Nat} {p : Option Addr} {n c : Nat} {xs : List Int} (h : w.ownsRow base e 1 (.slice p n c) n (xs.map (Value.int .u8))) : BytesIn w p n xs := by
  intro hn
  rcases h.2 with ⟨_, h0⟩ | ⟨g, cap, cur, hv, _, _⟩
  · omega
  · simp only [Value.slice.injEq] at hv
    obtain ⟨rfl, _, rfl⟩ := hv
    refine ⟨g, 0, rfl, fun i hi => ?_⟩
    have hl := h.1
    simp only [List.length_map, Nat.mul_one] at hl
    have := h.cellAt i (by omega)
    simp only [Nat.zero_add]
    rw [this]
    simp [List.getElem?_eq_getElem (show i < xs.length by omega), List.getD]

/-- What lies somewhere lies there behind a step that turned nothing old. -/
theorem in_below {w w' : World} {p : Option Addr} {n : Nat} {xs : List Int} (h : BytesIn w p n xs) (hb : Below w.heap.size w w') : BytesIn w' p n xs := by
  intro hn
  obtain ⟨b, o, rfl, hc⟩ := h hn
  refine ⟨b, o, rfl, fun i hi => ?_⟩
  have hlt : b < w.heap.size := World.block_lt_of_cell? w ⟨b, o + i, none⟩ (hc i hi)
  rw [hb.cell (p := ⟨b, o + i, none⟩) hlt]
  exact hc i hi

theorem owns_len {w : World} {base e : Nat} {v : Value} {n : Nat} {xs : List Int} (h : w.ownsRow base e 1 v n (xs.map (Value.int .u8))) : xs.length = n := by
  have := h.1; simpa using this

/-- The shape of what is owned. -/
theorem owns_form {w : World} {base e size : Nat} {v : Value} {n : Nat} {xs : List Value} (h : w.ownsRow base e size v n xs) : ∃ p c, v = .slice p n c := by
  rcases h.2 with ⟨rfl, rfl⟩ | ⟨g, cap, cur, rfl, _⟩
  · exact ⟨_, _, rfl⟩
  · exact ⟨_, _, rfl⟩

/-- One byte more of xs in the place of a nought. -/
theorem fill_step (xs : List Int) (n k : Nat) (u : Int) (hu : u = xs.getD k 0) (hk : k < n) (hx : xs.length = n) :
    ((xs.take k ++ List.replicate (n - k) 0).map (Value.int .u8)).set k (.int .u8 u) = (xs.take (k + 1) ++ List.replicate (n - (k + 1)) 0).map (Value.int .u8) := by
  subst hu
  simp only [List.getD_eq_getElem?_getD]
  apply List.ext_getElem
  · simp; omega
  · intro i h1 h2
    simp only [List.getElem_set, List.getElem_map]
    simp at h1 h2
    by_cases e : k = i
    · subst e
      simp [List.getElem_append, hx, hk]
      intro h; omega
    · simp only [e, if_false]
      by_cases hi : i < k
      · simp [List.getElem_append, hx]
        rw [dif_pos (by omega), dif_pos (by omega)]
      · simp [List.getElem_append, hx]
        rw [dif_neg (by omega), dif_neg (by omega)]

theorem fill_old (xs : List Int) (n k : Nat) (hk : k < n) (hx : xs.length = n) : ((xs.take k ++ List.replicate (n - k) 0).map (Value.int .u8))[k]? = some (.int .u8 0) := by
  rw [List.getElem?_eq_getElem (by simp; omega)]
  simp [List.getElem_append, hx]
  intro h; omega

theorem fill_start (xs : List Int) (n : Nat) : (madeCells #[Value.int .u8 0] n).toList = (xs.take 0 ++ List.replicate (n - 0) 0).map (Value.int .u8) := by
  rw [toList_madeCells_one]
  simp

theorem fill_end (xs : List Int) (n : Nat) (hx : xs.length = n) : (xs.take n ++ List.replicate (n - n) 0) = xs := by
  subst hx; simp

/-- What is laid by markByteS from k on. -/
def marks (k : Int) (n : Nat) : List Int := (List.range n).map fun (i : Nat) => (k + (i : Int)) % 256

theorem grown_trans {a b c : World} {row : Option Nat} (h : a.grownBy b row) (k : b.grownBy c row) : a.grownBy c row :=
  ⟨k.os.trans h.os, k.tape.trans h.tape, k.output.trans h.output, Nat.le_trans h.size k.size, fun i hi hr => (k.block i (Nat.lt_of_lt_of_le hi h.size) hr).trans (h.block i hi hr)⟩

/-- Where a row that is owned has elements it stands at a block's head. -/
theorem owns_at {w : World} {base e : Nat} {p : Option Addr} {n c : Nat} {xs : List Value} (h : w.ownsRow base e 1 (.slice p n c) n xs) (hn : 0 < n) : ∃ g, p = some ⟨g, 0, none⟩ := by
  rcases h.2 with ⟨_, h0⟩ | ⟨g, cap, cur, hv, _⟩
  · omega
  · simp only [Value.slice.injEq] at hv
    exact ⟨g, hv.1⟩

/-- A row of bytes xs that the call made: v, of n elements; its block lies from lo on and ahead of hi. -/
def Own (e : Nat) (w : World) (lo hi : Nat) (v : Value) (n : Nat) (xs : List Int) : Prop := w.ownsRow lo e 1 v n (xs.map (Value.int .u8)) ∧ ∀ k, v.ownBlock = some k → k < hi

section
variable {e : Nat} {w w' a : World} {lo hi lo' hi' : Nat} {u v : Value} {n m : Nat} {xs ys : List Int}

theorem Own.of (h : w.ownsRow lo e 1 v n (xs.map (Value.int .u8))) : Own e w lo w.heap.size v n xs := ⟨h, fun k hk => (h.lt k hk).2⟩
theorem Own.on (h : Own e w lo hi v n xs) (hb : Below w.heap.size w w') : Own e w' lo hi v n xs := ⟨owns_below h.1 hb, h.2⟩
theorem Own.len (h : Own e w lo hi v n xs) : xs.length = n := owns_len h.1
theorem Own.bytes {p : Option Addr} {c : Nat} (h : Own e w lo hi (.slice p n c) n xs) : BytesIn w p n xs := owns_in h.1
end

section
variable {P : Program} {e : TypeId} {i : TypeInfo} {base n : Nat} {wr : World} {v : Value} {xs : List Int}

theorem pushs_fit {m : Nat} (hn : n ≤ 1099511627776) (hm : m ≤ 1099511627776) : n + m ≤ maxLen ∧ (n + m) * 1 ≤ 140737488355328 := by unfold maxLen; omega

/-- 'append(out, x, y, ..)' of some bytes, out a row that the call owns, as one step of a region that draws its order. -/
theorem step_pushs {ops : Array Oper} {o : Oper} {a : Act} {K : Act → World → Prop} {Q : Exit → Act → World → Prop} {E : Prop} (hi : P.info? e = some i) (hz : i.zero = some (.int .u8 0)) (hsize : i.size = 1) (hby : i.bytes = 1)
    (s y : Operand) (t : TypeId) (ht : P.underlying t = some (.slice e)) (cs : Array Value) (ys : List Int) (hcs : cs.toList = ys.map (Value.int .u8)) (hm : 0 < ys.length) (hm' : ys.length ≤ 1099511627776)
    (hown : wr.ownsRow base e 1 v n (xs.map (Value.int .u8))) (hn : n ≤ 1099511627776) (hbase : base ≤ wr.heap.size)
    (hgd : o.guard = none) (ho : o.op = .call { callee := .builtin .append, args := #[s, y], argTypes := #[t, t] }) (hs : a.eval s = v) (hy : a.eval y = .slice (some ⟨wr.heap.size, 0, none⟩) ys.length ys.length)
    (h : ∀ g cap w', w'.ownsRow base e 1 (.slice (some ⟨g, 0, none⟩) (n + ys.length) cap) (n + ys.length) ((xs ++ ys).map (Value.int .u8)) → Below base wr w' → K (a.put o.dst (.slice (some ⟨g, 0, none⟩) (n + ys.length) cap)) w') :
    if Region.wanted o (yielded ops a.tmps) = true then Oper.wp P o a (wr.alloc (.cells cs e)).drew K Q else E := by
  refine step_append_lies _ hgd s y t ho base e i (.int .u8 0) 1 1 ht hi hz hsize hby rfl (by decide) v n (xs.map (Value.int .u8)) hs (hown.alloc _).drew ⟨wr.heap.size, 0, none⟩ ys.length ys.length (ys.map (Value.int .u8)) hy (by simp) ?_ (ints_oneCell _ _) hm (pushs_fit hn hm').1 (pushs_fit hn hm').2 (by simp; omega) _ rfl ?_
  · rw [← hcs]
    exact World.news_of_block (cs := cs) (heap_alloc_new wr _)
  · intro g cap w' h1 h2 _ _
    refine h g cap w' (by simpa using h1) (((Below.refl _ _).alloc hbase _).drew.grown h2 (by simp; omega) fun k hk => (hown.lt k hk).1)

/-- The same in a plain region. -/
theorem list_pushs {ops : Array Oper} {rest : List Oper} {o : Oper} {a : Act} {Q : Exit → Act → World → Prop} (hi : P.info? e = some i) (hz : i.zero = some (.int .u8 0)) (hsize : i.size = 1) (hby : i.bytes = 1)
    (s y : Operand) (t : TypeId) (ht : P.underlying t = some (.slice e)) (cs : Array Value) (ys : List Int) (hcs : cs.toList = ys.map (Value.int .u8)) (hm : 0 < ys.length) (hm' : ys.length ≤ 1099511627776)
    (hown : wr.ownsRow base e 1 v n (xs.map (Value.int .u8))) (hn : n ≤ 1099511627776) (hbase : base ≤ wr.heap.size)
    (hgd : o.guard = none) (ho : o.op = .call { callee := .builtin .append, args := #[s, y], argTypes := #[t, t] }) (hs : a.eval s = v) (hy : a.eval y = .slice (some ⟨wr.heap.size, 0, none⟩) ys.length ys.length)
    (h : ∀ g cap w', w'.ownsRow base e 1 (.slice (some ⟨g, 0, none⟩) (n + ys.length) cap) (n + ys.length) ((xs ++ ys).map (Value.int .u8)) → Below base wr w' → wpList P ops Q rest (a.put o.dst (.slice (some ⟨g, 0, none⟩) (n + ys.length) cap)) w') :
    wpList P ops Q (o :: rest) a (wr.alloc (.cells cs e)) := by
  refine wpList_append_lies _ hgd s y t ho base e i (.int .u8 0) 1 1 ht hi hz hsize hby rfl (by decide) v n (xs.map (Value.int .u8)) hs (hown.alloc _) ⟨wr.heap.size, 0, none⟩ ys.length ys.length (ys.map (Value.int .u8)) hy (by simp) ?_ (ints_oneCell _ _) hm (pushs_fit hn hm').1 (pushs_fit hn hm').2 (by simp; omega) _ rfl ?_
  · rw [← hcs]
    exact World.news_of_block (cs := cs) (heap_alloc_new wr _)
  · intro g cap w' h1 h2 _ _
    refine h g cap w' (by simpa using h1) (((Below.refl _ _).alloc hbase _).grown h2 (by simp; omega) fun k hk => (hown.lt k hk).1)

/-- One byte in a plain region, and every other block stays as it was. -/
theorem list_pushK {ops : Array Oper} {rest : List Oper} {o : Oper} {a : Act} {Q : Exit → Act → World → Prop} (hi : P.info? e = some i) (hz : i.zero = some (.int .u8 0)) (hsize : i.size = 1) (hby : i.bytes = 1)
    (s y : Operand) (t : TypeId) (ht : P.underlying t = some (.slice e)) (x : Int) (hown : wr.ownsRow base e 1 v n (xs.map (Value.int .u8))) (hn : n ≤ 1099511627776) (hbase : base ≤ wr.heap.size)
    (hgd : o.guard = none) (ho : o.op = .call { callee := .builtin .append, args := #[s, y], argTypes := #[t, t] }) (hs : a.eval s = v) (hy : a.eval y = .slice (some ⟨wr.heap.size, 0, none⟩) 1 1)
    (h : ∀ g cap w', w'.ownsRow base e 1 (.slice (some ⟨g, 0, none⟩) (n + 1) cap) (n + 1) ((xs ++ [x]).map (Value.int .u8)) → Below base wr w' → (∀ k, k < wr.heap.size → some k ≠ v.ownBlock → w'.heap[k]? = wr.heap[k]?) → wpList P ops Q rest (a.put o.dst (.slice (some ⟨g, 0, none⟩) (n + 1) cap)) w') :
    wpList P ops Q (o :: rest) a (wr.alloc (.cells #[.int .u8 x] e)) := by
  refine wpList_append_lies _ hgd s y t ho base e i (.int .u8 0) 1 1 ht hi hz hsize hby rfl (by decide) v n (xs.map (Value.int .u8)) hs (hown.alloc _) ⟨wr.heap.size, 0, none⟩ 1 1 [.int .u8 x] hy rfl ?_ (fun u hu => by simp at hu; subst hu; rfl) (by decide) (pushs_fit hn (by decide)).1 (pushs_fit hn (by decide)).2 (by simp; omega) _ rfl ?_
  · exact World.news_of_block (cs := #[.int .u8 x]) (heap_alloc_new wr _)
  · intro g cap w' h1 h2 _ _
    refine h g cap w' (by simpa using h1) (((Below.refl _ _).alloc hbase _).grown h2 (by simp; omega) fun k hk => (hown.lt k hk).1) fun k hk hne => ?_
    rw [h2.block k (by simp; omega) hne]
    exact Below.heap_alloc _ _ _ hk

/-- One byte. -/
theorem step_push {ops : Array Oper} {o : Oper} {a : Act} {K : Act → World → Prop} {Q : Exit → Act → World → Prop} {E : Prop} (hi : P.info? e = some i) (hz : i.zero = some (.int .u8 0)) (hsize : i.size = 1) (hby : i.bytes = 1)
    (s y : Operand) (t : TypeId) (ht : P.underlying t = some (.slice e)) (x : Int) (hown : wr.ownsRow base e 1 v n (xs.map (Value.int .u8))) (hn : n ≤ 1099511627776) (hbase : base ≤ wr.heap.size)
    (hgd : o.guard = none) (ho : o.op = .call { callee := .builtin .append, args := #[s, y], argTypes := #[t, t] }) (hs : a.eval s = v) (hy : a.eval y = .slice (some ⟨wr.heap.size, 0, none⟩) 1 1)
    (h : ∀ g cap w', w'.ownsRow base e 1 (.slice (some ⟨g, 0, none⟩) (n + 1) cap) (n + 1) ((xs ++ [x]).map (Value.int .u8)) → Below base wr w' → K (a.put o.dst (.slice (some ⟨g, 0, none⟩) (n + 1) cap)) w') :
    if Region.wanted o (yielded ops a.tmps) = true then Oper.wp P o a (wr.alloc (.cells #[.int .u8 x] e)).drew K Q else E :=
  step_pushs hi hz hsize hby s y t ht #[.int .u8 x] [x] rfl (by simp) (by simp) hown hn hbase hgd ho hs hy h

theorem list_push {ops : Array Oper} {rest : List Oper} {o : Oper} {a : Act} {Q : Exit → Act → World → Prop} (hi : P.info? e = some i) (hz : i.zero = some (.int .u8 0)) (hsize : i.size = 1) (hby : i.bytes = 1)
    (s y : Operand) (t : TypeId) (ht : P.underlying t = some (.slice e)) (x : Int) (hown : wr.ownsRow base e 1 v n (xs.map (Value.int .u8))) (hn : n ≤ 1099511627776) (hbase : base ≤ wr.heap.size)
    (hgd : o.guard = none) (ho : o.op = .call { callee := .builtin .append, args := #[s, y], argTypes := #[t, t] }) (hs : a.eval s = v) (hy : a.eval y = .slice (some ⟨wr.heap.size, 0, none⟩) 1 1)
    (h : ∀ g cap w', w'.ownsRow base e 1 (.slice (some ⟨g, 0, none⟩) (n + 1) cap) (n + 1) ((xs ++ [x]).map (Value.int .u8)) → Below base wr w' → wpList P ops Q rest (a.put o.dst (.slice (some ⟨g, 0, none⟩) (n + 1) cap)) w') :
    wpList P ops Q (o :: rest) a (wr.alloc (.cells #[.int .u8 x] e)) :=
  list_pushs hi hz hsize hby s y t ht #[.int .u8 x] [x] rfl (by simp) (by simp) hown hn hbase hgd ho hs hy h
end

end Go.Proofs.YtepbidaoloplbaaDoor

namespace Go.Proofs.YtepbidaoloplbaaDoor
open Go.RowKit

theorem infoByte : (Tryd.prog.info? 5).map (fun i => (i.zero, i.size, i.bytes)) = some (some (.int .u8 0), 1, 1) := by kernel_rfl

end Go.Proofs.YtepbidaoloplbaaDoor
