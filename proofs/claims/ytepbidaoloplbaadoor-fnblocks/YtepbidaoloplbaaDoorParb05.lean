/-
  A run beside others, carried over from a run alone, up to the numbers of blocks. HERE: a step hangs on no other answers than it takes.
  A run beside others, carried over from a run alone, up to the numbers of blocks. HERE: what returns alone, on whatever tape, cannot go on for ever though its answers be chosen one by one.
  A run beside others, carried over from a run alone, up to the numbers of blocks. HERE: a call that returns alone, on whatever tape, returns in company too: ahead of each of its steps the others may have turned the world, but for the blocks that are its own; what it touches is its own; what is shared it does not write; what it answers, and what lies in its blocks then, is alike what it would be alone.
  A call that returns alone on whatever tape, in company.
  A run beside others, carried over from a run alone, up to the numbers of blocks. HERE: the trace of goroutines of which each touches its own blocks alone, while messages that own blocks are under way: no data race.
-/
import Derived.Test.YtepbidaoloplbaaDoorParb04
import Derived.KernelRfl
import Derived.Conc.Beside
namespace Go.Proofs.YtepbidaoloplbaaDoor
open Go Go.Conc

/-- Other answers, the same count. -/
def World.ret (w : World) (τ : Nat → Question → Nat) : World := { w with tape := τ }
/-- What is taken between two counts is one. -/
def Alike (w w1 : World) (τ : Nat → Question → Nat) : Prop := ∀ i q, w.drawn ≤ i → i < w1.drawn → τ i q = w.tape i q

theorem SimS.local {α β : Type} {Q : Ren → α → β → Prop} {L : Nat} {Sh : Nat → Prop} {p p' : Program} [Kin p p'] {ρ : Ren} {s : Sem α} {s' : Sem β} {τ : Nat → Question → Nat} (h : SimS p p' Q ρ s s') : ∀ {w w' w1 : World} {es es1 : Array Event} {a : α}, RelW L Sh ρ w w' → (∀ b, Sh b → b < w.heap.size) → ρ.G ≤ w.heap.size → s.runT p w es = (.ok a w1, es1) → Alike w w1 τ → s.runT p (World.ret w τ) es = (.ok a (World.ret w1 τ), es1) ∧ w1.tape = w.tape := by
  induction h with
  | dead h =>
    intro w w' w1 es es1 a hw hsh hG hr
    exact absurd (by rw [← Sem.runT_fst p _ w es, hr]) (h.1 w a w1)
  | pure h =>
    intro w w' w1 es es1 a hw hsh hG hr hτ
    simp only [Sem.runT, Prod.mk.injEq, Result.ok.injEq] at hr
    obtain ⟨⟨rfl, rfl⟩, rfl⟩ := hr
    exact ⟨rfl, rfl⟩
  | @load ρ a a' k k' ha h ih =>
    intro w w' w1 es es1 x hw hsh hG hr hτ
    have hc := hw.cell ha
    simp only [Sem.runT] at hr
    split at hr
    · rename_i v hv
      obtain ⟨v', hv', hrel⟩ := hc.1 v hv
      obtain ⟨h1, h2⟩ := ih v v' hrel hw hsh hG hr hτ
      have hv2 : (World.ret w τ).cell? a = some v := hv
      exact ⟨by simp only [Sem.runT, hv2]; exact h1, h2⟩
    · rename_i hn
      obtain ⟨y, hy, _⟩ := (hc.2 hn p (Mode.plain == .atomic)).1
      rw [hy] at hr
      cases hr
  | @store ρ a a' v v' k k' ha hv h ih =>
    intro w w' w1 es es1 x hw hsh hG hr hτ
    have hc := hw.cell ha
    have hst := fun hx hy => hw.store ha hv hx hy
    cases v <;> simp only [Sem.runT] at hr
    all_goals first
      | (cases hr; done)
      | (split at hr
         · rename_i v0 hv0
           split at hr
           · cases hr
           · rename_i hfz
             obtain ⟨h1, h2⟩ := ih (hst ⟨v0, hv0⟩ (by simpa using hfz)).1 (fun b hb => by simpa [World.setCell] using hsh b hb) (by simpa [World.setCell] using hG) hr hτ
             have hv2 : (World.ret w τ).cell? a = some v0 := hv0
             have hf2 : ¬ (World.ret w τ).frozen? a = true := hfz
             exact ⟨by simp only [Sem.runT, hv2, hf2]; exact h1, h2⟩
         · rename_i hn
           obtain ⟨y, hy, _⟩ := (hc.2 hn p (Mode.plain == .atomic)).2 _
           rw [hy] at hr
           cases hr)
  | @new ρ o o' k k' ho h ih =>
    intro w w' w1 es es1 x hw hsh hG hr hτ
    have hn := hw.new hsh ho
    exact ih _ w.heap.size w'.heap.size hn.2.le (.inr ⟨rfl, rfl⟩) hG (hw.low0 _ (Nat.le_refl _)) hn.1 (fun b hb => by have := hsh b hb; simp; omega) (by show ρ.G ≤ _; simp; omega) hr hτ
  | shape hr' h ih => intro w w' w1 es es1 x hw hsh hG hr hτ; exact ih _ _ (hw.shapes hr') hw hsh hG hr hτ
  | @getObj ρ r r' k k' hr' h ih =>
    intro w w' w1 es es1 x hw hsh hG hr hτ
    obtain ⟨o, o', h1, h2, ho⟩ := hw.obj _ _ hr'
    cases ho with
    | cells e _ hc hf =>
      simp only [Sem.runT, h1] at hr
      cases hr
    | part hl hh hc =>
      simp only [Sem.runT, h1] at hr
      cases hr
    | @number a a' l _ hn =>
      simp only [Sem.runT, h1] at hr
      obtain ⟨g1, g2⟩ := ih a a' l hn hw hsh hG hr hτ
      have h3 : (World.ret w τ).heap[r]? = some (.number a l) := h1
      exact ⟨by simp only [Sem.runT, h3]; exact g1, g2⟩
  | choose q h ih =>
    intro w w' w1 es es1 x hw hsh hG hr hτ
    simp only [Sem.runT] at hr ⊢
    by_cases hq : q.forced = true
    · rw [if_pos hq] at hr ⊢
      exact ih _ hw hsh hG hr hτ
    · rw [if_neg hq] at hr ⊢
      have hd := hw.drew
      have hgr : w.drawn + 1 ≤ w1.drawn := (h _).grows hd.1 hsh hG hr
      have ht : (World.ret w τ).tape (World.ret w τ).drawn q = w.tape w.drawn q := hτ w.drawn q (Nat.le_refl _) (by omega)
      rw [ht]
      exact ih _ hd.1 hsh hG hr fun i q' h1 h2 => hτ i q' (by have : w.drawn + 1 ≤ i := h1; omega) h2
  | program h ih => intro w w' w1 es es1 x hw hsh hG hr hτ; exact ih hw hsh hG hr hτ
  | room h ih => intro w w' w1 es es1 x hw hsh hG hr hτ; exact ih hw hsh hG hr hτ

section
variable {L : Nat} {P : Program} {Gl : Globs} {Al : Nat → Bool} {Sh : Nat → Prop} {ρ : Ren} {w w' w1 : World} {fr fr' : Frame} {st st' : List Frame} {τ : Nat → Question → Nat}
/-- A step that leaves the world as it was. -/
theorem still_local {cs : List Frame} {g1 g : Goroutine} {es : Array Event} (hm : ∀ w, stepG P true (G fr cs) w = .go g w #[]) (h : stepG P true (G fr cs) w = .go g1 w1 es) : stepG P true (G fr cs) (World.ret w τ) = .go g1 (World.ret w1 τ) es ∧ w1.tape = w.tape ∧ w.drawn ≤ w1.drawn := by
  rw [hm w] at h
  cases h
  exact ⟨hm _, rfl, Nat.le_refl _⟩
/-- ████ A STEP HANGS ON THE ANSWERS THAT IT TAKES. ████ -/
theorem step_local (T : TameP P Gl Al) (hs : Sit L P Gl Al Sh ρ w w') (hF : RelF P Gl Al ρ fr fr') (hS : RelFs P Gl Al ρ st st') (hne : ¬ (st = [] ∧ fr.mode = .returning)) {fr1 : Frame} {cs1 : List Frame} {es : Array Event} (hmode : fr1.mode = .run ∨ fr1.mode = .returning) (h : stepG P true (G fr (st ++ [c0 P])) w = .go (G fr1 cs1) w1 es) (hτ : Alike w w1 τ) :
    stepG P true (G fr (st ++ [c0 P])) (World.ret w τ) = .go (G fr1 cs1) (World.ret w1 τ) es ∧ w1.tape = w.tape ∧ w.drawn ≤ w1.drawn := by
  have hok := hF.ok
  rcases hF.run with hrun | hret
  · have S1 : ∀ w, stepG P true (G fr (st ++ [c0 P])) w = stepG.exec P true true fr (st ++ [c0 P]) none w := fun w => by simp only [stepG, G, hrun]
    cases ht : fr.todo with
    | nil => exact still_local (g := G { fr with mode := .returning } (st ++ [c0 P])) (fun w => by rw [S1]; simp only [stepG.exec, ht, hF.round, G]; rfl) h
    | cons x k =>
      rw [ht] at hok
      have hx := hok x List.mem_cons_self
      have mv : ∀ t, (∀ w, stepG.exec P true true fr (st ++ [c0 P]) none w = .go { frame := { fr with todo := t }, callers := st ++ [c0 P], status := .running, dying := none } w) → stepG P true (G fr (st ++ [c0 P])) (World.ret w τ) = .go (G fr1 cs1) (World.ret w1 τ) es ∧ w1.tape = w.tape ∧ w.drawn ≤ w1.drawn := fun t ht => still_local (g := G { fr with todo := t } (st ++ [c0 P])) (fun w => by rw [S1, ht]; rfl) h
      cases x with
      | inBlock id => exact mv k fun w => by simp only [stepG.exec, ht]
      | inLoop b => exact mv (.code b :: .inLoop b :: k) fun w => by simp only [stepG.exec, ht]
      | inRegion ops l =>
        cases l with
        | nil => exact mv k fun w => by simp only [stepG.exec, ht]
        | cons i rest =>
          by_cases hwn : (((ops[i]?).map (Region.wanted · (yielded ops fr.tmps))).getD false) = true
          · cases ho : ops[i]? with
            | none => rw [ho] at hwn; cases hwn
            | some o =>
              have hoo : okOp P Gl Al o.op = true := List.all_eq_true.1 hx o (by simpa using Array.mem_of_getElem? ho)
              have sim := sim_execOp (fun v => ⟨rfl, rfl⟩) (fun f => ⟨rfl, rfl⟩) (fun f n h => by rw [hs.hD]; exact h) (T.bodies hs.hA hs.hD) hs.hG (fun f hf => by rw [hs.hA]; exact hf) (hF.eval hs) o hoo
              rw [ho] at hwn
              have A1 : ∀ w, stepG P true (G fr (st ++ [c0 P])) w = stepG.apply P true fr (st ++ [c0 P]) none (execOp fr.eval o) w := fun w => by
                rw [S1]
                simp only [stepG.exec, ht, stepG.oper, Frame.oper?, ho, hF.round]
                rw [if_pos hwn]
              have hbig : ρ.G ≤ w.heap.size := by rw [hs.hG.size]; exact hs.big
              cases hr : (execOp fr.eval o).runT P w #[] with
              | mk r es0 =>
                cases r with
                | ok n w2 =>
                  obtain ⟨ρ1, b, w1', more, _, r2, _⟩ := sim.runs #[] (hs.rel.follow w2.drawn) hs.sh hbig hr (Nat.le_refl _)
                  have hgr := sim.grows hs.rel hs.sh hbig hr
                  cases r2 with
                  | value hv =>
                    rw [A1, apply_value hF.kind hr] at h
                    cases h
                    obtain ⟨l1, l2⟩ := sim.local hs.rel hs.sh hbig hr hτ
                    exact ⟨(A1 _).trans (apply_value hF.kind l1), l2, hgr⟩
                  | skip =>
                    rw [A1, apply_skip hF.kind hr] at h
                    cases h
                    obtain ⟨l1, l2⟩ := sim.local hs.rel hs.sh hbig hr hτ
                    exact ⟨(A1 _).trans (apply_skip hF.kind l1), l2, hgr⟩
                  | enter f hA hxx =>
                    rw [A1, apply_enter ht hF.kind hr] at h
                    cases h
                    obtain ⟨l1, l2⟩ := sim.local hs.rel hs.sh hbig hr hτ
                    exact ⟨(A1 _).trans (apply_enter ht hF.kind l1), l2, hgr⟩
                | halt y w2 =>
                  have hty := sim.halts hs.rel hs.sh hbig (by rw [← Sem.runT_fst P _ w #[], hr] : (execOp fr.eval o).run P w = .halt y w2)
                  rcases apply_halt (cs := st ++ [c0 P]) hF.kind hty hr with ⟨o1, h1⟩ | ⟨v, h1⟩
                  · rw [A1, h1] at h
                    cases h
                  · rw [A1, h1] at h
                    cases h
                    rcases hmode with hm | hm <;> simp [Frame.raise, hrun] at hm
          · exact still_local (g := G (fr.finish undef) (st ++ [c0 P])) (fun w => by rw [S1]; simp only [stepG.exec, ht, hwn, G]; rfl) h
      | code c =>
        cases c with
        | skip => exact mv k fun w => by simp only [stepG.exec, ht]
        | ret => exact still_local (g := G { fr with mode := .returning } (st ++ [c0 P])) (fun w => by rw [S1]; simp only [stepG.exec, ht, hF.round, G]; rfl) h
        | seq a b => exact mv (.code a :: .code b :: k) fun w => by simp only [stepG.exec, ht]
        | block id b => exact mv (.code b :: .inBlock id :: k) fun w => by simp only [stepG.exec, ht]
        | loop b => exact mv (.code b :: .inLoop b :: k) fun w => by simp only [stepG.exec, ht]
        | cond c a b =>
          cases hv : fr.eval c with
          | bool z => exact mv (.code (if z then a else b) :: k) fun w => by simp only [stepG.exec, ht, hv]
          | _ =>
            rw [S1] at h
            simp only [stepG.exec, ht, hv] at h
            cases h
        | exit id =>
          cases he : exitTo id k with
          | none =>
            rw [S1] at h
            simp only [stepG.exec, ht, he, Option.elim, hF.round] at h
            cases h
          | some k' => exact mv k' fun w => by simp only [stepG.exec, ht, he, Option.elim]
        | region id ops draw =>
          cases draw with
          | false => exact mv (.inRegion ops (List.range ops.size) :: k) fun w => by simp only [stepG.exec, ht]; rfl
          | true =>
            have B : ∀ w, stepG P true (G fr (st ++ [c0 P])) w = .go (G { fr with todo := .inRegion ops (Region.schedule (P.follows .mixedOrders) ops (w.tape w.drawn (.order fr.fn id))) :: k } (st ++ [c0 P])) { w with drawn := w.drawn + 1 } #[] := fun w => by
              rw [S1]
              simp only [stepG.exec, ht, G]
              rfl
            rw [B w] at h
            cases h
            have e : (World.ret w τ).tape (World.ret w τ).drawn (.order fr.fn id) = w.tape w.drawn (.order fr.fn id) := hτ w.drawn _ (Nat.le_refl _) (Nat.lt_succ_self _)
            refine ⟨?_, rfl, Nat.le_succ _⟩
            rw [B, e]
            rfl
        | _ => cases hx
      | _ => cases hx
  · cases hS with
    | nil => exact absurd ⟨rfl, hret⟩ hne
    | @cons fr2 fr2' st2 st2' h2 hr2 ho2 hs2 =>
      obtain ⟨fn, body, f1, f2, f3, f4⟩ := T.body fr.fn hF.al
      have sim := sim_results (Pg := P) (P := P) fn hF.tmps
      have hbig : ρ.G ≤ w.heap.size := by rw [hs.hG.size]; exact hs.big
      have B : ∀ {w w1 : World} {v : Value} {es : Array Event}, (results fn fr.tmps).runT P w #[] = (.ok v w1, es) → stepG P true (G fr (fr2 :: st2 ++ [c0 P])) w = .go (G (fr2.finish v) (st2 ++ [c0 P])) w1 (seen P fr.fn es) := fun hr => by
        simp only [stepG, G, hret, unwind, hF.defers, f1, hr, GStep.after, doReturn, hF.kind, List.cons_append, Array.append_empty]
      cases hr : (results fn fr.tmps).runT P w #[] with
      | mk r es0 =>
        cases r with
        | ok v w2 =>
          have hgr := sim.grows hs.rel hs.sh hbig hr
          rw [B hr] at h
          cases h
          obtain ⟨l1, l2⟩ := sim.local hs.rel hs.sh hbig hr hτ
          exact ⟨B l1, l2, hgr⟩
        | halt y w2 =>
          cases y <;> (simp only [stepG, G, hret, unwind, hF.defers, f1, hr, GStep.after] at h; cases h)
end

end Go.Proofs.YtepbidaoloplbaaDoor

namespace Go.Proofs.YtepbidaoloplbaaDoor
open Go Go.Conc

/-- Where a run alone stands. -/
structure St where
  fr : Frame
  st : List Frame
  w : World
def St.ret (s : St) (τ : Nat → Question → Nat) : St := ⟨s.fr, s.st, World.ret s.w τ⟩
def mach (P : Program) (s : St) : Machine := lone s.fr (s.st ++ [c0 P]) s.w
def Don (s : St) : Prop := s.st = [] ∧ s.fr.mode = .returning
/-- Something in another world is alike. -/
def Part (P : Program) (Gl : Globs) (Al : Nat → Bool) (Sh : Nat → Prop) (s : St) : Prop := ∃ L ρ fr' st' w', Sit L P Gl Al Sh ρ s.w w' ∧ RelF P Gl Al ρ s.fr fr' ∧ RelFs P Gl Al ρ s.st st'
/-- On whatever tape that has had the same answers since d0 it comes to its end, of which E holds. -/
def Good (P : Program) (E : St → Prop) (d0 : Nat) (s : St) : Prop := ∀ τ, (∀ i q, d0 ≤ i → i < s.w.drawn → τ i q = s.w.tape i q) → ∃ n sE, runN P n (mach P (s.ret τ)) = .next (mach P sE) ∧ Don sE ∧ E sE
/-- A step, some answers given. -/
def Nx (P : Program) (d0 : Nat) (s1 s : St) : Prop := ¬ Don s ∧ (∀ i q, d0 ≤ i → i < s.w.drawn → s1.w.tape i q = s.w.tape i q) ∧ (s1.fr.mode = .run ∨ s1.fr.mode = .returning) ∧ ∃ es, stepG P true (G s.fr (s.st ++ [c0 P])) (World.ret s.w s1.w.tape) = .go (G s1.fr (s1.st ++ [c0 P])) s1.w es

section
variable {P : Program} {Gl : Globs} {Al : Nat → Bool} {Sh : Nat → Prop} {E : St → Prop} {d0 : Nat} {s s1 : St}
theorem mach_inj {s s' : St} (h : mach P s = mach P s') : s.fr = s'.fr ∧ s.st = s'.st ∧ s.w = s'.w := by
  simp only [mach, lone, Machine.mk.injEq, Array.mk.injEq, List.cons.injEq, Goroutine.mk.injEq, and_true] at h
  exact ⟨h.2.1, List.append_inj_left' h.2.2 rfl, h.1⟩
theorem step_of_go {fr fr1 : Frame} {cs cs1 : List Frame} {w w1 : World} {es : Array Event} (h : stepG P true (G fr cs) w = .go (G fr1 cs1) w1 es) : step P (lone fr cs w) = .next (lone fr1 cs1 w1) := by
  refine step_lone_go ?_
  show (stepG P true (G fr cs) w).bare = _
  rw [h]
  rfl
theorem step_of_ended {fr : Frame} {cs : List Frame} {w w1 : World} {o : Outcome} {es : Array Event} (h : stepG P true (G fr cs) w = .ended o w1 es) : step P (lone fr cs w) = .ended o w1 := by
  refine step_lone_ended ?_
  show (stepG P true (G fr cs) w).bare = _
  rw [h]
  rfl
theorem nx_local (T : TameP P Gl Al) (hp : Part P Gl Al Sh s) (h : Nx P d0 s1 s) {τ : Nat → Question → Nat} (hτ : ∀ i q, s.w.drawn ≤ i → i < s1.w.drawn → τ i q = s1.w.tape i q) :
    step P (mach P (s.ret τ)) = .next (mach P (s1.ret τ)) ∧ s.w.drawn ≤ s1.w.drawn := by
  obtain ⟨hne, _, hm, es, he⟩ := h
  obtain ⟨L, ρ, fr', st', w', hs, hF, hS⟩ := hp
  have hs' : Sit 0 P Gl Al Sh ρ (World.ret s.w s1.w.tape) w' := { hs with rel := hs.rel.retape (τ := s1.w.tape) (τ' := w'.tape) (d := s.w.drawn) (d' := w'.drawn) (fun i q h => absurd h (Nat.not_lt_zero _)) }
  obtain ⟨h1, h2, h3⟩ := step_local (τ := τ) T hs' hF hS hne hm he hτ
  exact ⟨step_of_go h1, h3⟩
theorem nx_part (T : TameP P Gl Al) (hp : Part P Gl Al Sh s) (h : Nx P d0 s1 s) : Part P Gl Al Sh s1 := by
  obtain ⟨hne, _, hm, es, he⟩ := h
  obtain ⟨L, ρ, fr', st', w', hs, hF, hS⟩ := hp
  have hs' : Sit s1.w.drawn P Gl Al Sh ρ (World.ret s.w s1.w.tape) (follow (World.ret s.w s1.w.tape) w') := { hs with rel := (hs.rel.retape (L' := 0) (τ := s1.w.tape) (τ' := w'.tape) (d := s.w.drawn) (d' := w'.drawn) (fun i q h => absurd h (Nat.not_lt_zero _))).follow _ }
  have out := sim_step (base := []) (main := true) T hs' hF hS hne (fun g1 w1 es1 h1 => by rw [he] at h1; cases h1; exact Nat.le_refl _)
  cases out with
  | ended h1 => rw [he] at h1; cases h1
  | pan h1 hm1 _ _ =>
    rw [he] at h1
    simp only [GStep.go.injEq, G, Goroutine.mk.injEq] at h1
    rw [← h1.1.1] at hm1
    rcases hm with hm | hm <;> rw [hm] at hm1 <;> cases hm1
  | @go ρ1 fr1 fr1' st1 st1' w1 w1' es1 es1' h1 h2 hF1 hS1 hs1 hf1 he1 =>
    rw [he] at h1
    simp only [GStep.go.injEq, G, Goroutine.mk.injEq, and_true] at h1
    obtain ⟨⟨e1, e2⟩, e3, _⟩ := h1
    have e2' := List.append_inj_left' e2 rfl
    subst e1 e2' e3
    exact ⟨_, ρ1, fr1', st1', w1', hs1, hF1, hS1⟩
theorem good_step (T : TameP P Gl Al) (hp : Part P Gl Al Sh s) (hg : Good P E d0 s) (hd : d0 ≤ s.w.drawn) (h : Nx P d0 s1 s) : Good P E d0 s1 := by
  intro τ hτ
  obtain ⟨h1, h3⟩ := nx_local T hp h (τ := τ) fun i q a b => hτ i q (Nat.le_trans hd a) b
  obtain ⟨n, sE, hn, hdon, hE⟩ := hg τ fun i q a b => (hτ i q a (Nat.lt_of_lt_of_le b h3)).trans (h.2.1 i q a b)
  cases n with
  | zero =>
    have := mach_inj (by simpa [runN] using hn : mach P (s.ret τ) = mach P sE)
    exact absurd (show Don s from ⟨this.2.1.trans hdon.1, (congrArg Frame.mode this.1).trans hdon.2⟩) h.1
  | succ n =>
    simp only [runN, h1] at hn
    exact ⟨n, sE, hn, hdon, hE⟩
open Classical in
/-- ████ IT COMES TO AN END. ████ -/
theorem good_acc (T : TameP P Gl Al) (hp : Part P Gl Al Sh s) (hg : Good P E d0 s) (hd : d0 ≤ s.w.drawn) : Acc (Nx P d0) s := by
  refine Classical.byContradiction fun hna => ?_
  let Bad := { s : St // ¬ Acc (Nx P d0) s ∧ Part P Gl Al Sh s ∧ Good P E d0 s ∧ d0 ≤ s.w.drawn }
  have nxt : ∀ b : Bad, ∃ c : Bad, Nx P d0 c.1 b.1 := fun ⟨s, h1, h2, h3, h4⟩ => by
    have : ∃ s1, Nx P d0 s1 s ∧ ¬ Acc (Nx P d0) s1 := Classical.byContradiction fun hno => h1 ⟨s, fun y hy => Classical.byContradiction fun hay => hno ⟨y, hy, hay⟩⟩
    obtain ⟨s1, hn, ha⟩ := this
    exact ⟨⟨s1, ha, nx_part T h2 hn, good_step T h2 h3 h4 hn, Nat.le_trans h4 (nx_local T h2 hn (τ := s1.w.tape) fun _ _ _ _ => rfl).2⟩, hn⟩
  let f : Nat → Bad := fun n => Nat.rec ⟨s, hna, hp, hg, hd⟩ (fun _ b => (nxt b).choose) n
  have hf : ∀ n, Nx P d0 (f (n + 1)).1 (f n).1 := fun n => (nxt (f n)).choose_spec
  have hmono : ∀ n, (f n).1.w.drawn ≤ (f (n + 1)).1.w.drawn := fun n => (nx_local T (f n).2.2.1 (hf n) (τ := (f (n + 1)).1.w.tape) fun _ _ _ _ => rfl).2
  have hmono' : ∀ n m, (f n).1.w.drawn ≤ (f (n + m)).1.w.drawn := fun n m => by
    induction m with
    | zero => exact Nat.le_refl _
    | succ m ih => exact Nat.le_trans ih (hmono (n + m))
  have hist : ∀ n m i q, d0 ≤ i → i < (f n).1.w.drawn → (f (n + m)).1.w.tape i q = (f n).1.w.tape i q := fun n m i q a b => by
    induction m with
    | zero => rfl
    | succ m ih => exact ((hf (n + m)).2.1 i q a (Nat.lt_of_lt_of_le b (hmono' n m))).trans ih
  have hist2 : ∀ n m i q, d0 ≤ i → i < (f n).1.w.drawn → i < (f m).1.w.drawn → (f m).1.w.tape i q = (f n).1.w.tape i q := fun n m i q a b c => by
    rcases Nat.le_total n m with h | h
    · have := hist n (m - n) i q a b
      rwa [show n + (m - n) = m by omega] at this
    · have := hist m (n - m) i q a c
      rw [show m + (n - m) = n by omega] at this
      exact this.symm
  let T0 : Nat → Question → Nat := fun i q => if h : ∃ m, i < (f m).1.w.drawn then (f h.choose).1.w.tape i q else 0
  have hT : ∀ n i q, d0 ≤ i → i < (f n).1.w.drawn → T0 i q = (f n).1.w.tape i q := fun n i q a b => by
    have hex : ∃ m, i < (f m).1.w.drawn := ⟨n, b⟩
    show (if h : ∃ m, i < (f m).1.w.drawn then (f h.choose).1.w.tape i q else 0) = _
    rw [dif_pos hex]
    exact hist2 n _ i q a b hex.choose_spec
  have hrun : ∀ n, runN P n (mach P ((f 0).1.ret T0)) = .next (mach P ((f n).1.ret T0)) := fun n => by
    induction n with
    | zero => rfl
    | succ n ih =>
      have h1 := (nx_local T (f n).2.2.1 (hf n) (τ := T0) fun i q a b => hT (n + 1) i q (Nat.le_trans (f n).2.2.2.2 a) b).1
      have : ∀ (k : Nat) (m m' m'' : Machine), runN P k m = .next m' → step P m' = .next m'' → runN P (k + 1) m = .next m'' := by
        intro k
        induction k with
        | zero => intro m m' m'' e1 e2; simp only [runN] at e1 ⊢; cases e1; rw [e2]
        | succ k ihk =>
          intro m m' m'' e1 e2
          rw [runN] at e1 ⊢
          cases hst : step P m with
          | next m1 => rw [hst] at e1; exact ihk m1 m' m'' e1 e2
          | _ => rw [hst] at e1; cases e1
      exact this n _ _ _ ih h1
  obtain ⟨N, sE, hN, hdon, _⟩ := (f 0).2.2.2.1 T0 fun i q a b => hT 0 i q a b
  rw [hrun N] at hN
  have := mach_inj (P := P) (by simpa using hN : mach P ((f N).1.ret T0) = mach P sE)
  exact (hf N).1 ⟨this.2.1.trans hdon.1, (congrArg Frame.mode this.1).trans hdon.2⟩
end

end Go.Proofs.YtepbidaoloplbaaDoor

namespace Go.Proofs.YtepbidaoloplbaaDoor
open Go Go.Conc

section
variable {P : Program} {Gl : Globs} {Al : Nat → Bool} {Sh : Nat → Prop} {E : St → Prop} {d0 : Nat} {s s1 : St}
theorem door_starts : "fmt's door of nobody".startsWith "fmt's door" = true := by kernel_rfl
/-- A panic does not come back. -/
theorem pan_never (T : TameP P Gl Al) (n : Nat) : ∀ (fr : Frame) (st : List Frame) (w : World) (c : List PanicEntry), fr.mode = .panicking c → fr.defers = [] → Al fr.fn = true → (∀ f ∈ st, f.mode = .run ∧ f.defers = [] ∧ Al f.fn = true) → ∀ sE, Don sE → runN P n (lone fr (st ++ [c0 P]) w) ≠ .next (mach P sE) := by
  induction n with
  | zero =>
    intro fr st w c hm hd ha hst sE hdon h
    have h' : mach P ⟨fr, st, w⟩ = mach P sE := by simpa [runN, mach] using h
    have := mach_inj h'
    have hx : fr.mode = .returning := (congrArg Frame.mode this.1).trans hdon.2
    rw [hm] at hx
    cases hx
  | succ n ih =>
    intro fr st w c hm hd ha hst sE hdon h
    obtain ⟨fn, body, f1, _⟩ := T.body fr.fn ha
    have hcat : fr.catches P = false := by simp [Frame.catches, f1]
    cases st with
    | cons f2 st2 =>
      have hg : stepG P true (G fr (f2 :: st2 ++ [c0 P])) w = .go (G (f2.raise c) (st2 ++ [c0 P])) w #[] := by
        simp only [stepG, G, hm, unwind, hd, hcat, List.cons_append]
        rfl
      rw [runN, step_of_go hg] at h
      obtain ⟨g1, g2, g3⟩ := hst f2 List.mem_cons_self
      exact ih (f2.raise c) st2 w c (by simp [Frame.raise, g1]) (by simp [Frame.raise, g1, g2]) (by simp [Frame.raise, g1, g3]) (fun f hf => hst f (List.mem_cons_of_mem _ hf)) sE hdon h
    | nil =>
      have hg : stepG P true (G fr ([] ++ [c0 P])) w = .go (G ((c0 P).raise c) []) w #[] := by
        simp only [stepG, G, hm, unwind, hd, hcat, List.nil_append]
        rfl
      rw [runN, step_of_go hg] at h
      have h2 : ∃ o w1 es, stepG P true (G ((c0 P).raise c) []) w = .ended o w1 es := by
        have e1 : ((c0 P).raise c).mode = .panicking c := rfl
        have e2 : ((c0 P).raise c).defers = [] := rfl
        have e3 : ((c0 P).raise c).catches P = true := by
          have : P.funcs[P.funcs.size]? = none := by simp
          simp only [Frame.catches, Frame.raise, c0, this]
          exact door_starts
        refine ⟨_, _, _, by simp only [stepG, G, e1, unwind, e2, e3]; rfl⟩
      obtain ⟨o, w1, es, h2⟩ := h2
      cases n with
      | zero =>
        simp only [runN] at h
        have h3 : lone ((c0 P).raise c) [] w = mach P sE := by simpa using h
        simp only [mach, lone, Machine.mk.injEq, Array.mk.injEq, List.cons.injEq, Goroutine.mk.injEq, and_true] at h3
        have := congrArg List.length h3.2.2
        simp at this
      | succ n => simp only [runN, step_of_ended h2] at h; cases h
/-- Where it is done it has come to its end. -/
theorem don_zero (T : TameP P Gl Al) (hp : Part P Gl Al Sh s) (hd : Don s) {n : Nat} {sE : St} (h : runN P n (mach P s) = .next (mach P sE)) : sE.fr = s.fr ∧ sE.w = s.w := by
  cases n with
  | zero =>
    have := mach_inj (by simpa [runN] using h : mach P s = mach P sE)
    exact ⟨this.1.symm, this.2.2.symm⟩
  | succ n =>
    exfalso
    obtain ⟨L, ρ, fr', st', w', hs, hF, hS⟩ := hp
    obtain ⟨fn, body, f1, f2, f3, f4⟩ := T.body s.fr.fn hF.al
    have hm : mach P s = lone s.fr [c0 P] s.w := by simp [mach, hd.1]
    rw [hm] at h
    cases hr : (results fn s.fr.tmps).runT P s.w #[] with
    | mk r es0 =>
      cases r with
      | ok v w2 =>
        have hg : stepG P true (G s.fr [c0 P]) s.w = .go (G ((c0 P).finish v) []) w2 (seen P s.fr.fn es0) := by
          simp only [stepG, G, hd.2, unwind, hF.defers, f1, hr, GStep.after, doReturn, hF.kind, Array.append_empty]
        rw [runN, step_of_go hg] at h
        have h2 : ∃ o w1 es, stepG P true (G ((c0 P).finish v) []) w2 = .ended o w1 es := by
          have e3 : ((c0 P).finish v) = { c0 P with todo := [.extern "fmt's door of nobody" #[v]] } := rfl
          have e4 : Extern.next "fmt's door of nobody" = none := by rfl
          exact ⟨_, _, _, by rw [e3]; simp only [stepG, G, c0, stepG.exec, e4, Option.elim]; rfl⟩
        obtain ⟨o, w1, es, h2⟩ := h2
        cases n with
        | zero =>
          simp only [runN] at h
          have h3 : lone ((c0 P).finish v) [] w2 = mach P sE := by simpa using h
          simp only [mach, lone, Machine.mk.injEq, Array.mk.injEq, List.cons.injEq, Goroutine.mk.injEq, and_true] at h3
          have := congrArg List.length h3.2.2
          simp at this
        | succ n => simp only [runN, step_of_ended h2] at h; cases h
      | halt y w2 =>
        have hg : ∃ o w1 es, stepG P true (G s.fr [c0 P]) s.w = .ended o w1 es := by
          cases y <;> exact ⟨_, _, _, by simp only [stepG, G, hd.2, unwind, hF.defers, f1, hr, GStep.after]; rfl⟩
        obtain ⟨o, w1, es, hg⟩ := hg
        rw [runN, step_of_ended hg] at h
        cases h
end

/-! ### in company -/
/-- What the others leave as it was: the blocks that are mine. -/
structure Keeps (M : Nat → Prop) (w w1 : World) : Prop where
  heap : ∀ b, M b → w1.heap[b]? = w.heap[b]?
  size : w.heap.size ≤ w1.heap.size
  os : w1.os = w.os
  output : w1.output = w.output
  tape : w1.tape = w.tape
theorem Keeps.refl (M : Nat → Prop) (w : World) : Keeps M w w := ⟨fun _ _ => rfl, Nat.le_refl _, rfl, rfl, rfl⟩
theorem Keeps.trans {M : Nat → Prop} {w w1 w2 : World} (h : Keeps M w w1) (k : Keeps M w1 w2) : Keeps M w w2 := ⟨fun b hb => (k.heap b hb).trans (h.heap b hb), Nat.le_trans h.size k.size, k.os.trans h.os, k.output.trans h.output, k.tape.trans h.tape⟩
/-- What is mine behind a step: the new blocks too. -/
def grown (M : Nat → Prop) (w w' : World) : Nat → Prop := fun b => M b ∨ (w.heap.size ≤ b ∧ b < w'.heap.size)
def EvM (Sh M : Nat → Prop) (e : Event) : Prop := (∃ a, e.loc = .cell a ∧ e.sync = false ∧ M a.block ∧ (e.write = true → ¬ Sh a.block)) ∨ (∃ r, e.loc = .obj r ∧ e.write = false ∧ e.sync = false ∧ M r) ∨ e.loc = .mark .noRoom
/-- What a step of mine leaves as it was, and what it lists. -/
structure Guar (Sh M : Nat → Prop) (w w' : World) (es : Array Event) : Prop where
  size : w.heap.size ≤ w'.heap.size
  rest : ∀ b, b < w.heap.size → ¬ M b → w'.heap[b]? = w.heap[b]?
  still : ∀ b, Sh b → M b → w'.heap[b]? = w.heap[b]?
  os : w'.os = w.os
  output : w'.output = w.output
  tape : w'.tape = w.tape
  ev : ∀ e ∈ es, EvM Sh (grown M w w') e
/-- On its way to a stop, in company. -/
inductive Co (P : Program) (main : Bool) (Sh : Nat → Prop) (Stop : (Nat → Prop) → Goroutine → World → Prop) : (Nat → Prop) → Goroutine → World → Prop
  | stop {M : Nat → Prop} {g : Goroutine} {w : World} (h : ∀ w1, Keeps M w w1 → Stop M g w1) : Co P main Sh Stop M g w
  | step {M : Nat → Prop} {g : Goroutine} {w : World} (hr : g.status = .running) (he : ∀ w1, Keeps M w w1 → ∃ g' w' es, stepG P main g w1 = .go g' w' es ∧ Guar Sh M w1 w' es) (h : ∀ w1, Keeps M w w1 → ∀ g' w' es, stepG P main g w1 = .go g' w' es → Co P main Sh Stop (grown M w1 w') g' w') : Co P main Sh Stop M g w

/-- Behind the return: the caller has what is alike the answer that comes alone; each block of mine stands for one of the world alone. -/
def Back (Sh : Nat → Prop) (Post : Value → World → Prop) (ρ0 : Ren) (n0 n0' : Nat) (c : Frame) (cs : List Frame) (M : Nat → Prop) (g : Goroutine) (w : World) : Prop :=
  ∃ ρ v v' wg, g = G (c.finish v') cs ∧ RelV ρ v v' ∧ Post v wg ∧ RelW 0 Sh ρ wg w ∧ (∀ b', M b' ↔ ∃ b, ρ b b') ∧ ρ0.le ρ ∧ ∀ b b', ρ b b' → ρ0 b b' ∨ (n0 ≤ b ∧ n0' ≤ b')

section
variable {P : Program} {Gl : Globs} {Al : Nat → Bool} {Sh : Nat → Prop} {d0 : Nat}
theorem RelW.keeps {L : Nat} {ρ : Ren} {w w' w1 : World} {M : Nat → Prop} (h : RelW L Sh ρ w w') (hM : ∀ b', M b' ↔ ∃ b, ρ b b') (hk : Keeps M w' w1) : RelW 0 Sh ρ w w1 := by
  refine ⟨fun b b' hb => ?_, h.fn, h.inj, h.low0, fun i q hi => absurd hi (Nat.not_lt_zero _), h.shared⟩
  obtain ⟨o, o', h1, h2, ho⟩ := h.obj b b' hb
  exact ⟨o, o', h1, (hk.heap b' ((hM b').2 ⟨b, hb⟩)).trans h2, ho⟩
theorem evM_of {Tr : Nat → Prop} {ρ : Ren} {M : Nat → Prop} {e : Event} (hT : ∀ b b', ρ b b' → Tr b' → Sh b) (hM : ∀ b', (∃ b, ρ b b') → M b') (h : EvR Sh ρ e) : EvM Tr M e := by
  rcases h with ⟨a, b, h1, h2, h3, h4⟩ | ⟨r, b, h1, h2, h3, h4⟩ | h
  · exact .inl ⟨a, h1, h2, hM _ ⟨b, h3⟩, fun hw hs => h4 hw (hT b a.block h3 hs)⟩
  · exact .inr (.inl ⟨r, h1, h2, h3, hM _ ⟨b, h4⟩⟩)
  · exact .inr (.inr h)
theorem relFs_run {ρ : Ren} {st st' : List Frame} (h : RelFs P Gl Al ρ st st') : ∀ f ∈ st, f.mode = .run ∧ f.defers = [] ∧ Al f.fn = true := by
  induction h with
  | nil => intro f hf; cases hf
  | cons h hr _ _ ih =>
    intro f hf
    rcases List.mem_cons.1 hf with rfl | hf
    · exact ⟨hr, h.defers, h.al⟩
    · exact ih f hf
theorem grown_iff {L : Nat} {ρ ρ1 : Ren} {M : Nat → Prop} {w w2 w1 w1' : World} (hM : ∀ b', M b' ↔ ∃ b, ρ b b') (hw : RelW L Sh ρ1 w2 w1') (hf : Frm Sh ρ ρ1 w w2 w1 w1') : ∀ b', grown M w1 w1' b' ↔ ∃ b, ρ1 b b' := fun b' => by
  constructor
  · rintro (h | ⟨h1, h2⟩)
    · obtain ⟨b, hb⟩ := (hM b').1 h
      exact ⟨b, hf.le.app hb⟩
    · exact hf.all b' h1 h2
  · rintro ⟨b, hb⟩
    rcases hf.new b b' hb with h | ⟨j, _, h⟩
    · exact .inl ((hM b').2 ⟨b, h⟩)
    · exact .inr ⟨by omega, (hw.lt hb).2⟩
theorem guar_of {Tr : Nat → Prop} {L : Nat} {ρ ρ1 : Ren} {M : Nat → Prop} {w w2 w1 w1' : World} {es : Array Event} (hT : ∀ b b', ρ1 b b' → Tr b' → Sh b) (hM : ∀ b', M b' ↔ ∃ b, ρ b b') (hw : RelW L Sh ρ1 w2 w1') (hf : Frm Sh ρ ρ1 w w2 w1 w1') (he : ∀ e ∈ es, EvR Sh ρ1 e) : Guar Tr M w1 w1' es :=
  ⟨hf.size', fun b hb hn => hf.rest b hb fun c hc => hn ((hM b).2 ⟨c, hc⟩), fun b hs hm => let ⟨c, hc⟩ := (hM b).1 hm; hf.still c b (hT c b (hf.le.app hc) hs) hc, hf.os, hf.output, hf.tape, fun e h => evM_of hT (fun b' hb => (grown_iff hM hw hf b').2 hb) (he e h)⟩
/-- The end of a run alone: its answer is read, and it answers this. -/
def EndE (P : Program) (Post : Value → World → Prop) (sE : St) : Prop := ∃ v, sE.fr.leaving P sE.w (.returned v) ∧ Post v sE.w
/-- ████ IN COMPANY. ████ -/
theorem co_of (T : TameP P Gl Al) {Tr : Nat → Prop} {Post : Value → World → Prop} {ρ0 : Ren} {n0 n0' : Nat} (hT0 : ∀ b b', ρ0 b b' → Tr b' → Sh b) (hTr : ∀ b', Tr b' → b' < n0') {c : Frame} {cs : List Frame} {main : Bool} (s : St) (hacc : Acc (Nx P d0) s) : ∀ (ρ : Ren) (fr' : Frame) (st' : List Frame) (w' : World) (M : Nat → Prop), Good P (EndE P Post) d0 s → d0 ≤ s.w.drawn → Sit 0 P Gl Al Sh ρ s.w w' → RelF P Gl Al ρ s.fr fr' → RelFs P Gl Al ρ s.st st' → (∀ b', M b' ↔ ∃ b, ρ b b') → ρ0.le ρ → (∀ b b', ρ b b' → ρ0 b b' ∨ (n0 ≤ b ∧ n0' ≤ b')) → n0 ≤ s.w.heap.size → n0' ≤ w'.heap.size →
    Co P main Tr (Back Sh Post ρ0 n0 n0' c cs) M (G fr' (st' ++ c :: cs)) w' := by
  induction hacc with
  | intro s _ ih =>
    intro ρ fr' st' w' M hg hd hs hF hS hM hle0 hpair hn0 hn0'
    have hpart : Part P Gl Al Sh s := ⟨0, ρ, fr', st', w', hs, hF, hS⟩
    have hTp : ∀ {ρ1 : Ren}, (∀ b b', ρ1 b b' → ρ0 b b' ∨ (n0 ≤ b ∧ n0' ≤ b')) → ∀ b b', ρ1 b b' → Tr b' → Sh b := fun hp b b' hb hs => (hp b b' hb).elim (fun x => hT0 b b' x hs) fun x => absurd (hTr b' hs) (by omega)
    have hbig : ρ.G ≤ s.w.heap.size := by rw [hs.hG.size]; exact hs.big
    have key : ∀ w1, Keeps M w' w1 → ∃ g' w2' es', stepG P main (G fr' (st' ++ c :: cs)) w1 = .go g' w2' es' ∧ Guar Tr M w1 w2' es' ∧ Co P main Tr (Back Sh Post ρ0 n0 n0' c cs) (grown M w1 w2') g' w2' := by
      intro w1 hk
      by_cases hdon : Don s
      · -- the return
        obtain ⟨n, sE, hn, _, v, hlv, hpost⟩ := hg s.w.tape fun _ _ _ _ => rfl
        obtain ⟨e1, e2⟩ := don_zero T hpart hdon (show runN P n (mach P s) = .next (mach P sE) from hn)
        rw [e1, e2] at hlv
        rw [e2] at hpost
        obtain ⟨l1, l2, l3, fn, l4, l5⟩ := hlv
        have hret' : fr'.mode = .returning := hF.mode.trans hdon.2
        obtain rfl : st' = [] := by
          have := hS
          rw [hdon.1] at this
          cases this
          rfl
        have hrel : RelW s.w.drawn Sh ρ s.w w1 := (hs.rel.keeps hM hk).retape (τ := s.w.tape) (τ' := w1.tape) (d := s.w.drawn) (d' := w1.drawn) fun i q h => absurd h (by omega)
        have sim := sim_results (Pg := P) (P := P) fn hF.tmps
        cases hr : (results fn s.fr.tmps).runT P s.w #[] with
        | mk r es0 =>
          have hr1 : r = .ok v s.w := by rw [← l5, ← Sem.runT_fst P _ s.w #[], hr]
          subst hr1
          obtain ⟨ρ1, v', w1', more, r1, r2, r3, r4, r5⟩ := sim.runs #[] hrel hs.sh hbig hr (Nat.le_refl _)
          have hp1 : ∀ b b', ρ1 b b' → ρ0 b b' ∨ (n0 ≤ b ∧ n0' ≤ b') := fun b b' hb => by
            rcases r4.new b b' hb with h | ⟨j, h1, _⟩
            · exact hpair b b' h
            · exact absurd (r3.lt hb).1 (by omega)
          refine ⟨G (c.finish v') cs, w1', seen P fr'.fn (#[] ++ more), ?_, guar_of (hTp hp1) hM r3 r4 (fun e he => r5 e (by simpa using seen_sub _ _ he)), .stop fun w2 hk2 => ?_⟩
          · simp only [stepG, G, hret', unwind, hF.defers', hF.fn, l4, r1, GStep.after, doReturn, hF.kind', List.nil_append, Array.append_empty]
          · refine ⟨ρ1, v, v', s.w, rfl, r2, hpost, r3.keeps (grown_iff hM r3 r4) hk2, grown_iff hM r3 r4, hle0.trans r4.le, hp1⟩
      · -- a step
        obtain ⟨τ, hτ⟩ : ∃ τ : Nat → Question → Nat, τ = fun i q => if i < s.w.drawn then s.w.tape i q else w1.tape (i - s.w.drawn + w1.drawn) q := ⟨_, rfl⟩
        have hold : ∀ i q, d0 ≤ i → i < s.w.drawn → τ i q = s.w.tape i q := fun i q _ h => by rw [hτ]; simp [h]
        have hsit : ∀ L, Sit L P Gl Al Sh ρ (World.ret s.w τ) w1 := fun L => ⟨(hs.rel.keeps hM hk).retape (τ := τ) (τ' := w1.tape) (d := s.w.drawn) (d' := w1.drawn) fun i q _ => by
          rw [hτ]
          show (if s.w.drawn + i < s.w.drawn then _ else _) = _
          rw [if_neg (by omega), show s.w.drawn + i - s.w.drawn + w1.drawn = w1.drawn + i by omega], hs.sh, hs.hG, hs.hA, hs.hD, hs.gl, hs.big⟩
        obtain ⟨L, hL⟩ : ∃ L, ∀ g1 w2 es, stepG P true (G s.fr (s.st ++ [c0 P])) (World.ret s.w τ) = .go g1 w2 es → w2.drawn ≤ L := by
          cases stepG P true (G s.fr (s.st ++ [c0 P])) (World.ret s.w τ) with
          | go g1 w2 es => exact ⟨w2.drawn, fun g1 w2 es h => by cases h; exact Nat.le_refl _⟩
          | _ => exact ⟨0, fun g1 w2 es h => by cases h⟩
        obtain ⟨n, sE, hn, hE1, _⟩ := hg τ hold
        cases n with
        | zero =>
          have := mach_inj (by simpa [runN] using hn : mach P (s.ret τ) = mach P sE)
          exact absurd (show Don s from ⟨this.2.1.trans hE1.1, (congrArg Frame.mode this.1).trans hE1.2⟩) hdon
        | succ n =>
          have out := sim_step (base := c :: cs) (main := main) T (hsit L) hF hS hdon hL
          cases out with
          | ended h1 =>
            rw [runN, show mach P (s.ret τ) = lone s.fr (s.st ++ [c0 P]) (World.ret s.w τ) from rfl, step_of_ended h1] at hn
            cases hn
          | pan h1 hm1 hd1 hf1 =>
            rw [runN, show mach P (s.ret τ) = lone s.fr (s.st ++ [c0 P]) (World.ret s.w τ) from rfl, step_of_go h1] at hn
            exact absurd hn (pan_never T n _ _ _ _ hm1 hd1 hf1 (relFs_run hS) sE hE1)
          | @go ρ1 fr1 fr1' st1 st1' w2 w1' es es' h1 h2 hF1 hS1 hs1 hf1 he1 =>
            have htp : w2.tape = τ := hf1.gtape
            have hnx : Nx P d0 ⟨fr1, st1, w2⟩ s := ⟨hdon, fun i q a b => by rw [show (St.mk fr1 st1 w2).w.tape = τ from htp]; exact hold i q a b, hF1.run, es, by rw [show (St.mk fr1 st1 w2).w.tape = τ from htp]; exact h1⟩
            have hn1 : s.w.heap.size ≤ w2.heap.size := hf1.size
            have hn1' : w'.heap.size ≤ w1'.heap.size := Nat.le_trans hk.size hf1.size'
            have hp1 : ∀ b b', ρ1 b b' → ρ0 b b' ∨ (n0 ≤ b ∧ n0' ≤ b') := fun b b' hb => by
              rcases hf1.new b b' hb with h | ⟨j, g1, g2⟩
              · exact hpair b b' h
              · have k1 : b = s.w.heap.size + j := g1
                have k2 := hk.size
                exact .inr ⟨by omega, by omega⟩
            refine ⟨_, _, _, h2, guar_of (hTp hp1) hM hs1.rel hf1 he1, ih ⟨fr1, st1, w2⟩ hnx ρ1 fr1' st1' w1' _ (good_step T hpart hg hd hnx) (Nat.le_trans hd hf1.draws.1) ⟨hs1.rel.keeps (grown_iff hM hs1.rel hf1) (.refl _ _), hs1.sh, hs1.hG, hs1.hA, hs1.hD, hs1.gl, hs1.big⟩ hF1 hS1 (grown_iff hM hs1.rel hf1) (hle0.trans hf1.le) hp1 (Nat.le_trans hn0 hn1) (Nat.le_trans hn0' hn1')⟩
    refine .step rfl (fun w1 hk => ?_) (fun w1 hk g' w2' es' he => ?_)
    · obtain ⟨g', w2', es', h1, h2, _⟩ := key w1 hk
      exact ⟨g', w2', es', h1, h2⟩
    · obtain ⟨g2, w3', es2, h1, _, h3⟩ := key w1 hk
      rw [he] at h1
      cases h1
      exact h3
end

end Go.Proofs.YtepbidaoloplbaaDoor

namespace Go.Proofs.YtepbidaoloplbaaDoor
open Go Go.Conc

section
variable {P : Program} {Gl : Globs} {Al : Nat → Bool} {Sh : Nat → Prop}
theorem co_call (T : TameP P Gl Al) {Tr : Nat → Prop} {Post : Value → World → Prop} {ρ : Ren} {f : FuncId} {args args' : Array Value} {wg w' : World} {M : Nat → Prop} {c : Frame} {cs : List Frame} {main : Bool} (hT0 : ∀ b b', ρ b b' → Tr b' → Sh b) (hTr : ∀ b', Tr b' → b' < w'.heap.size) (hf : Al f = true)
    (hC : ∀ τ, Calls P f args (World.ret wg τ) fun e w1 => ∃ v, e = .returned v ∧ Post v w1) (hs : Sit 0 P Gl Al Sh ρ wg w') (hargs : RelR ρ args args') (hM : ∀ b', M b' ↔ ∃ b, ρ b b') :
    Co P main Tr (Back Sh Post ρ wg.heap.size w'.heap.size c cs) M (G (Frame.enter P f args' .normal) (c :: cs)) w' := by
  have hF := RelF.enter (ρ := ρ) T hf hargs
  have hpart : Part P Gl Al Sh ⟨Frame.enter P f args .normal, [], wg⟩ := ⟨0, ρ, _, [], w', hs, hF, .nil⟩
  have hgood : Good P (EndE P Post) wg.drawn ⟨Frame.enter P f args .normal, [], wg⟩ := fun τ _ => by
    obtain ⟨e, w1, fr, ⟨v, rfl, hpost⟩, ⟨n, hn⟩, _, hlv⟩ := hC τ [c0 P]
    exact ⟨n, ⟨fr, [], w1⟩, hn, ⟨rfl, hlv.1⟩, v, hlv, hpost⟩
  exact co_of T hT0 hTr _ (good_acc T hpart hgood (Nat.le_refl _)) ρ _ [] w' M hgood (Nat.le_refl _) hs hF .nil hM (.refl _) (fun b b' h => .inl h) (Nat.le_refl _) (Nat.le_refl _)
end

end Go.Proofs.YtepbidaoloplbaaDoor

namespace Go.Proofs.YtepbidaoloplbaaDoor
open Go Go.Conc

/-- The block of a place of memory. -/
def blk : Loc → Option Nat
  | .cell a => some a.block
  | .obj r => some r
  | _ => none
theorem blk_memory {l : Loc} : l.isMemory = true ↔ ∃ b, blk l = some b := by
  cases l <;> simp [Loc.isMemory, blk]

/-- Each that is about knows every touch of what is its own, and every write of what nobody writes any more. -/
structure Owns (Z : Nat → Prop) (Act : Nat → Prop) (M : Nat → Nat → Prop) (n : Nat) (t : Trace) : Prop where
  clean : ∀ said, ¬ Race said t
  mine : ∀ g i a b, Act g → touchAt t i = some a → blk a.loc = some b → M g b → ¬ Z b → Knows t g i
  still : ∀ g i a b, Act g → touchAt t i = some a → blk a.loc = some b → Z b → a.write = true → Knows t g i
  disj : ∀ g h b, M g b → M h b → ¬ Z b → g = h
  bound : ∀ g b, M g b → b < n
  low : ∀ op ∈ t, op.act.low n
  hears : ∀ g, Act g → Deaf t g = 0

theorem touch_low {n : Nat} {t : Trace} (h : ∀ op ∈ t, op.act.low n) {i b : Nat} {a : Touch} (ha : touchAt t i = some a) (hb : blk a.loc = some b) : b < n := by
  obtain ⟨op, hop, hoa⟩ := touch_of ha
  have hl := h op (mem_of_getElem? hop)
  obtain ⟨g, fn, pos, act⟩ := op
  cases act with
  | access e =>
    simp only [MemAct.touch?, Option.some.injEq] at hoa
    subst hoa
    obtain ⟨loc, wr, sy⟩ := e
    cases loc <;> simp_all [blk, MemAct.low, Loc.low]
  | mark m => cases m <;> simp_all [MemAct.touch?] <;> (subst hoa; simp_all [blk, MemAct.low])
  | _ => simp [MemAct.touch?] at hoa

section
variable {Z Act : Nat → Prop} {M : Nat → Nat → Prop} {n n' : Nat} {t u : Trace}
theorem Owns.mono (h : Owns Z Act M n t) (hn : n ≤ n') : Owns Z Act M n' t := ⟨h.clean, h.mine, h.still, h.disj, fun g b hb => Nat.lt_of_lt_of_le (h.bound g b hb) hn, fun op hop => MemAct.low_mono hn (h.low op hop), h.hears⟩
/-- Less is owned. -/
theorem Owns.less {M' : Nat → Nat → Prop} {Act' : Nat → Prop} (h : Owns Z Act M n t) (hM : ∀ g b, M' g b → M g b) (hA : ∀ g, Act' g → Act g) : Owns Z Act' M' n t :=
  ⟨h.clean, fun g i a b hg ha hb hm => h.mine g i a b (hA g hg) ha hb (hM g b hm), fun g i a b hg => h.still g i a b (hA g hg), fun g k b h1 h2 => h.disj g k b (hM _ _ h1) (hM _ _ h2), fun g b hb => h.bound g b (hM g b hb), h.low, fun g hg => h.hears g (hA g hg)⟩
/-- An operation that touches nothing. -/
theorem Owns.quiet (h : Owns Z Act M n t) {y : MemOp} (hy : y.act.touch? = none) (hd : y.act ≠ .mark .disable) (he : y.act ≠ .mark .enable) (hl : y.act.low n) : Owns Z Act M n (t ++ #[y]) := by
  have hu : ∀ op ∈ (#[y] : Trace), op = y := fun op hop => by simpa using hop
  have old : ∀ {i a}, touchAt (t ++ #[y]) i = some a → touchAt t i = some a := fun {i a} ha => by
    obtain ⟨op, hop, hoa⟩ := touch_of ha
    rcases getElem?_append_cases hop with ⟨hi, hop'⟩ | ⟨_, hopu⟩
    · rw [touchAt_of hop']; exact hoa
    · rw [hu op hopu, hy] at hoa; cases hoa
  refine ⟨fun said => noRace_append (g := y.g) (h.clean said) (fun op hop => by rw [hu op hop]) fun i a _ op hop b hb _ => (by rw [hu op hop, hy] at hb; cases hb), fun g i a b hg ha hb hm hz => (h.mine g i a b hg (old ha) hb hm hz).app _, fun g i a b hg ha hb hz hw => (h.still g i a b hg (old ha) hb hz hw).app _, h.disj, h.bound, fun op hop => ?_, fun g hg => ?_⟩
  · rcases Array.mem_append.1 hop with h1 | h1
    · exact h.low op h1
    · rw [hu op h1]; exact hl
  · rw [Deaf_push]
    unfold deafStep
    split
    · exact absurd ‹_› hd
    · exact absurd ‹_› he
    · exact h.hears g hg
/-- What an operation of a list of events is, where each is of mine. -/
theorem evM_act {Sh N : Nat → Prop} {e : Event} (h : EvM Sh N e) : (MemAct.ofEvent e).touch? = none ∨ ∃ a b, (MemAct.ofEvent e).touch? = some a ∧ blk a.loc = some b ∧ N b ∧ (a.write = true → ¬ Sh b) := by
  obtain ⟨loc, wr, sy⟩ := e
  rcases h with ⟨a, h1, h2, h3, h4⟩ | ⟨r, h1, h2, h3, h4⟩ | h1
  · simp only at h1 h2; subst h1 h2
    exact .inr ⟨_, a.block, rfl, rfl, h3, h4⟩
  · simp only at h1 h2 h3; subst h1 h2 h3
    exact .inr ⟨_, r, rfl, rfl, h4, fun h => by cases h⟩
  · simp only at h1; subst h1
    exact .inl rfl
theorem evM_low {Sh N : Nat → Prop} {e : Event} (h : EvM Sh N e) (hN : ∀ b, N b → b < n) : (MemAct.ofEvent e).low n := by
  obtain ⟨loc, wr, sy⟩ := e
  rcases h with ⟨a, h1, h2, h3, h4⟩ | ⟨r, h1, h2, h3, h4⟩ | h1
  · simp only at h1 h2; subst h1 h2; exact hN _ h3
  · simp only at h1 h2 h3; subst h1 h2 h3; exact hN _ h4
  · simp only at h1; subst h1; trivial
theorem evM_hears {Sh N : Nat → Prop} {e : Event} (h : EvM Sh N e) : e.loc ≠ .mark .disable ∧ e.loc ≠ .mark .enable := by
  rcases h with ⟨a, h1, _⟩ | ⟨r, h1, _⟩ | h1 <;> rw [h1] <;> exact ⟨by simp, by simp⟩
/-- What is owned behind a step of g's. -/
def owned (M : Nat → Nat → Prop) (g n n' : Nat) : Nat → Nat → Prop := fun h b => M h b ∨ (h = g ∧ n ≤ b ∧ b < n')
/-- A step of its own. -/
theorem Owns.step (h : Owns Z Act M n t) {g : Nat} (hg : Act g) (hn : n ≤ n') {fn : FuncId} {pos : String} {es : Array Event} (he : ∀ e ∈ es, EvM Z (owned M g n n' g) e) : Owns Z Act (owned M g n n') n' (t ++ MemOp.ofEvents g fn pos es) := by
  have hops : ∀ op ∈ MemOp.ofEvents g fn pos es, op.g = g ∧ ∃ e ∈ es, op.act = .ofEvent e := fun op hop => by
    obtain ⟨e, h1, rfl⟩ := Go.Conc.mem_ofEvents hop
    exact ⟨rfl, e, h1, rfl⟩
  have hnew : ∀ op ∈ MemOp.ofEvents g fn pos es, ∀ a, op.act.touch? = some a → ∃ b, blk a.loc = some b ∧ owned M g n n' g b ∧ (a.write = true → ¬ Z b) := fun op hop a ha => by
    obtain ⟨_, e, h1, h2⟩ := hops op hop
    rw [h2] at ha
    rcases evM_act (he e h1) with h3 | ⟨a', b, h3, h4, h5, h6⟩
    · rw [h3] at ha; cases ha
    · rw [h3] at ha; cases ha
      exact ⟨b, h4, h5, h6⟩
  have hbound : ∀ k b, owned M g n n' k b → b < n' := fun k b hb => hb.elim (fun x => Nat.lt_of_lt_of_le (h.bound k b x) hn) fun x => x.2.2
  refine ⟨fun said => noRace_append (h.clean said) (fun op hop => (hops op hop).1) fun i a ha op hop c hc hcf => ?_, fun k i a b hk ha hb hm hz => ?_, fun k i a b hk ha hb hz hw => ?_, fun k l b h1 h2 hz => ?_, hbound, fun op hop => ?_, fun k hk => ?_⟩
  · obtain ⟨b, h1, h2, h3⟩ := hnew op hop c hc
    have hab : blk a.loc = some b := by rw [hcf.1]; exact h1
    by_cases hz : Z b
    · refine h.still g i a b hg ha hab hz ?_
      rcases hcf.2.2.1 with hw | hw
      · exact hw
      · exact absurd hz (h3 hw)
    · rcases h2 with h2 | ⟨_, h2, _⟩
      · exact h.mine g i a b hg ha hab h2 hz
      · exact absurd (touch_low h.low ha hab) (by omega)
  · obtain ⟨op, hop, hoa⟩ := touch_of ha
    rcases getElem?_append_cases hop with ⟨hi, hop'⟩ | ⟨_, hopu⟩
    · have ha' : touchAt t i = some a := by rw [touchAt_of hop']; exact hoa
      rcases hm with hm | ⟨_, hm, _⟩
      · exact (h.mine k i a b hk ha' hb hm hz).app _
      · exact absurd (touch_low h.low ha' hb) (by omega)
    · obtain ⟨b', h1, h2, h3⟩ := hnew op hopu a hoa
      obtain rfl : b' = b := by rw [h1] at hb; exact Option.some.inj hb
      have hkg : k = g := by
        rcases hm with hm | ⟨hm, _⟩
        · rcases h2 with h2 | ⟨_, h2, _⟩
          · exact h.disj k g b' hm h2 hz
          · exact absurd (h.bound k b' hm) (by omega)
        · exact hm
      have := knows_own hop
      rw [(hops op hopu).1] at this
      rw [hkg]; exact this
  · obtain ⟨op, hop, hoa⟩ := touch_of ha
    rcases getElem?_append_cases hop with ⟨hi, hop'⟩ | ⟨_, hopu⟩
    · have ha' : touchAt t i = some a := by rw [touchAt_of hop']; exact hoa
      exact (h.still k i a b hk ha' hb hz hw).app _
    · obtain ⟨b', h1, h2, h3⟩ := hnew op hopu a hoa
      obtain rfl : b' = b := by rw [h1] at hb; exact Option.some.inj hb
      exact absurd hz (h3 hw)
  · rcases h1 with h1 | ⟨h1, h1', _⟩ <;> rcases h2 with h2 | ⟨h2, h2', _⟩
    · exact h.disj k l b h1 h2 hz
    · exact absurd (h.bound k b h1) (by omega)
    · exact absurd (h.bound l b h2) (by omega)
    · rw [h1, h2]
  · rcases Array.mem_append.1 hop with h1 | h1
    · exact MemAct.low_mono hn (h.low op h1)
    · obtain ⟨_, e, h2, h3⟩ := hops op h1
      rw [h3]
      exact evM_low (he e h2) fun b hb => hbound g b hb
  · by_cases hkg : k = g
    · subst hkg
      rw [Deaf_own, deafBehind_still (fun e h1 => evM_hears (he e h1))]
      exact h.hears k hk
    · rw [Deaf_other t (g' := g) (fun e => hkg e.symm) _ fun op hop => (hops op hop).1]
      exact h.hears k hk
/-- A step of one that is only leaving. -/
theorem Owns.mute (h : Owns Z Act M n t) {g : Nat} (hg : ¬ Act g) {fn : FuncId} {pos : String} {es : Array Event} (hm : ∀ e ∈ es, e.mute = true) : Owns Z Act M n (t ++ MemOp.ofEvents g fn pos es) := by
  have hops : ∀ op ∈ MemOp.ofEvents g fn pos es, op.g = g ∧ op.act.touch? = none ∧ op.act.low n := fun op hop => by
    obtain ⟨e, h1, rfl⟩ := Go.Conc.mem_ofEvents hop
    exact ⟨rfl, touch_mute (hm e h1), low_mute (hm e h1) n⟩
  have old : ∀ {i a}, touchAt (t ++ MemOp.ofEvents g fn pos es) i = some a → touchAt t i = some a := fun {i a} ha => by
    obtain ⟨op, hop, hoa⟩ := touch_of ha
    rcases getElem?_append_cases hop with ⟨hi, hop'⟩ | ⟨_, hopu⟩
    · rw [touchAt_of hop']; exact hoa
    · rw [(hops op hopu).2.1] at hoa; cases hoa
  refine ⟨fun said => noRace_append (h.clean said) (fun op hop => (hops op hop).1) fun i a _ op hop b hb _ => (by rw [(hops op hop).2.1] at hb; cases hb), fun k i a b hk ha hb hm hz => (h.mine k i a b hk (old ha) hb hm hz).app _, fun k i a b hk ha hb hz hw => (h.still k i a b hk (old ha) hb hz hw).app _, h.disj, h.bound, fun op hop => ?_, fun k hk => ?_⟩
  · rcases Array.mem_append.1 hop with h1 | h1
    · exact h.low op h1
    · exact (hops op h1).2.2
  · rw [Deaf_other t (g' := g) (fun e => hg (e ▸ hk)) _ fun op hop => (hops op hop).1]
    exact h.hears k hk
end

end Go.Proofs.YtepbidaoloplbaaDoor
