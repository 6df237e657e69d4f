/-
  A part of the proof.
-/
import Derived.Test.YthjapmdikbmmkaaDoorParz05
import Derived.Laws.Sem
namespace Go.Proofs.YthjapmdikbmmkaaDoor
open Go Go.Conc
set_option maxRecDepth 100000
def c0 (P : Program) : Frame := { fn := P.funcs.size, tmps := #[], todo := [.call { target := .nil, args := #[] } false "fmt's door of nobody" #[]], defers := [], mode := .run, kind := .normal }
section
variable {L : Nat} {Pg P : Program} {Gl : Globs} {Al : Nat → Bool} {Sh : Nat → Prop} {ρ ρ1 : Ren} {w w' w1 w1' : World} {fr fr' : Frame} {st st' base : List Frame} {main : Bool}
inductive Out (L : Nat) (P : Program) (Gl : Globs) (Al : Nat → Bool) (Sh : Nat → Prop) (ρ : Ren) (w w' : World) (fr fr' : Frame) (st st' base : List Frame) (main : Bool) : Prop
  | ended {o : Outcome} {w1 : World} {es : Array Event} (h : stepG P true (G fr (st ++ [c0 P])) w = .ended o w1 es) : Out L P Gl Al Sh ρ w w' fr fr' st st' base main
  | pan {fr1 : Frame} {w1 : World} {es : Array Event} {c : List PanicEntry} (h : stepG P true (G fr (st ++ [c0 P])) w = .go (G fr1 (st ++ [c0 P])) w1 es) (hm : fr1.mode = .panicking c) (hd : fr1.defers = []) (hf : Al fr1.fn = true) : Out L P Gl Al Sh ρ w w' fr fr' st st' base main
  | go {ρ1 : Ren} {fr1 fr1' : Frame} {st1 st1' : List Frame} {w1 w1' : World} {es es' : Array Event} (h : stepG P true (G fr (st ++ [c0 P])) w = .go (G fr1 (st1 ++ [c0 P])) w1 es) (h' : stepG P main (G fr' (st' ++ base)) w' = .go (G fr1' (st1' ++ base)) w1' es')
      (hF : RelF P Gl Al ρ1 fr1 fr1') (hS : RelFs P Gl Al ρ1 st1 st1') (hs : Sit L P Gl Al Sh ρ1 w1 w1') (hf : Frm Sh ρ ρ1 w w1 w' w1') (he : ∀ e ∈ es', EvR Sh ρ1 e) : Out L P Gl Al Sh ρ w w' fr fr' st st' base main
inductive Out2 (L : Nat) (Pg P : Program) (Gl : Globs) (Al : Nat → Bool) (Sh : Nat → Prop) (ρ : Ren) (w w' : World) (fr fr' : Frame) (st st' base : List Frame) (main : Bool) : Prop
  | ended {o : Outcome} {w1 : World} {es : Array Event} (h : stepG Pg true (G fr (st ++ [c0 Pg])) w = .ended o w1 es) : Out2 L Pg P Gl Al Sh ρ w w' fr fr' st st' base main
  | pan {fr1 : Frame} {w1 : World} {es : Array Event} {c : List PanicEntry} (h : stepG Pg true (G fr (st ++ [c0 Pg])) w = .go (G fr1 (st ++ [c0 Pg])) w1 es) (hm : fr1.mode = .panicking c) (hd : fr1.defers = []) (hf : Al fr1.fn = true) : Out2 L Pg P Gl Al Sh ρ w w' fr fr' st st' base main
  | go {ρ1 : Ren} {fr1 fr1' : Frame} {st1 st1' : List Frame} {w1 w1' : World} {es es' : Array Event} (h : stepG Pg true (G fr (st ++ [c0 Pg])) w = .go (G fr1 (st1 ++ [c0 Pg])) w1 es) (h' : stepG P main (G fr' (st' ++ base)) w' = .go (G fr1' (st1' ++ base)) w1' es')
      (hF : RelF P Gl Al ρ1 fr1 fr1') (hS : RelFs P Gl Al ρ1 st1 st1') (hs : Sit L P Gl Al Sh ρ1 w1 w1') (hf : Frm Sh ρ ρ1 w w1 w' w1') (he : ∀ e ∈ es', EvR Sh ρ1 e) : Out2 L Pg P Gl Al Sh ρ w w' fr fr' st st' base main
  | meets {ρ1 : Ren} {f : FuncId} {x x' : Array Value} {w1 w1' : World} {es es' : Array Event} (hFf : Gl.d f x.size = true) (h : stepG Pg true (G fr (st ++ [c0 Pg])) w = .go (G (Frame.enter Pg f x .normal) (fr :: st ++ [c0 Pg])) w1 es) (h' : stepG P main (G fr' (st' ++ base)) w' = .go (G (Frame.enter P f x' .normal) (fr' :: st' ++ base)) w1' es')
      (hx : RelR ρ1 x x') (hF : RelF P Gl Al ρ1 fr fr') (hr : fr.mode = .run) (ht : ∃ ops i rest k, fr.todo = .inRegion ops (i :: rest) :: k) (hS : RelFs P Gl Al ρ1 st st') (hs : Sit L P Gl Al Sh ρ1 w1 w1') (hf : Frm Sh ρ ρ1 w w1 w' w1') (he : ∀ e ∈ es', EvR Sh ρ1 e) : Out2 L Pg P Gl Al Sh ρ w w' fr fr' st st' base main
theorem sim_resultList [Kin Pg P] (l : List ResultVar) : ∀ {ρ : Ren} {x x' : Array Value}, RelR ρ x x' → SimS Pg P (fun ρ (a b : List Value) => RelR ρ a.toArray b.toArray) ρ (l.mapM fun | .tmp t => (Pure.pure (x.getD t undef) : Sem Value) | .cell a t => do loadVar t (← asAddr (x.getD a undef))) (l.mapM fun | .tmp t => (Pure.pure (x'.getD t undef) : Sem Value) | .cell a t => do loadVar t (← asAddr (x'.getD a undef))) := by
  induction l with
  | nil => intro ρ x x' h; exact .pr .empty
  | cons r l ih =>
    intro ρ x x' h
    rw [List.mapM_cons, List.mapM_cons]
    refine SimS.bd (Q := RelV) ?_ fun ρ1 v v' hle hv => (ih (h.mono hle)).bd fun ρ2 a b hle2 hab => .pr ?_
    · cases r with
      | tmp t => exact .pr (h.getD t rel_undef)
      | cell a t => exact (sim_asAddr (h.getD a rel_undef)).bd fun ρ1 u u' _ hu => sim_loadVar hu t
    · have := (RelR.one (hv.mono hle2)).append hab
      simpa using this
theorem sim_results [Kin Pg P] (fn : Func) {x x' : Array Value} (h : RelR ρ x x') : SimS Pg P RelV ρ (results fn x) (results fn x') := by
  unfold results
  rw [Array.mapM_eq_mapM_toList, Array.mapM_eq_mapM_toList]
  refine SimS.bd (Q := RelR) ((sim_resultList fn.results.toList h).bd fun ρ1 a b hle hab => .pr hab) fun ρ2 a b hle hab => .pr ?_
  by_cases e : a.size = 1
  · have e' : b.size = 1 := by rw [← hab.1]; exact e
    rw [dif_pos e, dif_pos e']
    exact hab.2 0 _ _ (Array.getElem?_eq_getElem (by omega)) (Array.getElem?_eq_getElem (by omega))
  · have e' : ¬ b.size = 1 := by rw [← hab.1]; exact e
    rw [dif_neg e, dif_neg e']
    exact hab.tuple
theorem exitTo_sub {id : Nat} : ∀ {k k' : List Item}, exitTo id k = some k' → ∀ i ∈ k', i ∈ k
  | [], _, h => by cases h
  | x :: k, k', h => by
    have more := fun (h : exitTo id k = some k') i hi => List.mem_cons_of_mem x (exitTo_sub h i hi)
    cases x
    all_goals first
      | exact more h
      | (simp only [exitTo] at h
         split at h
         · cases h
           exact fun i hi => List.mem_cons_of_mem _ hi
         · exact more h)
theorem RelF.finish (h : RelF P Gl Al ρ fr fr') {ops : Array Oper} {i : Nat} {rest : List Nat} {k : List Item} (ht : fr.todo = .inRegion ops (i :: rest) :: k) {v v' : Value} (hv : RelV ρ v v') : RelF P Gl Al ρ (fr.finish v) (fr'.finish v') := by
  have ht' := h.todo.trans ht
  have e : fr.finish v = { fr with tmps := match (ops[i]?).bind (·.dst) with | some d => fr.tmps.setIfInBounds d v | none => fr.tmps, todo := .inRegion ops rest :: k } := by simp only [Frame.finish, ht]; rfl
  have e' : fr'.finish v' = { fr' with tmps := match (ops[i]?).bind (·.dst) with | some d => fr'.tmps.setIfInBounds d v' | none => fr'.tmps, todo := .inRegion ops rest :: k } := by simp only [Frame.finish, ht']; rfl
  have hk := h.ok
  rw [ht] at hk
  rw [e, e']
  refine ⟨h.fn, h.al, ?_, rfl, fun x hx => ?_, h.defers, h.defers', h.mode, h.run, h.kind, h.kind', h.round, h.round'⟩
  · show RelR ρ (match (ops[i]?).bind (·.dst) with | some d => fr.tmps.setIfInBounds d v | none => fr.tmps) (match (ops[i]?).bind (·.dst) with | some d => fr'.tmps.setIfInBounds d v' | none => fr'.tmps)
    split
    · exact h.tmps.set _ hv
    · exact h.tmps
  · rcases List.mem_cons.1 hx with rfl | hx
    · exact hk (.inRegion ops (i :: rest)) List.mem_cons_self
    · exact hk x (List.mem_cons_of_mem _ hx)
theorem RelF.enter2 (T : Tame2 Pg P Gl Al) {f : FuncId} (hf : Al f = true) {x x' : Array Value} (hx : RelR ρ x x') : RelF P Gl Al ρ (Frame.enter Pg f x .normal) (Frame.enter P f x' .normal) := by
  obtain ⟨fn, body, h1, h1', h2, h3, h4⟩ := T.body f hf
  refine ⟨rfl, hf, ?_, by simp only [Frame.enter, h1, h1'], fun i hi => ?_, rfl, rfl, rfl, .inl rfl, rfl, rfl, rfl, rfl⟩
  · show RelR ρ (x ++ Array.replicate (((Pg.funcs[f]?).map (·.ntmps)).getD 0 - x.size) undef) (x' ++ Array.replicate (((P.funcs[f]?).map (·.ntmps)).getD 0 - x'.size) undef)
    rw [← hx.1, h1, h1']
    refine hx.append ⟨by simp, fun i v v' k1 k2 => ?_⟩
    simp only [Array.getElem?_replicate] at k1 k2
    split at k1
    · rw [if_pos (by assumption)] at k2
      cases k1; cases k2
      exact rel_undef
    · cases k1
  · simp only [Frame.enter, h1, Option.bind_some, h3, Option.getD_some, List.mem_singleton] at hi
    subst hi
    exact h4
theorem RelF.enter (T : TameP P Gl Al) {f : FuncId} (hf : Al f = true) {x x' : Array Value} (hx : RelR ρ x x') : RelF P Gl Al ρ (Frame.enter P f x .normal) (Frame.enter P f x' .normal) := RelF.enter2 T.two hf hx
theorem kin_follows [Kin Pg P] (d : Departure) : Pg.follows d = P.follows d := by rw [‹Kin Pg P›.tables]
theorem apply_value {cs : List Frame} {s : Sem Next} {v : Value} {es : Array Event} (hk : fr.kind = .normal) (h : s.runT P w #[] = (.ok (.value v) w1, es)) : stepG.apply P true fr cs none s w = .go (G (fr.finish v) cs) w1 (seen P fr.fn es) := by
  simp only [stepG.apply, if_true, h, hk, GStep.after]
  rw [if_neg (by decide), Array.append_empty]
  rfl
theorem apply_skip {cs : List Frame} {s : Sem Next} {es : Array Event} (hk : fr.kind = .normal) (h : s.runT P w #[] = (.ok .skip w1, es)) : stepG.apply P true fr cs none s w = .go (G (fr.finish undef) cs) w1 (seen P fr.fn es) := by
  simp only [stepG.apply, if_true, h, hk, GStep.after]
  rw [if_neg (by decide), Array.append_empty]
  rfl
theorem apply_enter {cs : List Frame} {s : Sem Next} {f : FuncId} {x : Array Value} {es : Array Event} {ops : Array Oper} {i : Nat} {rest : List Nat} {k : List Item} (ht : fr.todo = .inRegion ops (i :: rest) :: k) (hk : fr.kind = .normal) (h : s.runT P w #[] = (.ok (.enter f x) w1, es)) : stepG.apply P true fr cs none s w = .go (G (Frame.enter P f x .normal) (fr :: cs)) w1 (seen P fr.fn es) := by
  simp only [stepG.apply, if_true, h, hk, GStep.after, ht]
  rw [if_neg (by decide), Array.append_empty]
  rfl
theorem apply_halt {cs : List Frame} {s : Sem Next} {x : Halt} {es : Array Event} (hk : fr.kind = .normal) (hx : tame x = true) (h : s.runT P w #[] = (.halt x w1, es)) : (∃ o, stepG.apply P true fr cs none s w = .ended o w1 (seen P fr.fn es)) ∨ ∃ v, stepG.apply P true fr cs none s w = .go (G (fr.raise [{ v, recovered := false }]) cs) w1 (seen P fr.fn es) := by
  cases x with
  | panic v => exact .inr ⟨v, by simp only [stepG.apply, if_true, h, hk, GStep.after]; rw [if_neg (by decide), Array.append_empty]; rfl⟩
  | stuck m => exact .inl ⟨_, by simp only [stepG.apply, if_true, h, hk, GStep.after]; rw [if_neg (by decide), Array.append_empty]⟩
  | unsupported u =>
    cases u with
    | initOrder g => cases hx
    | _ => exact .inl ⟨_, by simp only [stepG.apply, if_true, h, hk, GStep.after]; rw [if_neg (by decide), Array.append_empty]⟩
  | _ => cases hx
theorem sim_step2 [Kin Pg P] (T : Tame2 Pg P Gl Al) (hs : Sit L P Gl Al Sh ρ w w') (hF : RelF P Gl Al ρ fr fr') (hS : RelFs P Gl Al ρ st st') (hne : ¬ (st = [] ∧ fr.mode = .returning)) (hL : ∀ g1 w1 es, stepG Pg true (G fr (st ++ [c0 Pg])) w = .go g1 w1 es → w1.drawn ≤ L) : Out2 L Pg P Gl Al Sh ρ w w' fr fr' st st' base main := by
  have mv : ∀ (t : List Item) (m : FrameMode), (∀ i ∈ t, okItem P Gl Al i = true) → (m = .run ∨ m = .returning) → stepG Pg true (G fr (st ++ [c0 Pg])) w = .go (G { fr with todo := t, mode := m } (st ++ [c0 Pg])) w #[] → stepG P main (G fr' (st' ++ base)) w' = .go (G { fr' with todo := t, mode := m } (st' ++ base)) w' #[] → Out2 L Pg P Gl Al Sh ρ w w' fr fr' st st' base main := fun t m hok hm h1 h2 =>
    .go h1 h2 ⟨hF.fn, hF.al, hF.tmps, rfl, hok, hF.defers, hF.defers', rfl, hm, hF.kind, hF.kind', hF.round, hF.round'⟩ hS hs (.refl _ _ _) (by simp)
  have hok := hF.ok
  rcases hF.run with hrun | hret
  · have hrun' := hF.mode.trans hrun
    cases ht : fr.todo with
    | nil =>
      have ht' := hF.todo.trans ht
      refine mv [] .returning (by simp) (.inr rfl) ?_ ?_
      · simp [stepG, stepG.exec, G, hrun, ht, hF.round]
      · simp [stepG, stepG.exec, G, hrun', ht', hF.round']
    | cons x k =>
      have ht' := hF.todo.trans ht
      rw [ht] at hok
      have hx := hok x List.mem_cons_self
      have hk : ∀ i ∈ k, okItem P Gl Al i = true := fun i hi => hok i (List.mem_cons_of_mem _ hi)
      have S1 : ∀ {X : GStep}, (stepG Pg true (G fr (st ++ [c0 Pg])) w = X) = (stepG.exec Pg true true fr (st ++ [c0 Pg]) none w = X) := by
        intro X
        have : stepG Pg true (G fr (st ++ [c0 Pg])) w = stepG.exec Pg true true fr (st ++ [c0 Pg]) none w := by simp only [stepG, G, hrun]
        rw [this]
      have S2 : ∀ {X : GStep}, (stepG P main (G fr' (st' ++ base)) w' = X) = (stepG.exec P main true fr' (st' ++ base) none w' = X) := by
        intro X
        have : stepG P main (G fr' (st' ++ base)) w' = stepG.exec P main true fr' (st' ++ base) none w' := by simp only [stepG, G, hrun']
        rw [this]
      have go1 : ∀ t, stepG.exec Pg true true fr (st ++ [c0 Pg]) none w = .go { frame := { fr with todo := t }, callers := st ++ [c0 Pg], status := .running, dying := none } w → stepG.exec P main true fr' (st' ++ base) none w' = .go { frame := { fr' with todo := t }, callers := st' ++ base, status := .running, dying := none } w' → (∀ i ∈ t, okItem P Gl Al i = true) → Out2 L Pg P Gl Al Sh ρ w w' fr fr' st st' base main := fun t h1 h2 h3 =>
        mv t .run h3 (.inl rfl) (by rw [S1, h1]; simp only [G, ← hrun]) (by rw [S2, h2]; simp only [G, ← hrun'])
      cases x with
      | inBlock id => exact go1 k (by simp only [stepG.exec, ht]) (by simp only [stepG.exec, ht']) hk
      | inLoop b => exact go1 (.code b :: .inLoop b :: k) (by simp only [stepG.exec, ht]) (by simp only [stepG.exec, ht']) (by
          intro i hi
          rcases List.mem_cons.1 hi with rfl | hi
          · exact hx
          · rcases List.mem_cons.1 hi with rfl | hi
            · exact hx
            · exact hk i hi)
      | inRegion ops l =>
        cases l with
        | nil => exact go1 k (by simp only [stepG.exec, ht]) (by simp only [stepG.exec, ht']) hk
        | cons i rest =>
          have hy := yielded_same hF.tmps ops
          have hw : (((ops[i]?).map (Region.wanted · (yielded ops fr'.tmps))).getD false) = (((ops[i]?).map (Region.wanted · (yielded ops fr.tmps))).getD false) := by rw [hy]
          by_cases hwn : (((ops[i]?).map (Region.wanted · (yielded ops fr.tmps))).getD false) = true
          · cases ho : ops[i]? with
            | none => rw [ho] at hwn; cases hwn
            | some o =>
              have hoo : okOp P Gl Al o.op = true := List.all_eq_true.1 hx o (by simpa using Array.mem_of_getElem? ho)
              have sim := sim_execOp (fun v => ⟨rfl, rfl⟩) (fun f => ⟨rfl, rfl⟩) (fun f n h => by rw [hs.hD]; exact h) (T.bodies hs.hA hs.hD) hs.hG (fun f hf => by rw [hs.hA]; exact hf) (hF.eval hs) o hoo
              rw [ho] at hwn hw
              have hwn' : (((some o).map (Region.wanted · (yielded ops fr'.tmps))).getD false) = true := by rw [hw]; exact hwn
              have A1 : stepG Pg true (G fr (st ++ [c0 Pg])) w = stepG.apply Pg true fr (st ++ [c0 Pg]) none (execOp fr.eval o) w := by
                rw [S1]
                simp only [stepG.exec, ht, stepG.oper, Frame.oper?, ho, hF.round]
                rw [if_pos hwn]
              have A2 : stepG P main (G fr' (st' ++ base)) w' = stepG.apply P true fr' (st' ++ base) none (execOp fr'.eval o) w' := by
                rw [S2]
                simp only [stepG.exec, ht', stepG.oper, Frame.oper?, ho, hF.round']
                rw [if_pos hwn']
              have hbig : ρ.G ≤ w.heap.size := by rw [hs.hG.size]; exact hs.big
              have hdr : ∀ {n : Next} {w1 : World} (es : Array Event), (execOp fr.eval o).runT Pg w #[] = (.ok n w1, es) → w1.drawn ≤ L := fun {n w1} es hr => by
                obtain ⟨ρ1, b, w1', more, _, r2, _⟩ := sim.runs #[] (hs.rel.follow w1.drawn) hs.sh hbig hr (Nat.le_refl _)
                cases r2 with
                | value hv => exact hL _ _ _ (A1.trans (apply_value hF.kind hr))
                | skip => exact hL _ _ _ (A1.trans (apply_skip hF.kind hr))
                | enter f hA hxx => exact hL _ _ _ (A1.trans (apply_enter ht hF.kind hr))
              cases hr : (execOp fr.eval o).runT Pg w #[] with
              | mk r es =>
                cases r with
                | ok n w1 =>
                  obtain ⟨ρ1, b, w1', more, r1, r2, r3, r4, r5⟩ := sim.runs #[] hs.rel hs.sh hbig hr (hdr _ hr)
                  have hev : ∀ e ∈ seen P fr'.fn (#[] ++ more), EvR Sh ρ1 e := fun e he => r5 e (by simpa using seen_sub _ _ he)
                  cases r2 with
                  | value hv => exact .go (A1.trans (apply_value hF.kind hr)) (A2.trans (apply_value hF.kind' r1)) ((hF.mono r4.le).finish ht hv) (hS.mono r4.le) (hs.step r3 r4) r4 hev
                  | skip => exact .go (A1.trans (apply_skip hF.kind hr)) (A2.trans (apply_skip hF.kind' r1)) ((hF.mono r4.le).finish ht rel_undef) (hS.mono r4.le) (hs.step r3 r4) r4 hev
                  | enter f hA hxx =>
                    rcases hA with hA | hA
                    · exact .go (st1 := fr :: st) (st1' := fr' :: st') (A1.trans (apply_enter ht hF.kind hr)) (A2.trans (apply_enter ht' hF.kind' r1)) (RelF.enter2 T (by have := r4.le.2.1; rw [this, hs.hA] at hA; exact hA) hxx) (.cons (hF.mono r4.le) hrun ⟨_, _, _, _, ht⟩ (hS.mono r4.le)) (hs.step r3 r4) r4 hev
                    · exact .meets (by have := r4.le.dd; rw [this, hs.hD] at hA; exact hA) (A1.trans (apply_enter ht hF.kind hr)) (A2.trans (apply_enter ht' hF.kind' r1)) hxx (hF.mono r4.le) hrun ⟨_, _, _, _, ht⟩ (hS.mono r4.le) (hs.step r3 r4) r4 hev
                | halt y w1 =>
                  have hty := sim.halts hs.rel hs.sh hbig (by rw [← Sem.runT_fst Pg _ w #[], hr] : (execOp fr.eval o).run Pg w = .halt y w1)
                  rcases apply_halt (cs := st ++ [c0 Pg]) hF.kind hty hr with ⟨o1, h1⟩ | ⟨v, h1⟩
                  · exact .ended (A1.trans h1)
                  · exact .pan (A1.trans h1) (c := [{ v, recovered := false }]) (by simp [Frame.raise, hrun]) (by simp [Frame.raise, hrun, hF.defers]) (by simp [Frame.raise, hrun, hF.al])
          · have hwn' : ¬ (((ops[i]?).map (Region.wanted · (yielded ops fr'.tmps))).getD false) = true := by rw [hw]; exact hwn
            refine .go (ρ1 := ρ) (es := #[]) (es' := #[]) (fr1 := fr.finish undef) (fr1' := fr'.finish undef) (st1 := st) (st1' := st') (w1 := w) (w1' := w') ?_ ?_ (hF.finish ht rel_undef) hS hs (.refl _ _ _) (by simp)
            · rw [S1]
              simp only [stepG.exec, ht, hwn, G]
              rfl
            · rw [S2]
              simp only [stepG.exec, ht', hwn', G]
              rfl
      | code c =>
        cases c with
        | skip => exact go1 k (by simp only [stepG.exec, ht]) (by simp only [stepG.exec, ht']) hk
        | ret =>
          refine mv (.code .ret :: k) .returning (by rw [← ht]; exact hF.ok) (.inr rfl) ?_ ?_
          · rw [S1]; simp only [stepG.exec, ht, hF.round, G]; rfl
          · rw [S2]; simp only [stepG.exec, ht', hF.round', G]; rfl
        | seq a b =>
          simp only [okItem, okCode, Bool.and_eq_true] at hx
          exact go1 (.code a :: .code b :: k) (by simp only [stepG.exec, ht]) (by simp only [stepG.exec, ht']) (by
            intro i hi
            rcases List.mem_cons.1 hi with rfl | hi
            · exact hx.1
            · rcases List.mem_cons.1 hi with rfl | hi
              · exact hx.2
              · exact hk i hi)
        | block id b => exact go1 (.code b :: .inBlock id :: k) (by simp only [stepG.exec, ht]) (by simp only [stepG.exec, ht']) (by
            intro i hi
            rcases List.mem_cons.1 hi with rfl | hi
            · exact hx
            · rcases List.mem_cons.1 hi with rfl | hi
              · rfl
              · exact hk i hi)
        | loop b => exact go1 (.code b :: .inLoop b :: k) (by simp only [stepG.exec, ht]) (by simp only [stepG.exec, ht']) (by
            intro i hi
            rcases List.mem_cons.1 hi with rfl | hi
            · exact hx
            · rcases List.mem_cons.1 hi with rfl | hi
              · exact hx
              · exact hk i hi)
        | cond c a b =>
          simp only [okItem, okCode, Bool.and_eq_true] at hx
          have hc := hF.eval hs c hx.1.1
          cases hv : fr.eval c with
          | bool z =>
            rw [hv] at hc
            cases hv' : fr'.eval c with
            | bool z' =>
              rw [hv'] at hc
              cases hc
              exact go1 (.code (if z then a else b) :: k) (by simp only [stepG.exec, ht, hv]) (by simp only [stepG.exec, ht', hv']) (by
                intro i hi
                rcases List.mem_cons.1 hi with rfl | hi
                · cases z
                  · exact hx.2
                  · exact hx.1.2
                · exact hk i hi)
            | _ => rw [hv'] at hc; cases hc
          | _ => exact .ended (by rw [S1]; simp only [stepG.exec, ht, hv]; rfl)
        | exit id =>
          cases he : exitTo id k with
          | none => exact .ended (by rw [S1]; simp only [stepG.exec, ht, he, Option.elim, hF.round]; rfl)
          | some k' => exact go1 k' (by simp only [stepG.exec, ht, he, Option.elim]) (by simp only [stepG.exec, ht', he, Option.elim]) fun i hi => hk i (exitTo_sub he i hi)
        | region id ops draw =>
          cases draw with
          | false => exact go1 (.inRegion ops (List.range ops.size) :: k) (by simp only [stepG.exec, ht]; rfl) (by simp only [stepG.exec, ht']; rfl) (by
              intro i hi
              rcases List.mem_cons.1 hi with rfl | hi
              · exact hx
              · exact hk i hi)
          | true =>
            have B1 : stepG Pg true (G fr (st ++ [c0 Pg])) w = .go (G { fr with todo := .inRegion ops (Region.schedule (P.follows .mixedOrders) ops (w.tape w.drawn (.order fr.fn id))) :: k } (st ++ [c0 Pg])) { w with drawn := w.drawn + 1 } #[] := by
              rw [S1, ← kin_follows (Pg := Pg)]
              simp only [stepG.exec, ht, G]
              rfl
            have htp : w'.tape w'.drawn (.order fr'.fn id) = w.tape w.drawn (.order fr.fn id) := by
              have hl : w.drawn + 1 ≤ L := hL _ _ _ B1
              have := hs.rel.tape 0 (.order fr.fn id) (by omega)
              rw [hF.fn]
              simpa using this.symm
            have hd := hs.rel.drew
            refine .go (ρ1 := ρ) (es := #[]) (es' := #[]) (fr1 := { fr with todo := .inRegion ops (Region.schedule (P.follows .mixedOrders) ops (w.tape w.drawn (.order fr.fn id))) :: k }) (fr1' := { fr' with todo := .inRegion ops (Region.schedule (P.follows .mixedOrders) ops (w.tape w.drawn (.order fr.fn id))) :: k }) (st1 := st) (st1' := st') (w1 := { w with drawn := w.drawn + 1 }) (w1' := { w' with drawn := w'.drawn + 1 }) ?_ ?_ ⟨hF.fn, hF.al, hF.tmps, rfl, ?_, hF.defers, hF.defers', hF.mode, hF.run, hF.kind, hF.kind', hF.round, hF.round'⟩ hS (hs.step hd.1 hd.2) hd.2 (by simp)
            · exact B1
            · rw [S2, ← htp]
              simp only [stepG.exec, ht', G]
              rfl
            · intro i hi
              rcases List.mem_cons.1 hi with rfl | hi
              · exact hx
              · exact hk i hi
        | _ => cases hx
      | _ => cases hx
  · cases hS with
    | nil => exact absurd ⟨rfl, hret⟩ hne
    | @cons fr2 fr2' st2 st2' h2 hr2 ho2 hs2 =>
      obtain ⟨ops, i, rest, k, ht2⟩ := ho2
      have hret' := hF.mode.trans hret
      obtain ⟨fn, body, f0, f1, f2, f3, f4⟩ := T.body fr.fn hF.al
      have sim := sim_results (Pg := Pg) (P := P) fn hF.tmps
      have hbig : ρ.G ≤ w.heap.size := by rw [hs.hG.size]; exact hs.big
      cases hr : (results fn fr.tmps).runT Pg w #[] with
      | mk r es =>
        cases r with
        | ok v w1 =>
          have B1 : stepG Pg true (G fr (fr2 :: st2 ++ [c0 Pg])) w = .go (G (fr2.finish v) (st2 ++ [c0 Pg])) w1 (seen Pg fr.fn es) := by
            simp only [stepG, G, hret, unwind, hF.defers, f0, hr, GStep.after, doReturn, hF.kind, List.cons_append, Array.append_empty]
          obtain ⟨ρ1, v', w1', more, r1, r2, r3, r4, r5⟩ := sim.runs #[] hs.rel hs.sh hbig hr (hL _ _ _ B1)
          refine .go (es := seen Pg fr.fn es) (es' := seen P fr'.fn (#[] ++ more)) (fr1 := fr2.finish v) (fr1' := fr2'.finish v') (st1 := st2) (st1' := st2') (w1 := w1) (w1' := w1') ?_ ?_ ((h2.mono r4.le).finish ht2 r2) (hs2.mono r4.le) (hs.step r3 r4) r4 (fun e he => r5 e (by simpa using seen_sub _ _ he))
          · exact B1
          · simp only [stepG, G, hret', unwind, hF.defers', hF.fn, f1, r1, GStep.after, doReturn, hF.kind', List.cons_append, Array.append_empty]
        | halt y w1 =>
          cases y <;> exact .ended (by simp only [stepG, G, hret, unwind, hF.defers, f0, hr, GStep.after]; rfl)
theorem sim_step (T : TameP P Gl Al) (hs : Sit L P Gl Al Sh ρ w w') (hF : RelF P Gl Al ρ fr fr') (hS : RelFs P Gl Al ρ st st') (hne : ¬ (st = [] ∧ fr.mode = .returning)) (hL : ∀ g1 w1 es, stepG P true (G fr (st ++ [c0 P])) w = .go g1 w1 es → w1.drawn ≤ L) : Out L P Gl Al Sh ρ w w' fr fr' st st' base main := by
  cases sim_step2 (base := base) (main := main) T.two hs hF hS hne hL with
  | ended h => exact .ended h
  | pan h hm hd hf => exact .pan h hm hd hf
  | go h h' hF hS hs hf he => exact .go h h' hF hS hs hf he
  | @meets _ f x _ _ _ _ _ hff => rw [T.shut] at hff; cases hff
end
def World.ret (w : World) (τ : Nat → Question → Nat) : World := { w with tape := τ }
def Alike (w w1 : World) (τ : Nat → Question → Nat) : Prop := ∀ i q, w.drawn ≤ i → i < w1.drawn → τ i q = w.tape i q
theorem SimS.local {α β : Type} {Q : Ren → α → β → Prop} {L : Nat} {Sh : Nat → Prop} {p p' : Program} [Kin p p'] {ρ : Ren} {s : Sem α} {s' : Sem β} {τ : Nat → Question → Nat} (h : SimS p p' Q ρ s s') : ∀ {w w' w1 : World} {es es1 : Array Event} {a : α}, RelW L Sh ρ w w' → (∀ b, Sh b → b < w.heap.size) → ρ.G ≤ w.heap.size → s.runT p w es = (.ok a w1, es1) → Alike w w1 τ → s.runT p (World.ret w τ) es = (.ok a (World.ret w1 τ), es1) ∧ w1.tape = w.tape := by
  induction h with
  | dead h =>
    intro w w' w1 es es1 a hw hsh hG hr
    exact absurd (by rw [← Sem.runT_fst p _ w es, hr]) (h.1 w a w1)
  | pure h =>
    intro w w' w1 es es1 a hw hsh hG hr hτ
    simp only [Sem.runT, Prod.mk.injEq, Result.ok.injEq] at hr
    obtain ⟨⟨rfl, rfl⟩, rfl⟩ := hr
    exact ⟨rfl, rfl⟩
  | @load ρ a a' k k' ha h ih =>
    intro w w' w1 es es1 x hw hsh hG hr hτ
    have hc := hw.cell ha
    simp only [Sem.runT] at hr
    split at hr
    · rename_i v hv
      obtain ⟨v', hv', hrel⟩ := hc.1 v hv
      obtain ⟨h1, h2⟩ := ih v v' hrel hw hsh hG hr hτ
      have hv2 : (World.ret w τ).cell? a = some v := hv
      exact ⟨by simp only [Sem.runT, hv2]; exact h1, h2⟩
    · rename_i hn
      obtain ⟨y, hy, _⟩ := (hc.2 hn p (Mode.plain == .atomic)).1
      rw [hy] at hr
      cases hr
  | @store ρ a a' v v' k k' ha hv h ih =>
    intro w w' w1 es es1 x hw hsh hG hr hτ
    have hc := hw.cell ha
    have hst := fun hx hy => hw.store ha hv hx hy
    cases v <;> simp only [Sem.runT] at hr
    all_goals first
      | (cases hr; done)
      | (split at hr
         · rename_i v0 hv0
           split at hr
           · cases hr
           · rename_i hfz
             obtain ⟨h1, h2⟩ := ih (hst ⟨v0, hv0⟩ (by simpa using hfz)).1 (fun b hb => by simpa [World.setCell] using hsh b hb) (by simpa [World.setCell] using hG) hr hτ
             have hv2 : (World.ret w τ).cell? a = some v0 := hv0
             have hf2 : ¬ (World.ret w τ).frozen? a = true := hfz
             exact ⟨by simp only [Sem.runT, hv2, hf2]; exact h1, h2⟩
         · rename_i hn
           obtain ⟨y, hy, _⟩ := (hc.2 hn p (Mode.plain == .atomic)).2 _
           rw [hy] at hr
           cases hr)
  | @new ρ o o' k k' ho h ih =>
    intro w w' w1 es es1 x hw hsh hG hr hτ
    have hn := hw.new hsh ho
    exact ih _ w.heap.size w'.heap.size hn.2.le (.inr ⟨rfl, rfl⟩) hG (hw.low0 _ (Nat.le_refl _)) hn.1 (fun b hb => by have := hsh b hb; simp; omega) (by show ρ.G ≤ _; simp; omega) hr hτ
  | shape hr' h ih => intro w w' w1 es es1 x hw hsh hG hr hτ; exact ih _ _ (hw.shapes hr') hw hsh hG hr hτ
  | @getObj ρ r r' k k' hr' h ih =>
    intro w w' w1 es es1 x hw hsh hG hr hτ
    obtain ⟨o, o', h1, h2, ho⟩ := hw.obj _ _ hr'
    cases ho with
    | cells e _ hc hf =>
      simp only [Sem.runT, h1] at hr
      cases hr
    | part hl hh hc =>
      simp only [Sem.runT, h1] at hr
      cases hr
    | @number a a' l _ hn =>
      simp only [Sem.runT, h1] at hr
      obtain ⟨g1, g2⟩ := ih a a' l hn hw hsh hG hr hτ
      have h3 : (World.ret w τ).heap[r]? = some (.number a l) := h1
      exact ⟨by simp only [Sem.runT, h3]; exact g1, g2⟩
  | choose q h ih =>
    intro w w' w1 es es1 x hw hsh hG hr hτ
    simp only [Sem.runT] at hr ⊢
    by_cases hq : q.forced = true
    · rw [if_pos hq] at hr ⊢
      exact ih _ hw hsh hG hr hτ
    · rw [if_neg hq] at hr ⊢
      have hd := hw.drew
      have hgr : w.drawn + 1 ≤ w1.drawn := (h _).grows hd.1 hsh hG hr
      have ht : (World.ret w τ).tape (World.ret w τ).drawn q = w.tape w.drawn q := hτ w.drawn q (Nat.le_refl _) (by omega)
      rw [ht]
      exact ih _ hd.1 hsh hG hr fun i q' h1 h2 => hτ i q' (by have : w.drawn + 1 ≤ i := h1; omega) h2
  | program h ih => intro w w' w1 es es1 x hw hsh hG hr hτ; exact ih hw hsh hG hr hτ
  | room h ih => intro w w' w1 es es1 x hw hsh hG hr hτ; exact ih hw hsh hG hr hτ
section
variable {L : Nat} {P : Program} {Gl : Globs} {Al : Nat → Bool} {Sh : Nat → Prop} {ρ : Ren} {w w' w1 : World} {fr fr' : Frame} {st st' : List Frame} {τ : Nat → Question → Nat}
theorem still_local {cs : List Frame} {g1 g : Goroutine} {es : Array Event} (hm : ∀ w, stepG P true (G fr cs) w = .go g w #[]) (h : stepG P true (G fr cs) w = .go g1 w1 es) : stepG P true (G fr cs) (World.ret w τ) = .go g1 (World.ret w1 τ) es ∧ w1.tape = w.tape ∧ w.drawn ≤ w1.drawn := by
  rw [hm w] at h
  cases h
  exact ⟨hm _, rfl, Nat.le_refl _⟩
theorem step_local (T : TameP P Gl Al) (hs : Sit L P Gl Al Sh ρ w w') (hF : RelF P Gl Al ρ fr fr') (hS : RelFs P Gl Al ρ st st') (hne : ¬ (st = [] ∧ fr.mode = .returning)) {fr1 : Frame} {cs1 : List Frame} {es : Array Event} (hmode : fr1.mode = .run ∨ fr1.mode = .returning) (h : stepG P true (G fr (st ++ [c0 P])) w = .go (G fr1 cs1) w1 es) (hτ : Alike w w1 τ) :
    stepG P true (G fr (st ++ [c0 P])) (World.ret w τ) = .go (G fr1 cs1) (World.ret w1 τ) es ∧ w1.tape = w.tape ∧ w.drawn ≤ w1.drawn := by
  have hok := hF.ok
  rcases hF.run with hrun | hret
  · have S1 : ∀ w, stepG P true (G fr (st ++ [c0 P])) w = stepG.exec P true true fr (st ++ [c0 P]) none w := fun w => by simp only [stepG, G, hrun]
    cases ht : fr.todo with
    | nil => exact still_local (g := G { fr with mode := .returning } (st ++ [c0 P])) (fun w => by rw [S1]; simp only [stepG.exec, ht, hF.round, G]; rfl) h
    | cons x k =>
      rw [ht] at hok
      have hx := hok x List.mem_cons_self
      have mv : ∀ t, (∀ w, stepG.exec P true true fr (st ++ [c0 P]) none w = .go { frame := { fr with todo := t }, callers := st ++ [c0 P], status := .running, dying := none } w) → stepG P true (G fr (st ++ [c0 P])) (World.ret w τ) = .go (G fr1 cs1) (World.ret w1 τ) es ∧ w1.tape = w.tape ∧ w.drawn ≤ w1.drawn := fun t ht => still_local (g := G { fr with todo := t } (st ++ [c0 P])) (fun w => by rw [S1, ht]; rfl) h
      cases x with
      | inBlock id => exact mv k fun w => by simp only [stepG.exec, ht]
      | inLoop b => exact mv (.code b :: .inLoop b :: k) fun w => by simp only [stepG.exec, ht]
      | inRegion ops l =>
        cases l with
        | nil => exact mv k fun w => by simp only [stepG.exec, ht]
        | cons i rest =>
          by_cases hwn : (((ops[i]?).map (Region.wanted · (yielded ops fr.tmps))).getD false) = true
          · cases ho : ops[i]? with
            | none => rw [ho] at hwn; cases hwn
            | some o =>
              have hoo : okOp P Gl Al o.op = true := List.all_eq_true.1 hx o (by simpa using Array.mem_of_getElem? ho)
              have sim := sim_execOp (fun v => ⟨rfl, rfl⟩) (fun f => ⟨rfl, rfl⟩) (fun f n h => by rw [hs.hD]; exact h) (T.bodies hs.hA hs.hD) hs.hG (fun f hf => by rw [hs.hA]; exact hf) (hF.eval hs) o hoo
              rw [ho] at hwn
              have A1 : ∀ w, stepG P true (G fr (st ++ [c0 P])) w = stepG.apply P true fr (st ++ [c0 P]) none (execOp fr.eval o) w := fun w => by
                rw [S1]
                simp only [stepG.exec, ht, stepG.oper, Frame.oper?, ho, hF.round]
                rw [if_pos hwn]
              have hbig : ρ.G ≤ w.heap.size := by rw [hs.hG.size]; exact hs.big
              cases hr : (execOp fr.eval o).runT P w #[] with
              | mk r es0 =>
                cases r with
                | ok n w2 =>
                  obtain ⟨ρ1, b, w1', more, _, r2, _⟩ := sim.runs #[] (hs.rel.follow w2.drawn) hs.sh hbig hr (Nat.le_refl _)
                  have hgr := sim.grows hs.rel hs.sh hbig hr
                  cases r2 with
                  | value hv =>
                    rw [A1, apply_value hF.kind hr] at h
                    cases h
                    obtain ⟨l1, l2⟩ := sim.local hs.rel hs.sh hbig hr hτ
                    exact ⟨(A1 _).trans (apply_value hF.kind l1), l2, hgr⟩
                  | skip =>
                    rw [A1, apply_skip hF.kind hr] at h
                    cases h
                    obtain ⟨l1, l2⟩ := sim.local hs.rel hs.sh hbig hr hτ
                    exact ⟨(A1 _).trans (apply_skip hF.kind l1), l2, hgr⟩
                  | enter f hA hxx =>
                    rw [A1, apply_enter ht hF.kind hr] at h
                    cases h
                    obtain ⟨l1, l2⟩ := sim.local hs.rel hs.sh hbig hr hτ
                    exact ⟨(A1 _).trans (apply_enter ht hF.kind l1), l2, hgr⟩
                | halt y w2 =>
                  have hty := sim.halts hs.rel hs.sh hbig (by rw [← Sem.runT_fst P _ w #[], hr] : (execOp fr.eval o).run P w = .halt y w2)
                  rcases apply_halt (cs := st ++ [c0 P]) hF.kind hty hr with ⟨o1, h1⟩ | ⟨v, h1⟩
                  · rw [A1, h1] at h
                    cases h
                  · rw [A1, h1] at h
                    cases h
                    rcases hmode with hm | hm <;> simp [Frame.raise, hrun] at hm
          · exact still_local (g := G (fr.finish undef) (st ++ [c0 P])) (fun w => by rw [S1]; simp only [stepG.exec, ht, hwn, G]; rfl) h
      | code c =>
        cases c with
        | skip => exact mv k fun w => by simp only [stepG.exec, ht]
        | ret => exact still_local (g := G { fr with mode := .returning } (st ++ [c0 P])) (fun w => by rw [S1]; simp only [stepG.exec, ht, hF.round, G]; rfl) h
        | seq a b => exact mv (.code a :: .code b :: k) fun w => by simp only [stepG.exec, ht]
        | block id b => exact mv (.code b :: .inBlock id :: k) fun w => by simp only [stepG.exec, ht]
        | loop b => exact mv (.code b :: .inLoop b :: k) fun w => by simp only [stepG.exec, ht]
        | cond c a b =>
          cases hv : fr.eval c with
          | bool z => exact mv (.code (if z then a else b) :: k) fun w => by simp only [stepG.exec, ht, hv]
          | _ =>
            rw [S1] at h
            simp only [stepG.exec, ht, hv] at h
            cases h
        | exit id =>
          cases he : exitTo id k with
          | none =>
            rw [S1] at h
            simp only [stepG.exec, ht, he, Option.elim, hF.round] at h
            cases h
          | some k' => exact mv k' fun w => by simp only [stepG.exec, ht, he, Option.elim]
        | region id ops draw =>
          cases draw with
          | false => exact mv (.inRegion ops (List.range ops.size) :: k) fun w => by simp only [stepG.exec, ht]; rfl
          | true =>
            have B : ∀ w, stepG P true (G fr (st ++ [c0 P])) w = .go (G { fr with todo := .inRegion ops (Region.schedule (P.follows .mixedOrders) ops (w.tape w.drawn (.order fr.fn id))) :: k } (st ++ [c0 P])) { w with drawn := w.drawn + 1 } #[] := fun w => by
              rw [S1]
              simp only [stepG.exec, ht, G]
              rfl
            rw [B w] at h
            cases h
            have e : (World.ret w τ).tape (World.ret w τ).drawn (.order fr.fn id) = w.tape w.drawn (.order fr.fn id) := hτ w.drawn _ (Nat.le_refl _) (Nat.lt_succ_self _)
            refine ⟨?_, rfl, Nat.le_succ _⟩
            rw [B, e]
            rfl
        | _ => cases hx
      | _ => cases hx
  · cases hS with
    | nil => exact absurd ⟨rfl, hret⟩ hne
    | @cons fr2 fr2' st2 st2' h2 hr2 ho2 hs2 =>
      obtain ⟨fn, body, f1, f2, f3, f4⟩ := T.body fr.fn hF.al
      have sim := sim_results (Pg := P) (P := P) fn hF.tmps
      have hbig : ρ.G ≤ w.heap.size := by rw [hs.hG.size]; exact hs.big
      have B : ∀ {w w1 : World} {v : Value} {es : Array Event}, (results fn fr.tmps).runT P w #[] = (.ok v w1, es) → stepG P true (G fr (fr2 :: st2 ++ [c0 P])) w = .go (G (fr2.finish v) (st2 ++ [c0 P])) w1 (seen P fr.fn es) := fun hr => by
        simp only [stepG, G, hret, unwind, hF.defers, f1, hr, GStep.after, doReturn, hF.kind, List.cons_append, Array.append_empty]
      cases hr : (results fn fr.tmps).runT P w #[] with
      | mk r es0 =>
        cases r with
        | ok v w2 =>
          have hgr := sim.grows hs.rel hs.sh hbig hr
          rw [B hr] at h
          cases h
          obtain ⟨l1, l2⟩ := sim.local hs.rel hs.sh hbig hr hτ
          exact ⟨B l1, l2, hgr⟩
        | halt y w2 =>
          cases y <;> (simp only [stepG, G, hret, unwind, hF.defers, f1, hr, GStep.after] at h; cases h)
end
structure St where
  fr : Frame
  st : List Frame
  w : World
def St.ret (s : St) (τ : Nat → Question → Nat) : St := ⟨s.fr, s.st, World.ret s.w τ⟩
def mach (P : Program) (s : St) : Machine := lone s.fr (s.st ++ [c0 P]) s.w
def Don (s : St) : Prop := s.st = [] ∧ s.fr.mode = .returning
def Part (P : Program) (Gl : Globs) (Al : Nat → Bool) (Sh : Nat → Prop) (s : St) : Prop := ∃ L ρ fr' st' w', Sit L P Gl Al Sh ρ s.w w' ∧ RelF P Gl Al ρ s.fr fr' ∧ RelFs P Gl Al ρ s.st st'
def Good (P : Program) (E : St → Prop) (d0 : Nat) (s : St) : Prop := ∀ τ, (∀ i q, d0 ≤ i → i < s.w.drawn → τ i q = s.w.tape i q) → ∃ n sE, runN P n (mach P (s.ret τ)) = .next (mach P sE) ∧ Don sE ∧ E sE
def Nx (P : Program) (d0 : Nat) (s1 s : St) : Prop := ¬ Don s ∧ (∀ i q, d0 ≤ i → i < s.w.drawn → s1.w.tape i q = s.w.tape i q) ∧ (s1.fr.mode = .run ∨ s1.fr.mode = .returning) ∧ ∃ es, stepG P true (G s.fr (s.st ++ [c0 P])) (World.ret s.w s1.w.tape) = .go (G s1.fr (s1.st ++ [c0 P])) s1.w es
section
variable {P : Program} {Gl : Globs} {Al : Nat → Bool} {Sh : Nat → Prop} {E : St → Prop} {d0 : Nat} {s s1 : St}
theorem mach_inj {s s' : St} (h : mach P s = mach P s') : s.fr = s'.fr ∧ s.st = s'.st ∧ s.w = s'.w := by
  simp only [mach, lone, Machine.mk.injEq, Array.mk.injEq, List.cons.injEq, Goroutine.mk.injEq, and_true] at h
  exact ⟨h.2.1, List.append_inj_left' h.2.2 rfl, h.1⟩
theorem step_of_go {fr fr1 : Frame} {cs cs1 : List Frame} {w w1 : World} {es : Array Event} (h : stepG P true (G fr cs) w = .go (G fr1 cs1) w1 es) : step P (lone fr cs w) = .next (lone fr1 cs1 w1) := by
  refine step_lone_go ?_
  show (stepG P true (G fr cs) w).bare = _
  rw [h]
  rfl
theorem step_of_ended {fr : Frame} {cs : List Frame} {w w1 : World} {o : Outcome} {es : Array Event} (h : stepG P true (G fr cs) w = .ended o w1 es) : step P (lone fr cs w) = .ended o w1 := by
  refine step_lone_ended ?_
  show (stepG P true (G fr cs) w).bare = _
  rw [h]
  rfl
theorem nx_local (T : TameP P Gl Al) (hp : Part P Gl Al Sh s) (h : Nx P d0 s1 s) {τ : Nat → Question → Nat} (hτ : ∀ i q, s.w.drawn ≤ i → i < s1.w.drawn → τ i q = s1.w.tape i q) :
    step P (mach P (s.ret τ)) = .next (mach P (s1.ret τ)) ∧ s.w.drawn ≤ s1.w.drawn := by
  obtain ⟨hne, _, hm, es, he⟩ := h
  obtain ⟨L, ρ, fr', st', w', hs, hF, hS⟩ := hp
  have hs' : Sit 0 P Gl Al Sh ρ (World.ret s.w s1.w.tape) w' := { hs with rel := hs.rel.retape (τ := s1.w.tape) (τ' := w'.tape) (d := s.w.drawn) (d' := w'.drawn) (fun i q h => absurd h (Nat.not_lt_zero _)) }
  obtain ⟨h1, h2, h3⟩ := step_local (τ := τ) T hs' hF hS hne hm he hτ
  exact ⟨step_of_go h1, h3⟩
theorem nx_part (T : TameP P Gl Al) (hp : Part P Gl Al Sh s) (h : Nx P d0 s1 s) : Part P Gl Al Sh s1 := by
  obtain ⟨hne, _, hm, es, he⟩ := h
  obtain ⟨L, ρ, fr', st', w', hs, hF, hS⟩ := hp
  have hs' : Sit s1.w.drawn P Gl Al Sh ρ (World.ret s.w s1.w.tape) (follow (World.ret s.w s1.w.tape) w') := { hs with rel := (hs.rel.retape (L' := 0) (τ := s1.w.tape) (τ' := w'.tape) (d := s.w.drawn) (d' := w'.drawn) (fun i q h => absurd h (Nat.not_lt_zero _))).follow _ }
  have out := sim_step (base := []) (main := true) T hs' hF hS hne (fun g1 w1 es1 h1 => by rw [he] at h1; cases h1; exact Nat.le_refl _)
  cases out with
  | ended h1 => rw [he] at h1; cases h1
  | pan h1 hm1 _ _ =>
    rw [he] at h1
    simp only [GStep.go.injEq, G, Goroutine.mk.injEq] at h1
    rw [← h1.1.1] at hm1
    rcases hm with hm | hm <;> rw [hm] at hm1 <;> cases hm1
  | @go ρ1 fr1 fr1' st1 st1' w1 w1' es1 es1' h1 h2 hF1 hS1 hs1 hf1 he1 =>
    rw [he] at h1
    simp only [GStep.go.injEq, G, Goroutine.mk.injEq, and_true] at h1
    obtain ⟨⟨e1, e2⟩, e3, _⟩ := h1
    have e2' := List.append_inj_left' e2 rfl
    subst e1 e2' e3
    exact ⟨_, ρ1, fr1', st1', w1', hs1, hF1, hS1⟩
theorem good_step (T : TameP P Gl Al) (hp : Part P Gl Al Sh s) (hg : Good P E d0 s) (hd : d0 ≤ s.w.drawn) (h : Nx P d0 s1 s) : Good P E d0 s1 := by
  intro τ hτ
  obtain ⟨h1, h3⟩ := nx_local T hp h (τ := τ) fun i q a b => hτ i q (Nat.le_trans hd a) b
  obtain ⟨n, sE, hn, hdon, hE⟩ := hg τ fun i q a b => (hτ i q a (Nat.lt_of_lt_of_le b h3)).trans (h.2.1 i q a b)
  cases n with
  | zero =>
    have := mach_inj (by simpa [runN] using hn : mach P (s.ret τ) = mach P sE)
    exact absurd (show Don s from ⟨this.2.1.trans hdon.1, (congrArg Frame.mode this.1).trans hdon.2⟩) h.1
  | succ n =>
    simp only [runN, h1] at hn
    exact ⟨n, sE, hn, hdon, hE⟩
open Classical in
theorem good_acc (T : TameP P Gl Al) (hp : Part P Gl Al Sh s) (hg : Good P E d0 s) (hd : d0 ≤ s.w.drawn) : Acc (Nx P d0) s := by
  refine Classical.byContradiction fun hna => ?_
  let Bad := { s : St // ¬ Acc (Nx P d0) s ∧ Part P Gl Al Sh s ∧ Good P E d0 s ∧ d0 ≤ s.w.drawn }
  have nxt : ∀ b : Bad, ∃ c : Bad, Nx P d0 c.1 b.1 := fun ⟨s, h1, h2, h3, h4⟩ => by
    have : ∃ s1, Nx P d0 s1 s ∧ ¬ Acc (Nx P d0) s1 := Classical.byContradiction fun hno => h1 ⟨s, fun y hy => Classical.byContradiction fun hay => hno ⟨y, hy, hay⟩⟩
    obtain ⟨s1, hn, ha⟩ := this
    exact ⟨⟨s1, ha, nx_part T h2 hn, good_step T h2 h3 h4 hn, Nat.le_trans h4 (nx_local T h2 hn (τ := s1.w.tape) fun _ _ _ _ => rfl).2⟩, hn⟩
  let f : Nat → Bad := fun n => Nat.rec ⟨s, hna, hp, hg, hd⟩ (fun _ b => (nxt b).choose) n
  have hf : ∀ n, Nx P d0 (f (n + 1)).1 (f n).1 := fun n => (nxt (f n)).choose_spec
  have hmono : ∀ n, (f n).1.w.drawn ≤ (f (n + 1)).1.w.drawn := fun n => (nx_local T (f n).2.2.1 (hf n) (τ := (f (n + 1)).1.w.tape) fun _ _ _ _ => rfl).2
  have hmono' : ∀ n m, (f n).1.w.drawn ≤ (f (n + m)).1.w.drawn := fun n m => by
    induction m with
    | zero => exact Nat.le_refl _
    | succ m ih => exact Nat.le_trans ih (hmono (n + m))
  have hist : ∀ n m i q, d0 ≤ i → i < (f n).1.w.drawn → (f (n + m)).1.w.tape i q = (f n).1.w.tape i q := fun n m i q a b => by
    induction m with
    | zero => rfl
    | succ m ih => exact ((hf (n + m)).2.1 i q a (Nat.lt_of_lt_of_le b (hmono' n m))).trans ih
  have hist2 : ∀ n m i q, d0 ≤ i → i < (f n).1.w.drawn → i < (f m).1.w.drawn → (f m).1.w.tape i q = (f n).1.w.tape i q := fun n m i q a b c => by
    rcases Nat.le_total n m with h | h
    · have := hist n (m - n) i q a b
      rwa [show n + (m - n) = m by omega] at this
    · have := hist m (n - m) i q a c
      rw [show m + (n - m) = n by omega] at this
      exact this.symm
  let T0 : Nat → Question → Nat := fun i q => if h : ∃ m, i < (f m).1.w.drawn then (f h.choose).1.w.tape i q else 0
  have hT : ∀ n i q, d0 ≤ i → i < (f n).1.w.drawn → T0 i q = (f n).1.w.tape i q := fun n i q a b => by
    have hex : ∃ m, i < (f m).1.w.drawn := ⟨n, b⟩
    show (if h : ∃ m, i < (f m).1.w.drawn then (f h.choose).1.w.tape i q else 0) = _
    rw [dif_pos hex]
    exact hist2 n _ i q a b hex.choose_spec
  have hrun : ∀ n, runN P n (mach P ((f 0).1.ret T0)) = .next (mach P ((f n).1.ret T0)) := fun n => by
    induction n with
    | zero => rfl
    | succ n ih =>
      have h1 := (nx_local T (f n).2.2.1 (hf n) (τ := T0) fun i q a b => hT (n + 1) i q (Nat.le_trans (f n).2.2.2.2 a) b).1
      have : ∀ (k : Nat) (m m' m'' : Machine), runN P k m = .next m' → step P m' = .next m'' → runN P (k + 1) m = .next m'' := by
        intro k
        induction k with
        | zero => intro m m' m'' e1 e2; simp only [runN] at e1 ⊢; cases e1; rw [e2]
        | succ k ihk =>
          intro m m' m'' e1 e2
          rw [runN] at e1 ⊢
          cases hst : step P m with
          | next m1 => rw [hst] at e1; exact ihk m1 m' m'' e1 e2
          | _ => rw [hst] at e1; cases e1
      exact this n _ _ _ ih h1
  obtain ⟨N, sE, hN, hdon, _⟩ := (f 0).2.2.2.1 T0 fun i q a b => hT 0 i q a b
  rw [hrun N] at hN
  have := mach_inj (P := P) (by simpa using hN : mach P ((f N).1.ret T0) = mach P sE)
  exact (hf N).1 ⟨this.2.1.trans hdon.1, (congrArg Frame.mode this.1).trans hdon.2⟩
end
end Go.Proofs.YthjapmdikbmmkaaDoor
