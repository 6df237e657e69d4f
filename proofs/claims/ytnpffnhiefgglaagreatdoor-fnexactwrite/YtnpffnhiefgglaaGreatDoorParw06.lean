/-
  A part of the proof.
-/
import Derived.Test.YtnpffnhiefgglaaGreatDoorParw05
import Derived.Test.YtnpffnhiefgglaaGreatDoorParw02
import Derived.KernelRfl
namespace Go.Proofs.YtnpffnhiefgglaaGreatDoor
open Go Go.Conc
set_option maxRecDepth 100000
structure St where
  fr : Frame
  st : List Frame
  w : World
def St.ret (s : St) (τ : Nat → Question → Nat) : St := ⟨s.fr, s.st, World.ret s.w τ⟩
def mach (P : Program) (s : St) : Machine := lone s.fr (s.st ++ [c0 P]) s.w
def Don (s : St) : Prop := s.st = [] ∧ s.fr.mode = .returning
def Part (P : Program) (Gl : Globs) (Al : Nat → Bool) (Sh : Nat → Prop) (s : St) : Prop := ∃ L ρ fr' st' w', Sit L P Gl Al Sh ρ s.w w' ∧ RelF P Gl Al ρ s.fr fr' ∧ RelFs P Gl Al ρ s.st st'
def Good (P : Program) (E : St → Prop) (d0 : Nat) (s : St) : Prop := ∀ τ, (∀ i q, d0 ≤ i → i < s.w.drawn → τ i q = s.w.tape i q) → ∃ n sE, runN P n (mach P (s.ret τ)) = .next (mach P sE) ∧ Don sE ∧ E sE
def Nx (P : Program) (d0 : Nat) (s1 s : St) : Prop := ¬ Don s ∧ (∀ i q, d0 ≤ i → i < s.w.drawn → s1.w.tape i q = s.w.tape i q) ∧ (s1.fr.mode = .run ∨ s1.fr.mode = .returning) ∧ ∃ es, stepG P true (G s.fr (s.st ++ [c0 P])) (World.ret s.w s1.w.tape) = .go (G s1.fr (s1.st ++ [c0 P])) s1.w es
section
variable {P : Program} {Gl : Globs} {Al : Nat → Bool} {Sh : Nat → Prop} {E : St → Prop} {d0 : Nat} {s s1 : St}
theorem mach_inj {s s' : St} (h : mach P s = mach P s') : s.fr = s'.fr ∧ s.st = s'.st ∧ s.w = s'.w := by
  simp only [mach, lone, Machine.mk.injEq, Array.mk.injEq, List.cons.injEq, Goroutine.mk.injEq, and_true] at h
  exact ⟨h.2.1, List.append_inj_left' h.2.2 rfl, h.1⟩
theorem step_of_go {fr fr1 : Frame} {cs cs1 : List Frame} {w w1 : World} {es : Array Event} (h : stepG P true (G fr cs) w = .go (G fr1 cs1) w1 es) : step P (lone fr cs w) = .next (lone fr1 cs1 w1) := by
  refine step_lone_go ?_
  show (stepG P true (G fr cs) w).bare = _
  rw [h]
  rfl
theorem step_of_ended {fr : Frame} {cs : List Frame} {w w1 : World} {o : Outcome} {es : Array Event} (h : stepG P true (G fr cs) w = .ended o w1 es) : step P (lone fr cs w) = .ended o w1 := by
  refine step_lone_ended ?_
  show (stepG P true (G fr cs) w).bare = _
  rw [h]
  rfl
theorem nx_local (T : TameP P Gl Al) (hp : Part P Gl Al Sh s) (h : Nx P d0 s1 s) {τ : Nat → Question → Nat} (hτ : ∀ i q, s.w.drawn ≤ i → i < s1.w.drawn → τ i q = s1.w.tape i q) :
    step P (mach P (s.ret τ)) = .next (mach P (s1.ret τ)) ∧ s.w.drawn ≤ s1.w.drawn := by
  obtain ⟨hne, _, hm, es, he⟩ := h
  obtain ⟨L, ρ, fr', st', w', hs, hF, hS⟩ := hp
  have hs' : Sit 0 P Gl Al Sh ρ (World.ret s.w s1.w.tape) w' := { hs with rel := hs.rel.retape (τ := s1.w.tape) (τ' := w'.tape) (d := s.w.drawn) (d' := w'.drawn) (fun i q h => absurd h (Nat.not_lt_zero _)) }
  obtain ⟨h1, h2, h3⟩ := step_local (τ := τ) T hs' hF hS hne hm he hτ
  exact ⟨step_of_go h1, h3⟩
theorem nx_part (T : TameP P Gl Al) (hp : Part P Gl Al Sh s) (h : Nx P d0 s1 s) : Part P Gl Al Sh s1 := by
  obtain ⟨hne, _, hm, es, he⟩ := h
  obtain ⟨L, ρ, fr', st', w', hs, hF, hS⟩ := hp
  have hs' : Sit s1.w.drawn P Gl Al Sh ρ (World.ret s.w s1.w.tape) (follow (World.ret s.w s1.w.tape) w') := { hs with rel := (hs.rel.retape (L' := 0) (τ := s1.w.tape) (τ' := w'.tape) (d := s.w.drawn) (d' := w'.drawn) (fun i q h => absurd h (Nat.not_lt_zero _))).follow _ }
  have out := sim_step (base := []) (main := true) T hs' hF hS hne (fun g1 w1 es1 h1 => by rw [he] at h1; cases h1; exact Nat.le_refl _)
  cases out with
  | ended h1 => rw [he] at h1; cases h1
  | pan h1 hm1 _ _ =>
    rw [he] at h1
    simp only [GStep.go.injEq, G, Goroutine.mk.injEq] at h1
    rw [← h1.1.1] at hm1
    rcases hm with hm | hm <;> rw [hm] at hm1 <;> cases hm1
  | @go ρ1 fr1 fr1' st1 st1' w1 w1' es1 es1' h1 h2 hF1 hS1 hs1 hf1 he1 =>
    rw [he] at h1
    simp only [GStep.go.injEq, G, Goroutine.mk.injEq, and_true] at h1
    obtain ⟨⟨e1, e2⟩, e3, _⟩ := h1
    have e2' := List.append_inj_left' e2 rfl
    subst e1 e2' e3
    exact ⟨_, ρ1, fr1', st1', w1', hs1, hF1, hS1⟩
theorem good_step (T : TameP P Gl Al) (hp : Part P Gl Al Sh s) (hg : Good P E d0 s) (hd : d0 ≤ s.w.drawn) (h : Nx P d0 s1 s) : Good P E d0 s1 := by
  intro τ hτ
  obtain ⟨h1, h3⟩ := nx_local T hp h (τ := τ) fun i q a b => hτ i q (Nat.le_trans hd a) b
  obtain ⟨n, sE, hn, hdon, hE⟩ := hg τ fun i q a b => (hτ i q a (Nat.lt_of_lt_of_le b h3)).trans (h.2.1 i q a b)
  cases n with
  | zero =>
    have := mach_inj (by simpa [runN] using hn : mach P (s.ret τ) = mach P sE)
    exact absurd (show Don s from ⟨this.2.1.trans hdon.1, (congrArg Frame.mode this.1).trans hdon.2⟩) h.1
  | succ n =>
    simp only [runN, h1] at hn
    exact ⟨n, sE, hn, hdon, hE⟩
open Classical in
theorem good_acc (T : TameP P Gl Al) (hp : Part P Gl Al Sh s) (hg : Good P E d0 s) (hd : d0 ≤ s.w.drawn) : Acc (Nx P d0) s := by
  refine Classical.byContradiction fun hna => ?_
  let Bad := { s : St // ¬ Acc (Nx P d0) s ∧ Part P Gl Al Sh s ∧ Good P E d0 s ∧ d0 ≤ s.w.drawn }
  have nxt : ∀ b : Bad, ∃ c : Bad, Nx P d0 c.1 b.1 := fun ⟨s, h1, h2, h3, h4⟩ => by
    have : ∃ s1, Nx P d0 s1 s ∧ ¬ Acc (Nx P d0) s1 := Classical.byContradiction fun hno => h1 ⟨s, fun y hy => Classical.byContradiction fun hay => hno ⟨y, hy, hay⟩⟩
    obtain ⟨s1, hn, ha⟩ := this
    exact ⟨⟨s1, ha, nx_part T h2 hn, good_step T h2 h3 h4 hn, Nat.le_trans h4 (nx_local T h2 hn (τ := s1.w.tape) fun _ _ _ _ => rfl).2⟩, hn⟩
  let f : Nat → Bad := fun n => Nat.rec ⟨s, hna, hp, hg, hd⟩ (fun _ b => (nxt b).choose) n
  have hf : ∀ n, Nx P d0 (f (n + 1)).1 (f n).1 := fun n => (nxt (f n)).choose_spec
  have hmono : ∀ n, (f n).1.w.drawn ≤ (f (n + 1)).1.w.drawn := fun n => (nx_local T (f n).2.2.1 (hf n) (τ := (f (n + 1)).1.w.tape) fun _ _ _ _ => rfl).2
  have hmono' : ∀ n m, (f n).1.w.drawn ≤ (f (n + m)).1.w.drawn := fun n m => by
    induction m with
    | zero => exact Nat.le_refl _
    | succ m ih => exact Nat.le_trans ih (hmono (n + m))
  have hist : ∀ n m i q, d0 ≤ i → i < (f n).1.w.drawn → (f (n + m)).1.w.tape i q = (f n).1.w.tape i q := fun n m i q a b => by
    induction m with
    | zero => rfl
    | succ m ih => exact ((hf (n + m)).2.1 i q a (Nat.lt_of_lt_of_le b (hmono' n m))).trans ih
  have hist2 : ∀ n m i q, d0 ≤ i → i < (f n).1.w.drawn → i < (f m).1.w.drawn → (f m).1.w.tape i q = (f n).1.w.tape i q := fun n m i q a b c => by
    rcases Nat.le_total n m with h | h
    · have := hist n (m - n) i q a b
      rwa [show n + (m - n) = m by omega] at this
    · have := hist m (n - m) i q a c
      rw [show m + (n - m) = n by omega] at this
      exact this.symm
  let T0 : Nat → Question → Nat := fun i q => if h : ∃ m, i < (f m).1.w.drawn then (f h.choose).1.w.tape i q else 0
  have hT : ∀ n i q, d0 ≤ i → i < (f n).1.w.drawn → T0 i q = (f n).1.w.tape i q := fun n i q a b => by
    have hex : ∃ m, i < (f m).1.w.drawn := ⟨n, b⟩
    show (if h : ∃ m, i < (f m).1.w.drawn then (f h.choose).1.w.tape i q else 0) = _
    rw [dif_pos hex]
    exact hist2 n _ i q a b hex.choose_spec
  have hrun : ∀ n, runN P n (mach P ((f 0).1.ret T0)) = .next (mach P ((f n).1.ret T0)) := fun n => by
    induction n with
    | zero => rfl
    | succ n ih =>
      have h1 := (nx_local T (f n).2.2.1 (hf n) (τ := T0) fun i q a b => hT (n + 1) i q (Nat.le_trans (f n).2.2.2.2 a) b).1
      have : ∀ (k : Nat) (m m' m'' : Machine), runN P k m = .next m' → step P m' = .next m'' → runN P (k + 1) m = .next m'' := by
        intro k
        induction k with
        | zero => intro m m' m'' e1 e2; simp only [runN] at e1 ⊢; cases e1; rw [e2]
        | succ k ihk =>
          intro m m' m'' e1 e2
          rw [runN] at e1 ⊢
          cases hst : step P m with
          | next m1 => rw [hst] at e1; exact ihk m1 m' m'' e1 e2
          | _ => rw [hst] at e1; cases e1
      exact this n _ _ _ ih h1
  obtain ⟨N, sE, hN, hdon, _⟩ := (f 0).2.2.2.1 T0 fun i q a b => hT 0 i q a b
  rw [hrun N] at hN
  have := mach_inj (P := P) (by simpa using hN : mach P ((f N).1.ret T0) = mach P sE)
  exact (hf N).1 ⟨this.2.1.trans hdon.1, (congrArg Frame.mode this.1).trans hdon.2⟩
end
def okCodeT (P : Program) (Al : Als) (F : Nat → Bool) : Code → Bool
  | .skip | .exit _ | .ret | .label _ | .goto _ => true
  | .region _ ops _ => ops.toList.all fun o => okOperT P Al F o
  | .seq a b => okCodeT P Al F a && okCodeT P Al F b
  | .cond _ a b => okCodeT P Al F a && okCodeT P Al F b
  | .block _ b | .loop b | .scope b => okCodeT P Al F b
  | _ => false
def okItemT (P : Program) (Al : Als) (F : Nat → Bool) : Item → Bool
  | .code c | .inLoop c | .inScope c => okCodeT P Al F c
  | .inBlock _ => true
  | .inRegion ops _ => ops.toList.all fun o => okOperT P Al F o
  | _ => false
structure TameA (P : Program) (Al : Als) : Prop where
  body : ∀ f, Al f = true → ∃ fn body, P.funcs[f]? = some fn ∧ (fn.name == "runtime.NumGoroutine") = false ∧ fn.body = some body ∧ (Al.b f = false → okCodeT P Al (Al.f f) body = true) ∧ ∀ t, 200 ≤ t → Al.f f t = false
  ahead : P.follows .staticDataAhead = true
  ready : ∀ g, P.globals.size ≤ g → P.stepOf g = none
  res : ∀ f, Al f = true → Al.r f = true → ∃ fn t, P.funcs[f]? = some fn ∧ fn.results = #[.tmp t] ∧ Al.f f t = true
  ext : ExtT P Al
theorem TameA.bodies {P : Program} {Al : Als} (h : TameA P Al) : BodiesT P Al := fun f hf => by
  obtain ⟨fn, body, h1, h2, h3, _, _⟩ := h.body f hf
  exact ⟨fn, h1, h2, by simp [h3]⟩
structure FrT (P : Program) (Al : Als) (fr : Frame) : Prop where
  al : Al fr.fn = true
  ok : ∀ i ∈ fr.todo, okItemT P Al (Al.f fr.fn) i = true
  fns : ∀ t, Al.f fr.fn t = true → FnV Al (fr.eval (.tmp t))
  defers : fr.defers = []
  run : fr.mode = .run ∨ fr.mode = .returning
  kind : fr.kind = .normal
  round : fr.roundOf = none
inductive FrsT (P : Program) (Al : Als) : FuncId → List Frame → Prop
  | nil {g : FuncId} : FrsT P Al g []
  | cons {g : FuncId} {fr : Frame} {st : List Frame} (h : FrT P Al fr) (hr : fr.mode = .run) (ho : ∃ ops i rest k, fr.todo = .inRegion ops (i :: rest) :: k ∧ ∀ d, (ops[i]?).bind (·.dst) = some d → Al.f fr.fn d = true → Al.r g = true) (hs : FrsT P Al fr.fn st) : FrsT P Al g (fr :: st)
def Agrees (w w1 : World) (τ : Nat → Question → Nat) (d : Nat) : Prop := ∀ i q, w.drawn + i < w1.drawn → τ (d + i) q = w.tape (w.drawn + i) q
def topK (k : List Item) (ds : List Deferred) (fr : Frame) : List Frame → Frame
  | [] => { fr with todo := fr.todo ++ k, defers := ds }
  | _ :: _ => fr
def appL (k : List Item) (ds : List Deferred) : List Frame → List Frame
  | [] => []
  | x :: l => topK k ds x l :: appL k ds l
theorem topK_nat (k : List Item) (ds : List Deferred) (fr : Frame) (st : List Frame) : ∃ kx dx, ∀ fr' : Frame, fr'.defers = fr.defers → topK k ds fr' st = { fr' with todo := fr'.todo ++ kx, defers := dx } := by
  cases st with
  | nil => exact ⟨k, ds, fun _ _ => rfl⟩
  | cons y l =>
    refine ⟨[], fr.defers, fun fr' h => ?_⟩
    rw [List.append_nil, ← h]
    rfl
theorem topK_nil {fr : Frame} (st : List Frame) (h : fr.defers = []) : topK [] [] fr st = fr := by
  cases st with
  | nil =>
    show { fr with todo := fr.todo ++ [], defers := [] } = fr
    rw [List.append_nil, ← h]
  | cons y l => rfl
theorem appL_nil {P : Program} {Al : Als} {g : FuncId} {st : List Frame} (h : FrsT P Al g st) : appL [] [] st = st := by
  induction h with
  | nil => rfl
  | cons h _ _ _ ih => rw [appL, ih, topK_nil _ h.defers]
theorem finish_ext {fr : Frame} {ops : Array Oper} {i : Nat} {rest : List Nat} {k : List Item} (ht : fr.todo = .inRegion ops (i :: rest) :: k) (kx : List Item) (dx : List Deferred) (v : Value) : ({ fr with todo := fr.todo ++ kx, defers := dx } : Frame).finish v = { fr.finish v with todo := (fr.finish v).todo ++ kx, defers := dx } := by
  simp only [Frame.finish, ht, List.cons_append]
theorem finish_defers {fr : Frame} {ops : Array Oper} {i : Nat} {rest : List Nat} {k : List Item} (ht : fr.todo = .inRegion ops (i :: rest) :: k) (v : Value) : (fr.finish v).defers = fr.defers := by
  simp only [Frame.finish, ht]
theorem topK_finish {fr : Frame} {ops : Array Oper} {i : Nat} {rest : List Nat} {k : List Item} (ht : fr.todo = .inRegion ops (i :: rest) :: k) (k' : List Item) (ds : List Deferred) (st : List Frame) (v : Value) : (topK k' ds fr st).finish v = topK k' ds (fr.finish v) st := by
  obtain ⟨kx, dx, e⟩ := topK_nat k' ds fr st
  rw [e fr rfl, e (fr.finish v) (finish_defers ht v), finish_ext ht]
theorem gotoIn_ext {l : Nat} (kx : List Item) {k k' : List Item} (h : gotoIn l k = some k') : gotoIn l (k ++ kx) = some (k' ++ kx) := by
  induction k with
  | nil => cases h
  | cons x k ih =>
    cases x with
    | inScope body =>
      simp only [gotoIn, List.cons_append] at h ⊢
      cases hf : findLabel body l with
      | none => rw [hf] at h; exact ih h
      | some rest => rw [hf] at h; cases h; rfl
    | _ => exact ih h
theorem findLabel_ok {P : Program} {Al : Als} {F : Nat → Bool} {l : Nat} : ∀ {c r : Code}, findLabel c l = some r → okCodeT P Al F c = true → okCodeT P Al F r = true
  | .seq a b, r, h, ho => by
    simp only [okCodeT, Bool.and_eq_true] at ho
    simp only [findLabel] at h
    cases ha : findLabel a l with
    | some rest =>
      rw [ha] at h
      cases h
      simp only [okCodeT, Bool.and_eq_true]
      exact ⟨findLabel_ok ha ho.1, ho.2⟩
    | none => rw [ha] at h; exact findLabel_ok h ho.2
  | .label l', r, h, ho => by
    simp only [findLabel] at h
    split at h
    · cases h; rfl
    · cases h
  | .skip, _, h, _ | .exit _, _, h, _ | .ret, _, h, _ | .goto _, _, h, _ | .region _ _ _, _, h, _ | .cond _ _ _, _, h, _ | .block _ _, _, h, _ | .loop _, _, h, _ | .scope _, _, h, _ | .rangeFunc _ _ _ _, _, h, _ | .refuse _, _, h, _ => by cases h
theorem gotoIn_ok {P : Program} {Al : Als} {F : Nat → Bool} {l : Nat} {k k' : List Item} (h : gotoIn l k = some k') (ho : ∀ i ∈ k, okItemT P Al F i = true) : ∀ i ∈ k', okItemT P Al F i = true := by
  induction k with
  | nil => cases h
  | cons x k ih =>
    have more := fun h' => ih h' fun i hi => ho i (List.mem_cons_of_mem _ hi)
    cases x with
    | inScope body =>
      simp only [gotoIn] at h
      have hb : okCodeT P Al F body = true := ho _ List.mem_cons_self
      cases hf : findLabel body l with
      | none => rw [hf] at h; exact more h
      | some rest =>
        rw [hf] at h
        cases h
        intro i hi
        rcases List.mem_cons.1 hi with rfl | hi
        · exact findLabel_ok hf hb
        · exact ho i hi
    | _ => exact more h
theorem finish_fnT {fr : Frame} {ops : Array Oper} {i : Nat} {rest : List Nat} {k : List Item} (ht : fr.todo = .inRegion ops (i :: rest) :: k) (v : Value) : (fr.finish v).fn = fr.fn := by
  simp only [Frame.finish, ht]
theorem exitTo_ext {id : Nat} (kx : List Item) {l l' : List Item} (h : exitTo id l = some l') : exitTo id (l ++ kx) = some (l' ++ kx) := by
  induction l with
  | nil => cases h
  | cons x l ih =>
    cases x with
    | inBlock i =>
      simp only [exitTo, List.cons_append] at h ⊢
      split at h
      · rename_i e; rw [if_pos e]; cases h; rfl
      · rename_i e; rw [if_neg e]; exact ih h
    | _ => exact ih h
inductive OutA (P : Program) (Al : Als) (fr : Frame) (st : List Frame) (w : World) : Prop
  | ended {o : Outcome} {w1 : World} {es : Array Event} (h : stepG P true (G fr (st ++ [c0 P])) w = .ended o w1 es) : OutA P Al fr st w
  | pan {fr1 : Frame} {w1 : World} {es : Array Event} {c : List PanicEntry} (h : stepG P true (G fr (st ++ [c0 P])) w = .go (G fr1 (st ++ [c0 P])) w1 es) (hm : fr1.mode = .panicking c) (hd : fr1.defers = []) (hf : Al fr1.fn = true) : OutA P Al fr st w
  | go {fr1 : Frame} {st1 : List Frame} {w1 : World} {es : Array Event} (hF : FrT P Al fr1) (hS : FrsT P Al fr1.fn st1) (ho : On w w1) (hR : CellsTo P.globals.size w1) (he : ∀ e ∈ es, EvO w1.heap.size e)
      (h : ∀ τ d D, D + w.drawn = d + w1.drawn → Agrees w w1 τ d → ∀ main base, stepG P main (G fr (st ++ base)) (atw w τ d) = .go (G fr1 (st1 ++ base)) (atw w1 τ D) es)
      (hK : ¬ (st = [] ∧ fr.todo = []) → ∀ k ds τ d D, D + w.drawn = d + w1.drawn → Agrees w w1 τ d → ∀ main base, stepG P main (G (topK k ds fr st) (appL k ds st ++ base)) (atw w τ d) = .go (G (topK k ds fr1 st1) (appL k ds st1 ++ base)) (atw w1 τ D) es) : OutA P Al fr st w
theorem OutA.of {P : Program} {Al : Als} {fr : Frame} {st : List Frame} {w : World} (hF0 : FrT P Al fr) (hS0 : FrsT P Al fr.fn st) {fr1 : Frame} {st1 : List Frame} {w1 : World} {es : Array Event} (hF : FrT P Al fr1) (hS : FrsT P Al fr1.fn st1) (ho : On w w1) (hR : CellsTo P.globals.size w1) (he : ∀ e ∈ es, EvO w1.heap.size e)
    (h : ∀ k ds τ d D, D + w.drawn = d + w1.drawn → Agrees w w1 τ d → ∀ main base, stepG P main (G (topK k ds fr st) (appL k ds st ++ base)) (atw w τ d) = .go (G (topK k ds fr1 st1) (appL k ds st1 ++ base)) (atw w1 τ D) es) : OutA P Al fr st w :=
  .go hF hS ho hR he (fun τ d D hD hτ main base => by
    have := h [] [] τ d D hD hτ main base
    rw [topK_nil st hF0.defers, topK_nil st1 hF.defers, appL_nil hS0, appL_nil hS] at this
    exact this) fun _ => h
section
variable {P : Program} {Al : Als} {w w1 : World} {fr : Frame} {st : List Frame}
theorem FrT.finish (h : FrT P Al fr) {ops : Array Oper} {i : Nat} {rest : List Nat} {k : List Item} (ht : fr.todo = .inRegion ops (i :: rest) :: k) (v : Value) (hv : ∀ d, (ops[i]?).bind (·.dst) = some d → Al.f fr.fn d = true → FnV Al v) : FrT P Al (fr.finish v) := by
  have e : fr.finish v = { fr with tmps := match (ops[i]?).bind (·.dst) with | some d => fr.tmps.setIfInBounds d v | none => fr.tmps, todo := .inRegion ops rest :: k } := by simp only [Frame.finish, ht]; rfl
  have hk := h.ok
  rw [ht] at hk
  rw [e]
  refine ⟨h.al, fun x hx => ?_, fun t hF => ?_, h.defers, h.run, h.kind, h.round⟩
  · rcases List.mem_cons.1 hx with rfl | hx
    · exact hk (.inRegion ops (i :: rest)) List.mem_cons_self
    · exact hk x (List.mem_cons_of_mem _ hx)
  · have old := h.fns t hF
    show FnV Al ((match (ops[i]?).bind (·.dst) with | some d => fr.tmps.setIfInBounds d v | none => fr.tmps).getD t undef)
    cases hd : (ops[i]?).bind (·.dst) with
    | none => exact old
    | some d =>
      simp only
      by_cases e : d = t
      · subst e
        by_cases hl : d < fr.tmps.size
        · simp only [Array.getD_eq_getD_getElem?, Array.getElem?_setIfInBounds_self_of_lt hl, Option.getD_some]
          exact hv d hd hF
        · refine .inl ?_
          simp [Array.getD_eq_getD_getElem?, hl]
      · have : (fr.tmps.setIfInBounds d v).getD t undef = fr.tmps.getD t undef := by
          simp only [Array.getD_eq_getD_getElem?, Array.getElem?_setIfInBounds_ne e]
        rw [this]
        exact old
theorem FrT.enter (T : TameA P Al) {f : FuncId} (hf : Al f = true) (hb : Al.b f = false) (x : Array Value) (hx : ∀ t, t < x.size → t < 200 → Al.f f t = false) : FrT P Al (Frame.enter P f x .normal) := by
  obtain ⟨fn, body, h1, h2, h3, h4, h5⟩ := T.body f hf
  refine ⟨hf, fun i hi => ?_, fun t hF => ?_, rfl, .inl rfl, rfl, rfl⟩
  · simp only [Frame.enter, h1, Option.bind_some, h3, Option.getD_some, List.mem_singleton] at hi
    subst hi
    exact h4 hb
  · have hF' : Al.f f t = true := hF
    have ht : t < 200 := Nat.lt_of_not_le fun h => by rw [h5 t h] at hF'; cases hF'
    have hge : x.size ≤ t := Nat.le_of_not_lt fun h => by rw [hx t h ht] at hF'; cases hF'
    refine .inl ?_
    show (x ++ Array.replicate (((P.funcs[f]?).map (·.ntmps)).getD 0 - x.size) undef).getD t undef = undef
    rw [Array.getD_eq_getD_getElem?, Array.getElem?_append_right hge, Array.getElem?_replicate]
    split <;> rfl
theorem apply_stop (T : TameA P Al) {cs : List Frame} {s : Sem Next} {x : Halt} {es : Array Event} (hk : fr.kind = .normal) (hx : StopOk P.globals.size x) (h : s.runT P w #[] = (.halt x w1, es)) : (∃ o es', stepG.apply P true fr cs none s w = .ended o w1 es') ∨ ∃ v, stepG.apply P true fr cs none s w = .go (G (fr.raise [{ v, recovered := false }]) cs) w1 (seen P fr.fn es) := by
  rcases hx with hx | ⟨g, rfl, hg⟩
  · cases x with
    | panic v => exact .inr ⟨v, by simp only [stepG.apply, if_true, h, hk, GStep.after]; rw [if_neg (by decide), Array.append_empty]; rfl⟩
    | stuck m => exact .inl ⟨_, _, by simp only [stepG.apply, if_true, h, hk, GStep.after]; rfl⟩
    | unsupported u =>
      cases u with
      | initOrder g => cases hx
      | _ => exact .inl ⟨_, _, by simp only [stepG.apply, if_true, h, hk, GStep.after]; rfl⟩
    | _ => cases hx
  · exact .inl ⟨_, _, by simp only [stepG.apply, if_true, h, hk, early, T.ahead, T.ready g hg, Bool.not_true, GStep.after]; rfl⟩
theorem dst_enter {F : Nat → Bool} {ev : Operand → Value} (hFn : ∀ f, ev (.func f) = .func (.func f) #[] #[]) (hB : BodiesT P Al) (o : Oper) (hop : okOpT P Al F o.op = true) (ho : okDst Al F o = true) {d : Nat} (hd : o.dst = some d) {f : FuncId} {x : Array Value} {es : Array Event} (hr : (execOp ev o).runT P w #[] = (.ok (.enter f x) w1, es)) (hFd : F d = true) : Al.r f = true := by
  obtain ⟨dst, op, type, pos, after, guard⟩ := o
  simp only at hd
  subst hd
  simp only [okDst, hFd, Bool.not_true, Bool.false_or] at ho
  have key : ∀ y, (execOp ev ⟨some d, op, type, pos, after, guard⟩) = .pure (.value (ev y)) → False := fun y e => by
    rw [e] at hr
    simp only [Sem.runT, Prod.mk.injEq, Result.ok.injEq] at hr
    cases hr.1.1
  split at ho
  · rename_i h; exact (key (.func h) rfl).elim
  · rename_i h; exact (key (.func h) rfl).elim
  · rename_i u; exact (key (.tmp u) rfl).elim
  · rename_i u; exact (key (.tmp u) rfl).elim
  · exact (key (.const .nilFunc) rfl).elim
  · rename_i h x y
    have e : (execOp ev ⟨some d, .makeFunc (.func h) x y, type, pos, after, guard⟩) = .pure (.value (.func (.func h) (x.map ev) (y.map ev))) := rfl
    rw [e] at hr
    simp only [Sem.runT, Prod.mk.injEq, Result.ok.injEq] at hr
    cases hr.1.1
  · rename_i c
    obtain ⟨callee, args, argTypes⟩ := c
    split at ho
    · rename_i h hc
      simp only at hc
      subst hc
      simp only [Bool.and_eq_true, Bool.not_eq_true'] at ho
      simp only [okOpT, okCallT, ho.2, Bool.or_false, Bool.and_eq_true] at hop
      have e : (execOp ev ⟨some d, .call ⟨.value (.func h), args, argTypes⟩, type, pos, after, guard⟩) = (do let x ← Deferred.ofValue (ev (.func h)) (args.map ev); invoke x.target x.args) := rfl
      rw [e, hFn] at hr
      have e2 : (do let x ← Deferred.ofValue (.func (.func h) #[] #[]) (args.map ev); invoke x.target x.args : Sem Next) = callFunc h ((#[] ++ args.map ev) ++ #[]) := rfl
      rw [e2, run_entered hB hop.1.1] at hr
      simp only [Prod.mk.injEq, Result.ok.injEq, Next.enter.injEq] at hr
      rw [← hr.1.1.1]
      exact ho.1
    · cases ho
  · cases ho
theorem out_step (T : TameA P Al) (hR : CellsTo P.globals.size w) (hF : FrT P Al fr) (hS : FrsT P Al fr.fn st) (hne : ¬ (st = [] ∧ fr.mode = .returning)) : OutA P Al fr st w := by
  have one : ∀ {d D : Nat}, D + w.drawn = d + w.drawn → D = d := fun h => by omega
  have mv : ∀ (t : List Item) (m : FrameMode), (∀ i ∈ t, okItemT P Al (Al.f fr.fn) i = true) → (m = .run ∨ m = .returning) → (∀ kx dx main cs w, stepG P main (G { fr with todo := fr.todo ++ kx, defers := dx } cs) w = .go (G { fr with todo := t ++ kx, mode := m, defers := dx } cs) w #[]) → OutA P Al fr st w := fun t m hok hm h1 =>
    .of (fr1 := { fr with todo := t, mode := m }) (st1 := st) (w1 := w) (es := #[]) hF hS ⟨hF.al, hok, hF.fns, hF.defers, hm, hF.kind, hF.round⟩ hS (.refl w) hR (by simp) fun k ds τ d D hD _ main base => by
      obtain rfl := one hD
      obtain ⟨kx, dx, e⟩ := topK_nat k ds fr st
      rw [e fr rfl, e { fr with todo := t, mode := m } rfl]
      exact h1 kx dx main _ _
  have hok := hF.ok
  rcases hF.run with hrun | hret
  · have S1 : ∀ kx dx main cs w, stepG P main (G { fr with todo := fr.todo ++ kx, defers := dx } cs) w = stepG.exec P main true { fr with todo := fr.todo ++ kx, defers := dx } cs none w := fun kx dx main cs w => by simp only [stepG, G, hrun]
    have S0 : ∀ main cs w, stepG P main (G fr cs) w = stepG.exec P main true fr cs none w := fun main cs w => by simp only [stepG, G, hrun]
    cases ht : fr.todo with
    | nil =>
      refine .go (fr1 := { fr with todo := [], mode := .returning }) (st1 := st) (w1 := w) (es := #[]) ⟨hF.al, by simp, hF.fns, hF.defers, .inr rfl, hF.kind, hF.round⟩ hS (.refl w) hR (by simp) (fun τ d D hD _ main base => ?_) fun hne2 k ds τ d D hD _ main base => ?_
      · obtain rfl := one hD
        simp [stepG, stepG.exec, G, hrun, ht, hF.round]
      · obtain rfl := one hD
        cases st with
        | nil => exact absurd ⟨rfl, ht⟩ hne2
        | cons y l =>
          show stepG P main (G fr _) _ = .go (G { fr with todo := [], mode := .returning } _) _ _
          simp [stepG, stepG.exec, G, hrun, ht, hF.round]
    | cons x k =>
      rw [ht] at hok
      have hx := hok x List.mem_cons_self
      have hk : ∀ i ∈ k, okItemT P Al (Al.f fr.fn) i = true := fun i hi => hok i (List.mem_cons_of_mem _ hi)
      have go1 : ∀ t, (∀ kx dx main cs w, stepG.exec P main true { fr with todo := fr.todo ++ kx, defers := dx } cs none w = .go { frame := { fr with todo := t ++ kx, defers := dx }, callers := cs, status := .running, dying := none } w) → (∀ i ∈ t, okItemT P Al (Al.f fr.fn) i = true) → OutA P Al fr st w := fun t h1 h3 =>
        mv t .run h3 (.inl rfl) fun kx dx main cs w => by rw [S1, h1]; simp only [G, ← hrun]
      cases x with
      | inBlock id => exact go1 k (fun kx dx main cs w => by simp only [stepG.exec, ht, List.cons_append]) hk
      | inScope b => exact go1 k (fun kx dx main cs w => by simp only [stepG.exec, ht, List.cons_append]) hk
      | inLoop b => exact go1 (.code b :: .inLoop b :: k) (fun kx dx main cs w => by simp only [stepG.exec, ht, List.cons_append]) (by
          intro i hi
          rcases List.mem_cons.1 hi with rfl | hi
          · exact hx
          · rcases List.mem_cons.1 hi with rfl | hi
            · exact hx
            · exact hk i hi)
      | inRegion ops l =>
        cases l with
        | nil => exact go1 k (fun kx dx main cs w => by simp only [stepG.exec, ht, List.cons_append]) hk
        | cons i rest =>
          by_cases hwn : (((ops[i]?).map (Region.wanted · (yielded ops fr.tmps))).getD false) = true
          · cases ho : ops[i]? with
            | none => rw [ho] at hwn; cases hwn
            | some o =>
              have hoo : okOperT P Al (Al.f fr.fn) o = true := List.all_eq_true.1 hx o (by simpa using Array.mem_of_getElem? ho)
              simp only [okOperT, Bool.and_eq_true] at hoo
              rw [ho] at hwn
              have A1 : ∀ kx dx main cs w, stepG P main (G { fr with todo := fr.todo ++ kx, defers := dx } cs) w = stepG.apply P true { fr with todo := fr.todo ++ kx, defers := dx } cs none (execOp fr.eval o) w := fun kx dx main cs w => by
                rw [S1]
                simp only [stepG.exec, ht, List.cons_append, stepG.oper, Frame.oper?, ho, hF.round]
                rw [if_pos hwn]
                rfl
              have A0 : ∀ main cs w, stepG P main (G fr cs) w = stepG.apply P true fr cs none (execOp fr.eval o) w := fun main cs w => by
                have := A1 [] fr.defers main cs w
                rw [List.append_nil] at this
                exact this
              have stop : ∀ {y : Halt} {w2 : World} {es : Array Event}, StopOk P.globals.size y → (execOp fr.eval o).runT P w #[] = (.halt y w2, es) → OutA P Al fr st w := fun {y w2 es} hy hr => by
                rcases apply_stop (cs := st ++ [c0 P]) T hF.kind hy hr with ⟨o1, es', h1⟩ | ⟨v, h1⟩
                · exact .ended ((A0 true _ w).trans h1)
                · exact .pan ((A0 true _ w).trans h1) (c := [{ v, recovered := false }]) (by simp [Frame.raise, hrun]) (by simp [Frame.raise, hrun, hF.defers]) (by simp [Frame.raise, hrun, hF.al])
              by_cases hp : ∃ x, o.op = .panic x
              · obtain ⟨x, hx⟩ := hp
                have hd : Dies P (execOp fr.eval o) := by
                  obtain ⟨dst, op, type, pos, after, guard⟩ := o
                  simp only at hx
                  subst hx
                  exact Dies.bind (dies_panic _)
                obtain ⟨y, w2, es, hr, hy⟩ := run_dies _ hd w #[] hR
                exact stop hy hr
              · have hh := hush_execOp (ev := fr.eval) (fun f => rfl) hF.fns T.bodies T.ext o hoo.1 fun x hx => hp ⟨x, hx⟩
                have hc := run_comes P _ hh w #[] hR
                have hon := On.run P (execOp fr.eval o) w #[]
                have hlow := run_low P _ hh w #[]
                have hat := run_at P _ hh w #[]
                cases hr : (execOp fr.eval o).runT P w #[] with
                | mk r es0 =>
                  rw [hr] at hc hon hlow hat
                  cases r with
                  | ok n w2 =>
                    have hev : ∀ e ∈ seen P fr.fn es0, EvO w2.heap.size e := fun e he => (hlow e (seen_sub _ _ he)).elim (fun h => by simp at h) id
                    cases n with
                    | value v =>
                      exact .of (st1 := st) hF hS (hF.finish ht v fun d hd hFd => dst_fn (ev := fr.eval) (fun f => rfl) rfl hF.fns T.bodies o hoo.1 hoo.2 (by rw [ho] at hd; exact hd) hFd hr) (by rw [finish_fnT ht]; exact hS) hon hc.1 hev fun kk ds τ d D hD hτ main base => by
                        obtain ⟨kx, dx, e⟩ := topK_nat kk ds fr st
                        rw [← topK_finish ht, e fr rfl]
                        exact (A1 kx dx main _ _).trans (apply_value hF.kind (hat τ d D hD hτ))
                    | skip =>
                      exact .of (st1 := st) hF hS (hF.finish ht undef fun _ _ _ => .inl rfl) (by rw [finish_fnT ht]; exact hS) hon hc.1 hev fun kk ds τ d D hD hτ main base => by
                        obtain ⟨kx, dx, e⟩ := topK_nat kk ds fr st
                        rw [← topK_finish ht, e fr rfl]
                        exact (A1 kx dx main _ _).trans (apply_skip hF.kind (hat τ d D hD hτ))
                    | enter f x =>
                      exact .of (st1 := fr :: st) hF hS (FrT.enter T hc.2.1 hc.2.2.1 x hc.2.2.2) (.cons hF hrun ⟨_, _, _, _, ht, fun d hd hFd => dst_enter (ev := fr.eval) (fun f => rfl) T.bodies o hoo.1 hoo.2 (by rw [ho] at hd; exact hd) hr hFd⟩ hS) hon hc.1 hev fun kk ds τ d D hD hτ main base => by
                        obtain ⟨kx, dx, e⟩ := topK_nat kk ds fr st
                        show stepG P main (G (topK kk ds fr st) _) _ = .go (G _ (topK kk ds fr st :: appL kk ds st ++ base)) _ _
                        rw [e fr rfl]
                        exact (A1 kx dx main _ _).trans (apply_enter (ops := ops) (i := i) (rest := rest) (k := k ++ kx) (by simp only [ht, List.cons_append]) hF.kind (hat τ d D hD hτ))
                    | _ => exact hc.2.elim
                  | halt y w2 => exact stop hc.2 hr
          · refine .of (fr1 := fr.finish undef) (st1 := st) (w1 := w) (es := #[]) hF hS (hF.finish ht undef fun _ _ _ => .inl rfl) (by rw [finish_fnT ht]; exact hS) (.refl w) hR (by simp) fun kk ds τ d D hD _ main base => ?_
            obtain rfl := one hD
            obtain ⟨kx, dx, e⟩ := topK_nat kk ds fr st
            rw [← topK_finish ht, e fr rfl, S1]
            simp only [stepG.exec, ht, List.cons_append, hwn, G]
            rfl
      | code c =>
        cases c with
        | skip => exact go1 k (fun kx dx main cs w => by simp only [stepG.exec, ht, List.cons_append]) hk
        | label l => exact go1 k (fun kx dx main cs w => by simp only [stepG.exec, ht, List.cons_append]) hk
        | goto l =>
          cases he : gotoIn l k with
          | none => exact .ended (by
              refine (S0 true (st ++ [c0 P]) w).trans ?_
              simp only [stepG.exec, ht, he, Option.elim, hF.round]; rfl)
          | some k' => exact go1 k' (fun kx dx main cs w => by simp only [stepG.exec, ht, List.cons_append, gotoIn_ext kx he, Option.elim]) (gotoIn_ok he hk)
        | scope b => exact go1 (.code b :: .inScope b :: k) (fun kx dx main cs w => by simp only [stepG.exec, ht, List.cons_append]) (by
            intro i hi
            rcases List.mem_cons.1 hi with rfl | hi
            · exact hx
            · rcases List.mem_cons.1 hi with rfl | hi
              · exact hx
              · exact hk i hi)
        | ret =>
          refine mv (.code .ret :: k) .returning (by rw [← ht]; exact hF.ok) (.inr rfl) fun kx dx main cs w => ?_
          rw [S1]; simp only [stepG.exec, ht, List.cons_append, hF.round, G]; rfl
        | seq a b =>
          simp only [okItemT, okCodeT, Bool.and_eq_true] at hx
          exact go1 (.code a :: .code b :: k) (fun kx dx main cs w => by simp only [stepG.exec, ht, List.cons_append]) (by
            intro i hi
            rcases List.mem_cons.1 hi with rfl | hi
            · exact hx.1
            · rcases List.mem_cons.1 hi with rfl | hi
              · exact hx.2
              · exact hk i hi)
        | block id b => exact go1 (.code b :: .inBlock id :: k) (fun kx dx main cs w => by simp only [stepG.exec, ht, List.cons_append]) (by
            intro i hi
            rcases List.mem_cons.1 hi with rfl | hi
            · exact hx
            · rcases List.mem_cons.1 hi with rfl | hi
              · rfl
              · exact hk i hi)
        | loop b => exact go1 (.code b :: .inLoop b :: k) (fun kx dx main cs w => by simp only [stepG.exec, ht, List.cons_append]) (by
            intro i hi
            rcases List.mem_cons.1 hi with rfl | hi
            · exact hx
            · rcases List.mem_cons.1 hi with rfl | hi
              · exact hx
              · exact hk i hi)
        | cond c a b =>
          simp only [okItemT, okCodeT, Bool.and_eq_true] at hx
          have E1 : ∀ kx dx, ({ fr with todo := fr.todo ++ kx, defers := dx } : Frame).eval c = fr.eval c := fun _ _ => rfl
          cases hv : fr.eval c with
          | bool z =>
            exact go1 (.code (if z then a else b) :: k) (fun kx dx main cs w => by
              have := E1 kx dx
              rw [ht, List.cons_append] at this
              simp only [stepG.exec, ht, List.cons_append, this, hv]) (by
              intro i hi
              rcases List.mem_cons.1 hi with rfl | hi
              · cases z
                · exact hx.2
                · exact hx.1
              · exact hk i hi)
          | _ => exact .ended (by
              refine (S0 true (st ++ [c0 P]) w).trans ?_
              simp only [stepG.exec, ht, hv]; rfl)
        | exit id =>
          cases he : exitTo id k with
          | none => exact .ended (by
              refine (S0 true (st ++ [c0 P]) w).trans ?_
              simp only [stepG.exec, ht, he, Option.elim, hF.round]; rfl)
          | some k' => exact go1 k' (fun kx dx main cs w => by simp only [stepG.exec, ht, List.cons_append, exitTo_ext kx he, Option.elim]) fun i hi => hk i (exitTo_sub he i hi)
        | region id ops draw =>
          cases draw with
          | false => exact go1 (.inRegion ops (List.range ops.size) :: k) (fun kx dx main cs w => by simp only [stepG.exec, ht, List.cons_append]; rfl) (by
              intro i hi
              rcases List.mem_cons.1 hi with rfl | hi
              · exact hx
              · exact hk i hi)
          | true =>
            have B : ∀ kx dx main cs w, stepG P main (G { fr with todo := fr.todo ++ kx, defers := dx } cs) w = .go (G { fr with todo := .inRegion ops (Region.schedule (P.follows .mixedOrders) ops (w.tape w.drawn (.order fr.fn id))) :: k ++ kx, defers := dx } cs) { w with drawn := w.drawn + 1 } #[] := fun kx dx main cs w => by
              rw [S1]
              simp only [stepG.exec, ht, List.cons_append, G]
              rfl
            refine .of (fr1 := { fr with todo := .inRegion ops (Region.schedule (P.follows .mixedOrders) ops (w.tape w.drawn (.order fr.fn id))) :: k }) (st1 := st) (w1 := { w with drawn := w.drawn + 1 }) (es := #[]) hF hS ⟨hF.al, ?_, hF.fns, hF.defers, .inl hrun, hF.kind, hF.round⟩ hS ⟨rfl, Nat.le_succ _, Nat.le_refl _⟩ hR (by simp) fun kk ds τ d D hD hτ main base => ?_
            · intro i hi
              rcases List.mem_cons.1 hi with rfl | hi
              · exact hx
              · exact hk i hi
            · have e : (atw w τ d).tape (atw w τ d).drawn (.order fr.fn id) = w.tape w.drawn (.order fr.fn id) := hτ 0 _ (Nat.lt_succ_self _)
              have hD' : D = d + 1 := by
                have : D + w.drawn = d + (w.drawn + 1) := hD
                omega
              subst hD'
              obtain ⟨kx, dx, e2⟩ := topK_nat kk ds fr st
              rw [e2 fr rfl, e2 { fr with todo := .inRegion ops (Region.schedule (P.follows .mixedOrders) ops (w.tape w.drawn (.order fr.fn id))) :: k } rfl, B, e]
              rfl
        | _ => cases hx
      | _ => cases hx
  · cases hS with
    | nil => exact absurd ⟨rfl, hret⟩ hne
    | @cons _ fr2 st2 h2 hr2 ho2 hs2 =>
      obtain ⟨ops, i, rest, k, ht2, hdst⟩ := id ho2
      obtain ⟨fn, body, f1, f2, f3, f4, _⟩ := T.body fr.fn hF.al
      have hh : Hush P (fun _ => True) (results fn fr.tmps) := hush_results fn fr.tmps
      have hc := run_comes P _ hh w #[] hR
      have hon := On.run P (results fn fr.tmps) w #[]
      have hlow := run_low P _ hh w #[]
      have hat := run_at P _ hh w #[]
      have B : ∀ main (fr2 : Frame) cs {w w1 : World} {v : Value} {es : Array Event}, (results fn fr.tmps).runT P w #[] = (.ok v w1, es) → stepG P main (G fr (fr2 :: cs)) w = .go (G (fr2.finish v) cs) w1 (seen P fr.fn es) := fun main fr2 cs {w w1 v es} hr => by
        simp only [stepG, G, hret, unwind, hF.defers, f1, hr, GStep.after, doReturn, hF.kind, Array.append_empty]
      cases hr : (results fn fr.tmps).runT P w #[] with
      | mk r es0 =>
        rw [hr] at hc hon hlow hat
        cases r with
        | ok v w2 =>
          exact .of (st1 := st2) hF (.cons h2 hr2 ho2 hs2) (h2.finish ht2 v fun d hd hFd => by
            obtain ⟨fn', t, e1, e2, e3⟩ := T.res fr.fn hF.al (hdst d hd hFd)
            rw [f1] at e1
            cases e1
            have e4 : v = fr.tmps.getD t undef := by
              have := congrArg Prod.fst hr
              rw [Sem.runT_fst] at this
              have h2 := this.symm
              simp [results, e2] at h2
              rw [h2.1, Array.getD_eq_getD_getElem?]
            rw [e4]
            exact hF.fns t e3) (by rw [finish_fnT ht2]; exact hs2) hon hc.1 (fun e he => (hlow e (seen_sub _ _ he)).elim (fun h => by simp at h) id) fun kk ds τ d D hD hτ main base => by
            show stepG P main (G fr (topK kk ds fr2 st2 :: (appL kk ds st2 ++ base))) _ = _
            rw [← topK_finish ht2]
            exact B main _ _ (hat τ d D hD hτ)
        | halt y w2 =>
          cases y <;> exact .ended (by simp only [stepG, G, hret, unwind, hF.defers, f1, hr, GStep.after]; rfl)
end
section
variable {P : Program} {Gl : Globs} {Al : Nat → Bool} {Sh : Nat → Prop} {E : St → Prop} {d0 : Nat} {s s1 : St}
theorem door_starts : "fmt's door of nobody".startsWith "fmt's door" = true := by kernel_rfl
theorem pan_never (T : TameP P Gl Al) (n : Nat) : ∀ (fr : Frame) (st : List Frame) (w : World) (c : List PanicEntry), fr.mode = .panicking c → fr.defers = [] → Al fr.fn = true → (∀ f ∈ st, f.mode = .run ∧ f.defers = [] ∧ Al f.fn = true) → ∀ sE, Don sE → runN P n (lone fr (st ++ [c0 P]) w) ≠ .next (mach P sE) := by
  induction n with
  | zero =>
    intro fr st w c hm hd ha hst sE hdon h
    have h' : mach P ⟨fr, st, w⟩ = mach P sE := by simpa [runN, mach] using h
    have := mach_inj h'
    have hx : fr.mode = .returning := (congrArg Frame.mode this.1).trans hdon.2
    rw [hm] at hx
    cases hx
  | succ n ih =>
    intro fr st w c hm hd ha hst sE hdon h
    obtain ⟨fn, body, f1, _⟩ := T.body fr.fn ha
    have hcat : fr.catches P = false := by simp [Frame.catches, f1]
    cases st with
    | cons f2 st2 =>
      have hg : stepG P true (G fr (f2 :: st2 ++ [c0 P])) w = .go (G (f2.raise c) (st2 ++ [c0 P])) w #[] := by
        simp only [stepG, G, hm, unwind, hd, hcat, List.cons_append]
        rfl
      rw [runN, step_of_go hg] at h
      obtain ⟨g1, g2, g3⟩ := hst f2 List.mem_cons_self
      exact ih (f2.raise c) st2 w c (by simp [Frame.raise, g1]) (by simp [Frame.raise, g1, g2]) (by simp [Frame.raise, g1, g3]) (fun f hf => hst f (List.mem_cons_of_mem _ hf)) sE hdon h
    | nil =>
      have hg : stepG P true (G fr ([] ++ [c0 P])) w = .go (G ((c0 P).raise c) []) w #[] := by
        simp only [stepG, G, hm, unwind, hd, hcat, List.nil_append]
        rfl
      rw [runN, step_of_go hg] at h
      have h2 : ∃ o w1 es, stepG P true (G ((c0 P).raise c) []) w = .ended o w1 es := by
        have e1 : ((c0 P).raise c).mode = .panicking c := rfl
        have e2 : ((c0 P).raise c).defers = [] := rfl
        have e3 : ((c0 P).raise c).catches P = true := by
          have : P.funcs[P.funcs.size]? = none := by simp
          simp only [Frame.catches, Frame.raise, c0, this]
          exact door_starts
        refine ⟨_, _, _, by simp only [stepG, G, e1, unwind, e2, e3]; rfl⟩
      obtain ⟨o, w1, es, h2⟩ := h2
      cases n with
      | zero =>
        simp only [runN] at h
        have h3 : lone ((c0 P).raise c) [] w = mach P sE := by simpa using h
        simp only [mach, lone, Machine.mk.injEq, Array.mk.injEq, List.cons.injEq, Goroutine.mk.injEq, and_true] at h3
        have := congrArg List.length h3.2.2
        simp at this
      | succ n => simp only [runN, step_of_ended h2] at h; cases h
theorem don_zero (T : TameP P Gl Al) (hp : Part P Gl Al Sh s) (hd : Don s) {n : Nat} {sE : St} (h : runN P n (mach P s) = .next (mach P sE)) : sE.fr = s.fr ∧ sE.w = s.w := by
  cases n with
  | zero =>
    have := mach_inj (by simpa [runN] using h : mach P s = mach P sE)
    exact ⟨this.1.symm, this.2.2.symm⟩
  | succ n =>
    exfalso
    obtain ⟨L, ρ, fr', st', w', hs, hF, hS⟩ := hp
    obtain ⟨fn, body, f1, f2, f3, f4⟩ := T.body s.fr.fn hF.al
    have hm : mach P s = lone s.fr [c0 P] s.w := by simp [mach, hd.1]
    rw [hm] at h
    cases hr : (results fn s.fr.tmps).runT P s.w #[] with
    | mk r es0 =>
      cases r with
      | ok v w2 =>
        have hg : stepG P true (G s.fr [c0 P]) s.w = .go (G ((c0 P).finish v) []) w2 (seen P s.fr.fn es0) := by
          simp only [stepG, G, hd.2, unwind, hF.defers, f1, hr, GStep.after, doReturn, hF.kind, Array.append_empty]
        rw [runN, step_of_go hg] at h
        have h2 : ∃ o w1 es, stepG P true (G ((c0 P).finish v) []) w2 = .ended o w1 es := by
          have e3 : ((c0 P).finish v) = { c0 P with todo := [.extern "fmt's door of nobody" #[v]] } := rfl
          have e4 : Extern.next "fmt's door of nobody" = none := by rfl
          exact ⟨_, _, _, by rw [e3]; simp only [stepG, G, c0, stepG.exec, e4, Option.elim]; rfl⟩
        obtain ⟨o, w1, es, h2⟩ := h2
        cases n with
        | zero =>
          simp only [runN] at h
          have h3 : lone ((c0 P).finish v) [] w2 = mach P sE := by simpa using h
          simp only [mach, lone, Machine.mk.injEq, Array.mk.injEq, List.cons.injEq, Goroutine.mk.injEq, and_true] at h3
          have := congrArg List.length h3.2.2
          simp at this
        | succ n => simp only [runN, step_of_ended h2] at h; cases h
      | halt y w2 =>
        have hg : ∃ o w1 es, stepG P true (G s.fr [c0 P]) s.w = .ended o w1 es := by
          cases y <;> exact ⟨_, _, _, by simp only [stepG, G, hd.2, unwind, hF.defers, f1, hr, GStep.after]; rfl⟩
        obtain ⟨o, w1, es, hg⟩ := hg
        rw [runN, step_of_ended hg] at h
        cases h
end
/-! ### in company -/
structure Keeps (M : Nat → Prop) (w w1 : World) : Prop where
  heap : ∀ b, M b → w1.heap[b]? = w.heap[b]?
  size : w.heap.size ≤ w1.heap.size
  os : w1.os = w.os
  output : w1.output = w.output
  tape : w1.tape = w.tape
theorem Keeps.refl (M : Nat → Prop) (w : World) : Keeps M w w := ⟨fun _ _ => rfl, Nat.le_refl _, rfl, rfl, rfl⟩
theorem Keeps.trans {M : Nat → Prop} {w w1 w2 : World} (h : Keeps M w w1) (k : Keeps M w1 w2) : Keeps M w w2 := ⟨fun b hb => (k.heap b hb).trans (h.heap b hb), Nat.le_trans h.size k.size, k.os.trans h.os, k.output.trans h.output, k.tape.trans h.tape⟩
def grown (M : Nat → Prop) (w w' : World) : Nat → Prop := fun b => M b ∨ (w.heap.size ≤ b ∧ b < w'.heap.size)
def EvM (Sh M : Nat → Prop) (e : Event) : Prop := (∃ a, e.loc = .cell a ∧ e.sync = false ∧ M a.block ∧ (e.write = true → ¬ Sh a.block)) ∨ (∃ r, e.loc = .obj r ∧ e.write = false ∧ e.sync = false ∧ M r) ∨ e.loc = .mark .noRoom
structure Guar (Sh M : Nat → Prop) (w w' : World) (es : Array Event) : Prop where
  size : w.heap.size ≤ w'.heap.size
  rest : ∀ b, b < w.heap.size → ¬ M b → w'.heap[b]? = w.heap[b]?
  still : ∀ b, Sh b → M b → w'.heap[b]? = w.heap[b]?
  os : w'.os = w.os
  output : w'.output = w.output
  tape : w'.tape = w.tape
  ev : ∀ e ∈ es, EvM Sh (grown M w w') e
inductive Co (P : Program) (main : Bool) (Sh : Nat → Prop) (Stop : (Nat → Prop) → Goroutine → World → Prop) : (Nat → Prop) → Goroutine → World → Prop
  | stop {M : Nat → Prop} {g : Goroutine} {w : World} (h : ∀ w1, Keeps M w w1 → Stop M g w1) : Co P main Sh Stop M g w
  | step {M : Nat → Prop} {g : Goroutine} {w : World} (hr : g.status = .running) (he : ∀ w1, Keeps M w w1 → ∃ g' w' es, stepG P main g w1 = .go g' w' es ∧ Guar Sh M w1 w' es) (h : ∀ w1, Keeps M w w1 → ∀ g' w' es, stepG P main g w1 = .go g' w' es → Co P main Sh Stop (grown M w1 w') g' w') : Co P main Sh Stop M g w
def Back (Sh : Nat → Prop) (Post : Value → World → Prop) (ρ0 : Ren) (n0 n0' : Nat) (c : Frame) (cs : List Frame) (M : Nat → Prop) (g : Goroutine) (w : World) : Prop :=
  ∃ ρ v v' wg, g = G (c.finish v') cs ∧ RelV ρ v v' ∧ Post v wg ∧ RelW 0 Sh ρ wg w ∧ (∀ b', M b' ↔ ∃ b, ρ b b') ∧ ρ0.le ρ ∧ ∀ b b', ρ b b' → ρ0 b b' ∨ (n0 ≤ b ∧ n0' ≤ b')
section
variable {P : Program} {Gl : Globs} {Al : Nat → Bool} {Sh : Nat → Prop} {d0 : Nat}
theorem RelW.keeps {L : Nat} {ρ : Ren} {w w' w1 : World} {M : Nat → Prop} (h : RelW L Sh ρ w w') (hM : ∀ b', M b' ↔ ∃ b, ρ b b') (hk : Keeps M w' w1) : RelW 0 Sh ρ w w1 := by
  refine ⟨fun b b' hb => ?_, h.fn, h.inj, h.low0, fun i q hi => absurd hi (Nat.not_lt_zero _), h.shared⟩
  obtain ⟨o, o', h1, h2, ho⟩ := h.obj b b' hb
  exact ⟨o, o', h1, (hk.heap b' ((hM b').2 ⟨b, hb⟩)).trans h2, ho⟩
theorem evM_of {Tr : Nat → Prop} {ρ : Ren} {M : Nat → Prop} {e : Event} (hT : ∀ b b', ρ b b' → Tr b' → Sh b) (hM : ∀ b', (∃ b, ρ b b') → M b') (h : EvR Sh ρ e) : EvM Tr M e := by
  rcases h with ⟨a, b, h1, h2, h3, h4⟩ | ⟨r, b, h1, h2, h3, h4⟩ | h
  · exact .inl ⟨a, h1, h2, hM _ ⟨b, h3⟩, fun hw hs => h4 hw (hT b a.block h3 hs)⟩
  · exact .inr (.inl ⟨r, h1, h2, h3, hM _ ⟨b, h4⟩⟩)
  · exact .inr (.inr h)
theorem relFs_run {ρ : Ren} {st st' : List Frame} (h : RelFs P Gl Al ρ st st') : ∀ f ∈ st, f.mode = .run ∧ f.defers = [] ∧ Al f.fn = true := by
  induction h with
  | nil => intro f hf; cases hf
  | cons h hr _ _ ih =>
    intro f hf
    rcases List.mem_cons.1 hf with rfl | hf
    · exact ⟨hr, h.defers, h.al⟩
    · exact ih f hf
theorem grown_iff {L : Nat} {ρ ρ1 : Ren} {M : Nat → Prop} {w w2 w1 w1' : World} (hM : ∀ b', M b' ↔ ∃ b, ρ b b') (hw : RelW L Sh ρ1 w2 w1') (hf : Frm Sh ρ ρ1 w w2 w1 w1') : ∀ b', grown M w1 w1' b' ↔ ∃ b, ρ1 b b' := fun b' => by
  constructor
  · rintro (h | ⟨h1, h2⟩)
    · obtain ⟨b, hb⟩ := (hM b').1 h
      exact ⟨b, hf.le.app hb⟩
    · exact hf.all b' h1 h2
  · rintro ⟨b, hb⟩
    rcases hf.new b b' hb with h | ⟨j, _, h⟩
    · exact .inl ((hM b').2 ⟨b, h⟩)
    · exact .inr ⟨by omega, (hw.lt hb).2⟩
theorem guar_of {Tr : Nat → Prop} {L : Nat} {ρ ρ1 : Ren} {M : Nat → Prop} {w w2 w1 w1' : World} {es : Array Event} (hT : ∀ b b', ρ1 b b' → Tr b' → Sh b) (hM : ∀ b', M b' ↔ ∃ b, ρ b b') (hw : RelW L Sh ρ1 w2 w1') (hf : Frm Sh ρ ρ1 w w2 w1 w1') (he : ∀ e ∈ es, EvR Sh ρ1 e) : Guar Tr M w1 w1' es :=
  ⟨hf.size', fun b hb hn => hf.rest b hb fun c hc => hn ((hM b).2 ⟨c, hc⟩), fun b hs hm => let ⟨c, hc⟩ := (hM b).1 hm; hf.still c b (hT c b (hf.le.app hc) hs) hc, hf.os, hf.output, hf.tape, fun e h => evM_of hT (fun b' hb => (grown_iff hM hw hf b').2 hb) (he e h)⟩
def EndE (P : Program) (Post : Value → World → Prop) (sE : St) : Prop := ∃ v, sE.fr.leaving P sE.w (.returned v) ∧ Post v sE.w
theorem co_of (T : TameP P Gl Al) {Tr : Nat → Prop} {Post : Value → World → Prop} {ρ0 : Ren} {n0 n0' : Nat} (hT0 : ∀ b b', ρ0 b b' → Tr b' → Sh b) (hTr : ∀ b', Tr b' → b' < n0') {c : Frame} {cs : List Frame} {main : Bool} (s : St) (hacc : Acc (Nx P d0) s) : ∀ (ρ : Ren) (fr' : Frame) (st' : List Frame) (w' : World) (M : Nat → Prop), Good P (EndE P Post) d0 s → d0 ≤ s.w.drawn → Sit 0 P Gl Al Sh ρ s.w w' → RelF P Gl Al ρ s.fr fr' → RelFs P Gl Al ρ s.st st' → (∀ b', M b' ↔ ∃ b, ρ b b') → ρ0.le ρ → (∀ b b', ρ b b' → ρ0 b b' ∨ (n0 ≤ b ∧ n0' ≤ b')) → n0 ≤ s.w.heap.size → n0' ≤ w'.heap.size →
    Co P main Tr (Back Sh Post ρ0 n0 n0' c cs) M (G fr' (st' ++ c :: cs)) w' := by
  induction hacc with
  | intro s _ ih =>
    intro ρ fr' st' w' M hg hd hs hF hS hM hle0 hpair hn0 hn0'
    have hpart : Part P Gl Al Sh s := ⟨0, ρ, fr', st', w', hs, hF, hS⟩
    have hTp : ∀ {ρ1 : Ren}, (∀ b b', ρ1 b b' → ρ0 b b' ∨ (n0 ≤ b ∧ n0' ≤ b')) → ∀ b b', ρ1 b b' → Tr b' → Sh b := fun hp b b' hb hs => (hp b b' hb).elim (fun x => hT0 b b' x hs) fun x => absurd (hTr b' hs) (by omega)
    have hbig : ρ.G ≤ s.w.heap.size := by rw [hs.hG.size]; exact hs.big
    have key : ∀ w1, Keeps M w' w1 → ∃ g' w2' es', stepG P main (G fr' (st' ++ c :: cs)) w1 = .go g' w2' es' ∧ Guar Tr M w1 w2' es' ∧ Co P main Tr (Back Sh Post ρ0 n0 n0' c cs) (grown M w1 w2') g' w2' := by
      intro w1 hk
      by_cases hdon : Don s
      · -- the return
        obtain ⟨n, sE, hn, _, v, hlv, hpost⟩ := hg s.w.tape fun _ _ _ _ => rfl
        obtain ⟨e1, e2⟩ := don_zero T hpart hdon (show runN P n (mach P s) = .next (mach P sE) from hn)
        rw [e1, e2] at hlv
        rw [e2] at hpost
        obtain ⟨l1, l2, l3, fn, l4, l5⟩ := hlv
        have hret' : fr'.mode = .returning := hF.mode.trans hdon.2
        obtain rfl : st' = [] := by
          have := hS
          rw [hdon.1] at this
          cases this
          rfl
        have hrel : RelW s.w.drawn Sh ρ s.w w1 := (hs.rel.keeps hM hk).retape (τ := s.w.tape) (τ' := w1.tape) (d := s.w.drawn) (d' := w1.drawn) fun i q h => absurd h (by omega)
        have sim := sim_results (Pg := P) (P := P) fn hF.tmps
        cases hr : (results fn s.fr.tmps).runT P s.w #[] with
        | mk r es0 =>
          have hr1 : r = .ok v s.w := by rw [← l5, ← Sem.runT_fst P _ s.w #[], hr]
          subst hr1
          obtain ⟨ρ1, v', w1', more, r1, r2, r3, r4, r5⟩ := sim.runs #[] hrel hs.sh hbig hr (Nat.le_refl _)
          have hp1 : ∀ b b', ρ1 b b' → ρ0 b b' ∨ (n0 ≤ b ∧ n0' ≤ b') := fun b b' hb => by
            rcases r4.new b b' hb with h | ⟨j, h1, _⟩
            · exact hpair b b' h
            · exact absurd (r3.lt hb).1 (by omega)
          refine ⟨G (c.finish v') cs, w1', seen P fr'.fn (#[] ++ more), ?_, guar_of (hTp hp1) hM r3 r4 (fun e he => r5 e (by simpa using seen_sub _ _ he)), .stop fun w2 hk2 => ?_⟩
          · simp only [stepG, G, hret', unwind, hF.defers', hF.fn, l4, r1, GStep.after, doReturn, hF.kind', List.nil_append, Array.append_empty]
          · refine ⟨ρ1, v, v', s.w, rfl, r2, hpost, r3.keeps (grown_iff hM r3 r4) hk2, grown_iff hM r3 r4, hle0.trans r4.le, hp1⟩
      · -- a step
        obtain ⟨τ, hτ⟩ : ∃ τ : Nat → Question → Nat, τ = fun i q => if i < s.w.drawn then s.w.tape i q else w1.tape (i - s.w.drawn + w1.drawn) q := ⟨_, rfl⟩
        have hold : ∀ i q, d0 ≤ i → i < s.w.drawn → τ i q = s.w.tape i q := fun i q _ h => by rw [hτ]; simp [h]
        have hsit : ∀ L, Sit L P Gl Al Sh ρ (World.ret s.w τ) w1 := fun L => ⟨(hs.rel.keeps hM hk).retape (τ := τ) (τ' := w1.tape) (d := s.w.drawn) (d' := w1.drawn) fun i q _ => by
          rw [hτ]
          show (if s.w.drawn + i < s.w.drawn then _ else _) = _
          rw [if_neg (by omega), show s.w.drawn + i - s.w.drawn + w1.drawn = w1.drawn + i by omega], hs.sh, hs.hG, hs.hA, hs.hD, hs.gl, hs.big⟩
        obtain ⟨L, hL⟩ : ∃ L, ∀ g1 w2 es, stepG P true (G s.fr (s.st ++ [c0 P])) (World.ret s.w τ) = .go g1 w2 es → w2.drawn ≤ L := by
          cases stepG P true (G s.fr (s.st ++ [c0 P])) (World.ret s.w τ) with
          | go g1 w2 es => exact ⟨w2.drawn, fun g1 w2 es h => by cases h; exact Nat.le_refl _⟩
          | _ => exact ⟨0, fun g1 w2 es h => by cases h⟩
        obtain ⟨n, sE, hn, hE1, _⟩ := hg τ hold
        cases n with
        | zero =>
          have := mach_inj (by simpa [runN] using hn : mach P (s.ret τ) = mach P sE)
          exact absurd (show Don s from ⟨this.2.1.trans hE1.1, (congrArg Frame.mode this.1).trans hE1.2⟩) hdon
        | succ n =>
          have out := sim_step (base := c :: cs) (main := main) T (hsit L) hF hS hdon hL
          cases out with
          | ended h1 =>
            rw [runN, show mach P (s.ret τ) = lone s.fr (s.st ++ [c0 P]) (World.ret s.w τ) from rfl, step_of_ended h1] at hn
            cases hn
          | pan h1 hm1 hd1 hf1 =>
            rw [runN, show mach P (s.ret τ) = lone s.fr (s.st ++ [c0 P]) (World.ret s.w τ) from rfl, step_of_go h1] at hn
            exact absurd hn (pan_never T n _ _ _ _ hm1 hd1 hf1 (relFs_run hS) sE hE1)
          | @go ρ1 fr1 fr1' st1 st1' w2 w1' es es' h1 h2 hF1 hS1 hs1 hf1 he1 =>
            have htp : w2.tape = τ := hf1.gtape
            have hnx : Nx P d0 ⟨fr1, st1, w2⟩ s := ⟨hdon, fun i q a b => by rw [show (St.mk fr1 st1 w2).w.tape = τ from htp]; exact hold i q a b, hF1.run, es, by rw [show (St.mk fr1 st1 w2).w.tape = τ from htp]; exact h1⟩
            have hn1 : s.w.heap.size ≤ w2.heap.size := hf1.size
            have hn1' : w'.heap.size ≤ w1'.heap.size := Nat.le_trans hk.size hf1.size'
            have hp1 : ∀ b b', ρ1 b b' → ρ0 b b' ∨ (n0 ≤ b ∧ n0' ≤ b') := fun b b' hb => by
              rcases hf1.new b b' hb with h | ⟨j, g1, g2⟩
              · exact hpair b b' h
              · have k1 : b = s.w.heap.size + j := g1
                have k2 := hk.size
                exact .inr ⟨by omega, by omega⟩
            refine ⟨_, _, _, h2, guar_of (hTp hp1) hM hs1.rel hf1 he1, ih ⟨fr1, st1, w2⟩ hnx ρ1 fr1' st1' w1' _ (good_step T hpart hg hd hnx) (Nat.le_trans hd hf1.draws.1) ⟨hs1.rel.keeps (grown_iff hM hs1.rel hf1) (.refl _ _), hs1.sh, hs1.hG, hs1.hA, hs1.hD, hs1.gl, hs1.big⟩ hF1 hS1 (grown_iff hM hs1.rel hf1) (hle0.trans hf1.le) hp1 (Nat.le_trans hn0 hn1) (Nat.le_trans hn0' hn1')⟩
    refine .step rfl (fun w1 hk => ?_) (fun w1 hk g' w2' es' he => ?_)
    · obtain ⟨g', w2', es', h1, h2, _⟩ := key w1 hk
      exact ⟨g', w2', es', h1, h2⟩
    · obtain ⟨g2, w3', es2, h1, _, h3⟩ := key w1 hk
      rw [he] at h1
      cases h1
      exact h3
end
section
variable {P : Program} {Gl : Globs} {Al : Nat → Bool} {Sh : Nat → Prop}
theorem co_call (T : TameP P Gl Al) {Tr : Nat → Prop} {Post : Value → World → Prop} {ρ : Ren} {f : FuncId} {args args' : Array Value} {wg w' : World} {M : Nat → Prop} {c : Frame} {cs : List Frame} {main : Bool} (hT0 : ∀ b b', ρ b b' → Tr b' → Sh b) (hTr : ∀ b', Tr b' → b' < w'.heap.size) (hf : Al f = true)
    (hC : ∀ τ, Calls P f args (World.ret wg τ) fun e w1 => ∃ v, e = .returned v ∧ Post v w1) (hs : Sit 0 P Gl Al Sh ρ wg w') (hargs : RelR ρ args args') (hM : ∀ b', M b' ↔ ∃ b, ρ b b') :
    Co P main Tr (Back Sh Post ρ wg.heap.size w'.heap.size c cs) M (G (Frame.enter P f args' .normal) (c :: cs)) w' := by
  have hF := RelF.enter (ρ := ρ) T hf hargs
  have hpart : Part P Gl Al Sh ⟨Frame.enter P f args .normal, [], wg⟩ := ⟨0, ρ, _, [], w', hs, hF, .nil⟩
  have hgood : Good P (EndE P Post) wg.drawn ⟨Frame.enter P f args .normal, [], wg⟩ := fun τ _ => by
    obtain ⟨e, w1, fr, ⟨v, rfl, hpost⟩, ⟨n, hn⟩, _, hlv⟩ := hC τ [c0 P]
    exact ⟨n, ⟨fr, [], w1⟩, hn, ⟨rfl, hlv.1⟩, v, hlv, hpost⟩
  exact co_of T hT0 hTr _ (good_acc T hpart hgood (Nat.le_refl _)) ρ _ [] w' M hgood (Nat.le_refl _) hs hF .nil hM (.refl _) (fun b b' h => .inl h) (Nat.le_refl _) (Nat.le_refl _)
end
end Go.Proofs.YtnpffnhiefgglaaGreatDoor
