/-
  A part of the proof.
-/
import Derived.Test.YtnpffnhiefgglaaGreatDoorParw06
import Derived.Test.YtnpffnhiefgglaaGreatDoorParw08
import Derived.Conc.Walk
import Derived.WalkKit
import Derived.ProofKit
import Derived.WalkSpells
import Derived.OpenShut
import Derived.Laws.BytesArg
import Derived.Deep.QuietTactic
import Derived.BigQuiet
import Derived.Deep.AppendLies
import Derived.Lib.OthersKept
import Derived.Laws.RangeAny
import Derived.Deep.RegionLaw
namespace Go.Proofs.YtnpffnhiefgglaaGreatDoor
open Go Go.Conc
open Go.ConcN (sumTo)
set_option maxRecDepth 100000
def PartA (P : Program) (Al : Als) (s : St) : Prop := FrT P Al s.fr ∧ FrsT P Al s.fr.fn s.st ∧ CellsTo P.globals.size s.w
section
variable {P : Program} {Al : Als} {E : St → Prop} {d0 : Nat} {s s1 : St}
theorem frsT_run {g : FuncId} {st : List Frame} (h : FrsT P Al g st) : ∀ f ∈ st, f.mode = .run ∧ f.defers = [] ∧ Al f.fn = true := by
  induction h with
  | nil => intro f hf; cases hf
  | cons h hr _ _ ih =>
    intro f hf
    rcases List.mem_cons.1 hf with rfl | hf
    · exact ⟨hr, h.defers, h.al⟩
    · exact ih f hf
theorem nxA (T : TameA P Al) (hp : PartA P Al s) (h : Nx P d0 s1 s) : PartA P Al s1 ∧ s.w.drawn ≤ s1.w.drawn ∧ ∀ τ, (∀ i q, s.w.drawn ≤ i → i < s1.w.drawn → τ i q = s1.w.tape i q) → step P (mach P (s.ret τ)) = .next (mach P (s1.ret τ)) := by
  obtain ⟨hne, _, hm, es, he⟩ := h
  obtain ⟨hF, hS, hR⟩ := hp
  have out := out_step (w := World.ret s.w s1.w.tape) T hR hF hS hne
  cases out with
  | ended h1 => rw [he] at h1; cases h1
  | pan h1 hm1 _ _ =>
    rw [he] at h1
    simp only [GStep.go.injEq, G, Goroutine.mk.injEq] at h1
    rw [← h1.1.1] at hm1
    rcases hm with hm | hm <;> rw [hm] at hm1 <;> cases hm1
  | @go fr1 st1 w1 es1 hF1 hS1 ho1 hR1 he1 h1 _ =>
    have h2 := h1 s1.w.tape s.w.drawn w1.drawn (Nat.add_comm _ _) (fun i q _ => rfl) true [c0 P]
    have h3 : stepG P true (G s.fr (s.st ++ [c0 P])) (World.ret s.w s1.w.tape) = .go (G fr1 (st1 ++ [c0 P])) (atw w1 s1.w.tape w1.drawn) es1 := h2
    rw [he] at h3
    simp only [GStep.go.injEq, G, Goroutine.mk.injEq, and_true] at h3
    obtain ⟨⟨e1, e2⟩, e3, e4⟩ := h3
    have e2' := List.append_inj_left' e2 rfl
    have e5 : s1.w = w1 := by rw [e3]; exact (congrArg (fun τ => { w1 with tape := τ }) ho1.tape.symm : { w1 with tape := s1.w.tape } = { w1 with tape := w1.tape })
    subst e4
    refine ⟨⟨by rw [e1]; exact hF1, by rw [e1, e2']; exact hS1, by rw [e5]; exact hR1⟩, by rw [e5]; exact ho1.drawn, fun τ hτ => ?_⟩
    have h4 := h1 τ s.w.drawn w1.drawn (Nat.add_comm _ _) (fun i q hi => by
      have := hτ (s.w.drawn + i) q (Nat.le_add_right _ _) (by rw [e5]; exact hi)
      exact this) true [c0 P]
    have h5 : step P (lone s.fr (s.st ++ [c0 P]) (World.ret s.w τ)) = .next (lone fr1 (st1 ++ [c0 P]) (atw w1 τ w1.drawn)) := step_of_go h4
    rw [← e1, ← e2', ← e5] at h5
    exact h5
theorem goodA_step (T : TameA P Al) (hp : PartA P Al s) (hg : Good P E d0 s) (hd : d0 ≤ s.w.drawn) (h : Nx P d0 s1 s) : Good P E d0 s1 := by
  intro τ hτ
  obtain ⟨_, h3, h1⟩ := nxA T hp h
  have h1 := h1 τ fun i q a b => hτ i q (Nat.le_trans hd a) b
  obtain ⟨n, sE, hn, hdon, hE⟩ := hg τ fun i q a b => (hτ i q a (Nat.lt_of_lt_of_le b h3)).trans (h.2.1 i q a b)
  cases n with
  | zero =>
    have := mach_inj (by simpa [runN] using hn : mach P (s.ret τ) = mach P sE)
    exact absurd (show Don s from ⟨this.2.1.trans hdon.1, (congrArg Frame.mode this.1).trans hdon.2⟩) h.1
  | succ n =>
    simp only [runN, h1] at hn
    exact ⟨n, sE, hn, hdon, hE⟩
open Classical in
theorem goodA_acc (T : TameA P Al) (hp : PartA P Al s) (hg : Good P E d0 s) (hd : d0 ≤ s.w.drawn) : Acc (Nx P d0) s := by
  refine Classical.byContradiction fun hna => ?_
  let Bad := { s : St // ¬ Acc (Nx P d0) s ∧ PartA P Al s ∧ Good P E d0 s ∧ d0 ≤ s.w.drawn }
  have nxt : ∀ b : Bad, ∃ c : Bad, Nx P d0 c.1 b.1 := fun ⟨s, h1, h2, h3, h4⟩ => by
    have : ∃ s1, Nx P d0 s1 s ∧ ¬ Acc (Nx P d0) s1 := Classical.byContradiction fun hno => h1 ⟨s, fun y hy => Classical.byContradiction fun hay => hno ⟨y, hy, hay⟩⟩
    obtain ⟨s1, hn, ha⟩ := this
    exact ⟨⟨s1, ha, (nxA T h2 hn).1, goodA_step T h2 h3 h4 hn, Nat.le_trans h4 (nxA T h2 hn).2.1⟩, hn⟩
  let f : Nat → Bad := fun n => Nat.rec ⟨s, hna, hp, hg, hd⟩ (fun _ b => (nxt b).choose) n
  have hf : ∀ n, Nx P d0 (f (n + 1)).1 (f n).1 := fun n => (nxt (f n)).choose_spec
  have hmono : ∀ n, (f n).1.w.drawn ≤ (f (n + 1)).1.w.drawn := fun n => (nxA T (f n).2.2.1 (hf n)).2.1
  have hmono' : ∀ n m, (f n).1.w.drawn ≤ (f (n + m)).1.w.drawn := fun n m => by
    induction m with
    | zero => exact Nat.le_refl _
    | succ m ih => exact Nat.le_trans ih (hmono (n + m))
  have hist : ∀ n m i q, d0 ≤ i → i < (f n).1.w.drawn → (f (n + m)).1.w.tape i q = (f n).1.w.tape i q := fun n m i q a b => by
    induction m with
    | zero => rfl
    | succ m ih => exact ((hf (n + m)).2.1 i q a (Nat.lt_of_lt_of_le b (hmono' n m))).trans ih
  have hist2 : ∀ n m i q, d0 ≤ i → i < (f n).1.w.drawn → i < (f m).1.w.drawn → (f m).1.w.tape i q = (f n).1.w.tape i q := fun n m i q a b c => by
    rcases Nat.le_total n m with h | h
    · have := hist n (m - n) i q a b
      rwa [show n + (m - n) = m by omega] at this
    · have := hist m (n - m) i q a c
      rw [show m + (n - m) = n by omega] at this
      exact this.symm
  let T0 : Nat → Question → Nat := fun i q => if h : ∃ m, i < (f m).1.w.drawn then (f h.choose).1.w.tape i q else 0
  have hT : ∀ n i q, d0 ≤ i → i < (f n).1.w.drawn → T0 i q = (f n).1.w.tape i q := fun n i q a b => by
    have hex : ∃ m, i < (f m).1.w.drawn := ⟨n, b⟩
    show (if h : ∃ m, i < (f m).1.w.drawn then (f h.choose).1.w.tape i q else 0) = _
    rw [dif_pos hex]
    exact hist2 n _ i q a b hex.choose_spec
  have hrun : ∀ n, runN P n (mach P ((f 0).1.ret T0)) = .next (mach P ((f n).1.ret T0)) := fun n => by
    induction n with
    | zero => rfl
    | succ n ih =>
      have h1 := (nxA T (f n).2.2.1 (hf n)).2.2 T0 fun i q a b => hT (n + 1) i q (Nat.le_trans (f n).2.2.2.2 a) b
      have : ∀ (k : Nat) (m m' m'' : Machine), runN P k m = .next m' → step P m' = .next m'' → runN P (k + 1) m = .next m'' := by
        intro k
        induction k with
        | zero => intro m m' m'' e1 e2; simp only [runN] at e1 ⊢; cases e1; rw [e2]
        | succ k ihk =>
          intro m m' m'' e1 e2
          rw [runN] at e1 ⊢
          cases hst : step P m with
          | next m1 => rw [hst] at e1; exact ihk m1 m' m'' e1 e2
          | _ => rw [hst] at e1; cases e1
      exact this n _ _ _ ih h1
  obtain ⟨N, sE, hN, hdon, _⟩ := (f 0).2.2.2.1 T0 fun i q a b => hT 0 i q a b
  rw [hrun N] at hN
  have := mach_inj (P := P) (by simpa using hN : mach P ((f N).1.ret T0) = mach P sE)
  exact (hf N).1 ⟨this.2.1.trans hdon.1, (congrArg Frame.mode this.1).trans hdon.2⟩
theorem panA_never (T : TameA P Al) (n : Nat) : ∀ (fr : Frame) (st : List Frame) (w : World) (c : List PanicEntry), fr.mode = .panicking c → fr.defers = [] → Al fr.fn = true → (∀ f ∈ st, f.mode = .run ∧ f.defers = [] ∧ Al f.fn = true) → ∀ sE, Don sE → runN P n (lone fr (st ++ [c0 P]) w) ≠ .next (mach P sE) := by
  induction n with
  | zero =>
    intro fr st w c hm hd ha hst sE hdon h
    have h' : mach P ⟨fr, st, w⟩ = mach P sE := by simpa [runN, mach] using h
    have := mach_inj h'
    have hx : fr.mode = .returning := (congrArg Frame.mode this.1).trans hdon.2
    rw [hm] at hx
    cases hx
  | succ n ih =>
    intro fr st w c hm hd ha hst sE hdon h
    obtain ⟨fn, body, f1, _⟩ := T.body fr.fn ha
    have hcat : fr.catches P = false := by simp [Frame.catches, f1]
    cases st with
    | cons f2 st2 =>
      have hg : stepG P true (G fr (f2 :: st2 ++ [c0 P])) w = .go (G (f2.raise c) (st2 ++ [c0 P])) w #[] := by
        simp only [stepG, G, hm, unwind, hd, hcat, List.cons_append]
        rfl
      rw [runN, step_of_go hg] at h
      obtain ⟨g1, g2, g3⟩ := hst f2 List.mem_cons_self
      exact ih (f2.raise c) st2 w c (by simp [Frame.raise, g1]) (by simp [Frame.raise, g1, g2]) (by simp [Frame.raise, g1, g3]) (fun f hf => hst f (List.mem_cons_of_mem _ hf)) sE hdon h
    | nil =>
      have hg : stepG P true (G fr ([] ++ [c0 P])) w = .go (G ((c0 P).raise c) []) w #[] := by
        simp only [stepG, G, hm, unwind, hd, hcat, List.nil_append]
        rfl
      rw [runN, step_of_go hg] at h
      have h2 : ∃ o w1 es, stepG P true (G ((c0 P).raise c) []) w = .ended o w1 es := by
        have e1 : ((c0 P).raise c).mode = .panicking c := rfl
        have e2 : ((c0 P).raise c).defers = [] := rfl
        have e3 : ((c0 P).raise c).catches P = true := by
          have : P.funcs[P.funcs.size]? = none := by simp
          simp only [Frame.catches, Frame.raise, c0, this]
          exact door_starts
        refine ⟨_, _, _, by simp only [stepG, G, e1, unwind, e2, e3]; rfl⟩
      obtain ⟨o, w1, es, h2⟩ := h2
      cases n with
      | zero =>
        simp only [runN] at h
        have h3 : lone ((c0 P).raise c) [] w = mach P sE := by simpa using h
        simp only [mach, lone, Machine.mk.injEq, Array.mk.injEq, List.cons.injEq, Goroutine.mk.injEq, and_true] at h3
        have := congrArg List.length h3.2.2
        simp at this
      | succ n => simp only [runN, step_of_ended h2] at h; cases h
theorem donA_zero (T : TameA P Al) (hp : PartA P Al s) (hd : Don s) {n : Nat} {sE : St} (h : runN P n (mach P s) = .next (mach P sE)) : sE.fr = s.fr ∧ sE.w = s.w := by
  cases n with
  | zero =>
    have := mach_inj (by simpa [runN] using h : mach P s = mach P sE)
    exact ⟨this.1.symm, this.2.2.symm⟩
  | succ n =>
    exfalso
    obtain ⟨hF, hS, _⟩ := hp
    obtain ⟨fn, body, f1, f2, f3, f4, _⟩ := T.body s.fr.fn hF.al
    have hm : mach P s = lone s.fr [c0 P] s.w := by simp [mach, hd.1]
    rw [hm] at h
    cases hr : (results fn s.fr.tmps).runT P s.w #[] with
    | mk r es0 =>
      cases r with
      | ok v w2 =>
        have hg : stepG P true (G s.fr [c0 P]) s.w = .go (G ((c0 P).finish v) []) w2 (seen P s.fr.fn es0) := by
          simp only [stepG, G, hd.2, unwind, hF.defers, f1, hr, GStep.after, doReturn, hF.kind, Array.append_empty]
        rw [runN, step_of_go hg] at h
        have h2 : ∃ o w1 es, stepG P true (G ((c0 P).finish v) []) w2 = .ended o w1 es := by
          have e3 : ((c0 P).finish v) = { c0 P with todo := [.extern "fmt's door of nobody" #[v]] } := rfl
          have e4 : Extern.next "fmt's door of nobody" = none := by rfl
          exact ⟨_, _, _, by rw [e3]; simp only [stepG, G, c0, stepG.exec, e4, Option.elim]; rfl⟩
        obtain ⟨o, w1, es, h2⟩ := h2
        cases n with
        | zero =>
          simp only [runN] at h
          have h3 : lone ((c0 P).finish v) [] w2 = mach P sE := by simpa using h
          simp only [mach, lone, Machine.mk.injEq, Array.mk.injEq, List.cons.injEq, Goroutine.mk.injEq, and_true] at h3
          have := congrArg List.length h3.2.2
          simp at this
        | succ n => simp only [runN, step_of_ended h2] at h; cases h
      | halt y w2 =>
        have hg : ∃ o w1 es, stepG P true (G s.fr [c0 P]) s.w = .ended o w1 es := by
          cases y <;> exact ⟨_, _, _, by simp only [stepG, G, hd.2, unwind, hF.defers, f1, hr, GStep.after]; rfl⟩
        obtain ⟨o, w1, es, hg⟩ := hg
        rw [runN, step_of_ended hg] at h
        cases h
end
section
variable {P : Program} {Al : Als} {Post : Value → World → Prop} {d0 : Nat}
def AfterA (P : Program) (Post : Value → World → Prop) (w : World) (c : Frame) (cs : List Frame) (g1 : Goroutine) (w1 : World) : Prop :=
  ∃ v τ d, g1 = G (c.finish v) cs ∧ Post v (atw w1 τ d) ∧ CellsTo P.globals.size w1 ∧ w.heap.size ≤ w1.heap.size ∧ w1.tape = w.tape
theorem besA (T : TameA P Al) {w0 : World} {c : Frame} {cs : List Frame} (s : St) (hacc : Acc (Nx P d0) s) : ∀ (m : Nat) (gs : Array Goroutine) (w : World) (sl : Option (Nat × Nat)) (t : Trace) (q : Nat → Nat), sumTo gs.size q = m → (∃ τ d, s.w = atw w τ d) → PartA P Al s → Good P (EndE P Post) d0 s → d0 ≤ s.w.drawn → w0.heap.size ≤ w.heap.size → w.tape = w0.tape → gs[0]? = some (G s.fr (s.st ++ c :: cs)) → LeavX P 0 t gs q → Past (fun _ => False) w.heap.size t →
    Comes P (fun gs1 w1 _ t1 => ∃ g1 q1, gs1[0]? = some g1 ∧ AfterA P Post w0 c cs g1 w1 ∧ LeavX P 0 t1 gs1 q1 ∧ Past (fun _ => False) w1.heap.size t1) gs w sl t := by
  induction hacc with
  | intro s _ ihC =>
    intro m
    induction m using Nat.strongRecOn with
    | _ m ih =>
      intro gs w sl t q hm hw hp hg hd hsz htp h0 hL hP
      obtain ⟨i, x, d, sl', hi, hx, hpick⟩ := crowd_pick (P := P) (w := w) (sl := sl) (hL.awake h0 rfl) ⟨0, _, h0, rfl⟩
      rcases Nat.eq_zero_or_pos i with rfl | hpos
      · obtain rfl : x = G s.fr (s.st ++ c :: cs) := by rw [h0] at hi; exact (Option.some.inj hi).symm
        have hlt : 0 < gs.size := (Array.getElem?_eq_some_iff.1 h0).1
        obtain ⟨τ0, dd, hsw⟩ := hw
        have hat : ∀ τ, atw (World.ret s.w τ) w.tape d = w.at d := fun τ => by rw [hsw]; rfl
        by_cases hdon : Don s
        · -- the return
          obtain ⟨n, sE, hn, _, v, hlv, hpost⟩ := hg s.w.tape fun _ _ _ _ => rfl
          obtain ⟨e1, e2⟩ := donA_zero T hp hdon (show runN P n (mach P s) = .next (mach P sE) from hn)
          rw [e1, e2] at hlv
          rw [e2] at hpost
          obtain ⟨l1, l2, l3, fn, l4, l5⟩ := hlv
          have hF := hp.1
          have hh : Hush P (fun _ => True) (results fn s.fr.tmps) := hush_results fn s.fr.tmps
          have hlow := run_low P _ hh s.w #[]
          have hra := run_at P _ hh s.w #[]
          cases hr : (results fn s.fr.tmps).runT P s.w #[] with
          | mk r es0 =>
            have hr1 : r = .ok v s.w := by rw [← l5, ← Sem.runT_fst P _ s.w #[], hr]
            subst hr1
            rw [hr] at hlow hra
            have h1 := hra w.tape d d rfl (fun i q hi => absurd hi (by show ¬ s.w.drawn + i < s.w.drawn; omega))
            have e3 : atw s.w w.tape d = w.at d := hat s.w.tape
            rw [e3] at h1
            have hgo : stepG P (0 == 0) (G s.fr (s.st ++ c :: cs)) (w.at d) = .go (G (c.finish v) cs) (w.at d) (seen P s.fr.fn es0) := by
              rw [hdon.1]
              simp only [stepG, G, hdon.2, unwind, hF.defers, l4, h1, GStep.after, doReturn, hF.kind, List.nil_append, Array.append_empty, ratw, e3]
            have hev : ∀ e ∈ seen P s.fr.fn es0, EvO w.heap.size e := fun e he => (hlow e (seen_sub _ _ he)).elim (fun h => by simp at h) fun h => by
              have : (rworld (Result.ok v s.w)).heap.size = w.heap.size := by show s.w.heap.size = _; rw [hsw]; rfl
              rw [this] at h
              exact h
            refine .step (hpick.trans (runT_crowd_go hi hgo)) (.now ⟨G (c.finish v) cs, q, by simp [hlt], ⟨v, τ0, dd, rfl, ?_, ?_, hsz, htp⟩, hL.own (.inl rfl) hlt fun op hop => ?_, hP.own fun e he => hev e he⟩)
            · rw [hsw] at hpost
              exact hpost
            · have := hp.2.2
              rw [hsw] at this
              exact this
            · obtain ⟨e, h1, rfl⟩ := Go.Conc.mem_ofEvents hop
              rfl
        · -- a step
          obtain ⟨τ, hτ⟩ : ∃ τ : Nat → Question → Nat, τ = fun i q => if i < s.w.drawn then s.w.tape i q else w.tape (i - s.w.drawn + d) q := ⟨_, rfl⟩
          have hold : ∀ i q, d0 ≤ i → i < s.w.drawn → τ i q = s.w.tape i q := fun i q _ h => by rw [hτ]; simp [h]
          obtain ⟨n, sE, hn, hE1, _⟩ := hg τ hold
          cases n with
          | zero =>
            have := mach_inj (by simpa [runN] using hn : mach P (s.ret τ) = mach P sE)
            exact absurd (show Don s from ⟨this.2.1.trans hE1.1, (congrArg Frame.mode this.1).trans hE1.2⟩) hdon
          | succ n =>
            have out := out_step (w := World.ret s.w τ) T hp.2.2 hp.1 hp.2.1 hdon
            cases out with
            | ended h1 =>
              rw [runN, show mach P (s.ret τ) = lone s.fr (s.st ++ [c0 P]) (World.ret s.w τ) from rfl, step_of_ended h1] at hn
              cases hn
            | pan h1 hm1 hd1 hf1 =>
              rw [runN, show mach P (s.ret τ) = lone s.fr (s.st ++ [c0 P]) (World.ret s.w τ) from rfl, step_of_go h1] at hn
              exact absurd hn (panA_never T n _ _ _ _ hm1 hd1 hf1 (frsT_run hp.2.1) sE hE1)
            | @go fr1 st1 w1 es hF1 hS1 ho1 hR1 he1 h1 _ =>
              have htp1 : w1.tape = τ := ho1.tape
              have hdr : s.w.drawn ≤ w1.drawn := ho1.drawn
              have hself := h1 τ s.w.drawn w1.drawn (Nat.add_comm _ _) (fun i q _ => rfl) true [c0 P]
              have hself' : stepG P true (G s.fr (s.st ++ [c0 P])) (World.ret s.w τ) = .go (G fr1 (st1 ++ [c0 P])) w1 es := by
                have e : atw w1 τ w1.drawn = w1 := by rw [← htp1]; rfl
                rw [e] at hself
                exact hself
              have hnx : Nx P d0 ⟨fr1, st1, w1⟩ s := ⟨hdon, fun i q a b => by rw [show (St.mk fr1 st1 w1).w.tape = τ from htp1]; exact hold i q a b, hF1.run, es, by rw [show (St.mk fr1 st1 w1).w.tape = τ from htp1]; exact hself'⟩
              have hgo := h1 w.tape d (d + (w1.drawn - s.w.drawn)) (by show _ + s.w.drawn = _; omega) (fun i q hi => by
                show w.tape (d + i) q = τ (s.w.drawn + i) q
                rw [hτ]
                show _ = (if s.w.drawn + i < s.w.drawn then _ else _)
                rw [if_neg (by omega), show s.w.drawn + i - s.w.drawn + d = d + i by omega]) (0 == 0) (c :: cs)
              rw [hat τ] at hgo
              have hsize : w.heap.size ≤ w1.heap.size := by
                have h2 : s.w.heap.size ≤ w1.heap.size := ho1.size
                have h3 : s.w.heap.size = w.heap.size := by rw [hsw]; rfl
                omega
              refine .step (hpick.trans (runT_crowd_go hi hgo)) (ihC ⟨fr1, st1, w1⟩ hnx _ _ (atw w1 w.tape (d + (w1.drawn - s.w.drawn))) sl' _ q rfl ⟨w1.tape, w1.drawn, rfl⟩ ⟨hF1, hS1, hR1⟩ (goodA_step T hp hg hd hnx) (Nat.le_trans hd hdr) (Nat.le_trans hsz hsize) htp (by simp [hlt]) (hL.own (.inl rfl) hlt fun op hop => ?_) ((hP.mono hsize).own fun e hee => he1 e hee))
              obtain ⟨e, h1, rfl⟩ := Go.Conc.mem_ofEvents hop
              rfl
      · obtain ⟨g', es, q', hmu, hgo, hL', hlt⟩ := hL.slip hpos (by omega) hi hx x.frame.fn x.frame.place (w.at d)
        obtain ⟨τ0, dd, hsw⟩ := hw
        refine .step (hpick.trans (runT_crowd_go hi hgo)) (ih _ (by rw [← hm]; exact hlt) _ (w.at d) sl' _ q' (by simp) ⟨τ0, dd, hsw⟩ hp hg hd hsz htp ?_ hL' (hP.mute (by omega) hmu))
        have hne : i ≠ 0 := by omega
        rw [Array.getElem?_setIfInBounds_ne hne, Array.getElem?_map, h0]
        simp [woken_run (show (G s.fr (s.st ++ c :: cs)).status = .running from rfl)]
theorem Bes.lone (T : TameA P Al) {f : FuncId} {x : Array Value} {w : World} {c : Frame} {cs : List Frame} (hf : Al f = true) (hb : Al.b f = false) (hx : ∀ t, t < x.size → t < 200 → Al.f f t = false) (hR : CellsTo P.globals.size w) (hC : ∀ τ, Calls P f x (World.ret w τ) fun e w1 => ∃ v, e = .returned v ∧ Post v w1) :
    Bes P (AfterA P Post w c cs) (G (Frame.enter P f x .normal) (c :: cs)) w := fun gs sl t q h0 hL hP => by
  have hpart : PartA P Al ⟨Frame.enter P f x .normal, [], w⟩ := ⟨FrT.enter T hf hb x hx, .nil, hR⟩
  have hgood : Good P (EndE P Post) w.drawn ⟨Frame.enter P f x .normal, [], w⟩ := fun τ _ => by
    obtain ⟨e, w1, fr, ⟨v, rfl, hpost⟩, ⟨n, hn⟩, _, hlv⟩ := hC τ [c0 P]
    exact ⟨n, ⟨fr, [], w1⟩, hn, ⟨rfl, hlv.1⟩, v, hlv, hpost⟩
  exact besA T _ (goodA_acc T hpart hgood (Nat.le_refl _)) _ gs w sl t q rfl ⟨w.tape, w.drawn, rfl⟩ hpart hgood (Nat.le_refl _) (Nat.le_refl _) rfl h0 hL hP
end
def EndK (b : Frame) (K : Act → World → Prop) (s : St) : Prop := s.st = [] ∧ ∃ a, s.fr = b.at a [] ∧ K a s.w
def StopK (E : St → Prop) (d0 : Nat) (s : St) : Prop := ∃ τ, (∀ i q, d0 ≤ i → i < s.w.drawn → τ i q = s.w.tape i q) ∧ E (s.ret τ)
def GoodK (P : Program) (E : St → Prop) (d0 : Nat) (s : St) : Prop := ∀ τ, (∀ i q, d0 ≤ i → i < s.w.drawn → τ i q = s.w.tape i q) → ∃ n sE, runN P n (mach P (s.ret τ)) = .next (mach P sE) ∧ E sE
def NxK (P : Program) (E : St → Prop) (d0 : Nat) (s1 s : St) : Prop := (¬ StopK E d0 s ∧ ¬ (s.st = [] ∧ s.fr.todo = [])) ∧ (∀ i q, d0 ≤ i → i < s.w.drawn → s1.w.tape i q = s.w.tape i q) ∧ (s1.fr.mode = .run ∨ s1.fr.mode = .returning) ∧ ∃ es, stepG P true (G s.fr (s.st ++ [c0 P])) (World.ret s.w s1.w.tape) = .go (G s1.fr (s1.st ++ [c0 P])) s1.w es
section
variable {P : Program} {Al : Als} {b : Frame} {K : Act → World → Prop} {d0 : Nat} {s s1 : St}
theorem endK_run (h : EndK b K s) : s.st = [] ∧ s.fr.mode = .run := by
  obtain ⟨h1, a, h2, _⟩ := h
  exact ⟨h1, by rw [h2]; rfl⟩
theorem nxK {E : St → Prop} (T : TameA P Al) (hp : PartA P Al s) (h : NxK P E d0 s1 s) : PartA P Al s1 ∧ s.w.drawn ≤ s1.w.drawn ∧ ∀ τ, (∀ i q, s.w.drawn ≤ i → i < s1.w.drawn → τ i q = s1.w.tape i q) → step P (mach P (s.ret τ)) = .next (mach P (s1.ret τ)) := by
  obtain ⟨⟨_, hne0⟩, _, hm, es, he⟩ := h
  obtain ⟨hF, hS, hR⟩ := hp
  have hne : ¬ (s.st = [] ∧ s.fr.mode = .returning) := fun ⟨h1, h2⟩ => by
    rw [h1, List.nil_append] at he
    obtain ⟨fn, body, f1, _⟩ := T.body s.fr.fn hF.al
    cases hr : (results fn s.fr.tmps).runT P (World.ret s.w s1.w.tape) #[] with
    | mk r es0 =>
      cases r with
      | ok v w2 =>
        have hg : stepG P true (G s.fr [c0 P]) (World.ret s.w s1.w.tape) = .go (G ((c0 P).finish v) []) w2 (seen P s.fr.fn es0) := by
          simp only [stepG, G, h2, unwind, hF.defers, f1, hr, GStep.after, doReturn, hF.kind, Array.append_empty]
        rw [hg] at he
        simp only [GStep.go.injEq, G, Goroutine.mk.injEq] at he
        have := congrArg List.length he.1.2.1
        simp at this
      | halt y w2 =>
        have hg : ∃ o w1 es, stepG P true (G s.fr [c0 P]) (World.ret s.w s1.w.tape) = .ended o w1 es := by
          cases y <;> exact ⟨_, _, _, by simp only [stepG, G, h2, unwind, hF.defers, f1, hr, GStep.after]; rfl⟩
        obtain ⟨o, w1, es, hg⟩ := hg
        rw [hg] at he
        cases he
  have out := out_step (w := World.ret s.w s1.w.tape) T hR hF hS hne
  cases out with
  | ended h1 => rw [he] at h1; cases h1
  | pan h1 hm1 _ _ =>
    rw [he] at h1
    simp only [GStep.go.injEq, G, Goroutine.mk.injEq] at h1
    rw [← h1.1.1] at hm1
    rcases hm with hm | hm <;> rw [hm] at hm1 <;> cases hm1
  | @go fr1 st1 w1 es1 hF1 hS1 ho1 hR1 he1 h1 _ =>
    have h2 := h1 s1.w.tape s.w.drawn w1.drawn (Nat.add_comm _ _) (fun i q _ => rfl) true [c0 P]
    have h3 : stepG P true (G s.fr (s.st ++ [c0 P])) (World.ret s.w s1.w.tape) = .go (G fr1 (st1 ++ [c0 P])) (atw w1 s1.w.tape w1.drawn) es1 := h2
    rw [he] at h3
    simp only [GStep.go.injEq, G, Goroutine.mk.injEq, and_true] at h3
    obtain ⟨⟨e1, e2⟩, e3, e4⟩ := h3
    have e2' := List.append_inj_left' e2 rfl
    have e5 : s1.w = w1 := by rw [e3]; exact (congrArg (fun τ => { w1 with tape := τ }) ho1.tape.symm : { w1 with tape := s1.w.tape } = { w1 with tape := w1.tape })
    subst e4
    refine ⟨⟨by rw [e1]; exact hF1, by rw [e1, e2']; exact hS1, by rw [e5]; exact hR1⟩, by rw [e5]; exact ho1.drawn, fun τ hτ => ?_⟩
    have h4 := h1 τ s.w.drawn w1.drawn (Nat.add_comm _ _) (fun i q hi => by
      have := hτ (s.w.drawn + i) q (Nat.le_add_right _ _) (by rw [e5]; exact hi)
      exact this) true [c0 P]
    have h5 : step P (lone s.fr (s.st ++ [c0 P]) (World.ret s.w τ)) = .next (lone fr1 (st1 ++ [c0 P]) (atw w1 τ w1.drawn)) := step_of_go h4
    rw [← e1, ← e2', ← e5] at h5
    exact h5
theorem goodK_step {E : St → Prop} (T : TameA P Al) (hp : PartA P Al s) (hg : GoodK P E d0 s) (hd : d0 ≤ s.w.drawn) (h : NxK P E d0 s1 s) : GoodK P E d0 s1 := by
  intro τ hτ
  obtain ⟨_, h3, h1⟩ := nxK T hp h
  have h1 := h1 τ fun i q a b => hτ i q (Nat.le_trans hd a) b
  have hs : ∀ i q, d0 ≤ i → i < s.w.drawn → τ i q = s.w.tape i q := fun i q a b => (hτ i q a (Nat.lt_of_lt_of_le b h3)).trans (h.2.1 i q a b)
  obtain ⟨n, sE, hn, hE⟩ := hg τ hs
  cases n with
  | zero =>
    have := mach_inj (by simpa [runN] using hn : mach P (s.ret τ) = mach P sE)
    refine absurd ⟨τ, hs, ?_⟩ h.1.1
    have e : s.ret τ = sE := by
      obtain ⟨a, c, d⟩ := sE
      obtain ⟨e1, e2, e3⟩ := this
      simp only at e1 e2 e3
      subst e1 e2 e3
      rfl
    rw [e]
    exact hE
  | succ n =>
    simp only [runN, h1] at hn
    exact ⟨n, sE, hn, hE⟩
open Classical in
theorem goodK_acc {E : St → Prop} (T : TameA P Al) (hp : PartA P Al s) (hg : GoodK P E d0 s) (hd : d0 ≤ s.w.drawn) : Acc (NxK P E d0) s := by
  refine Classical.byContradiction fun hna => ?_
  let Bad := { s : St // ¬ Acc (NxK P E d0) s ∧ PartA P Al s ∧ GoodK P E d0 s ∧ d0 ≤ s.w.drawn }
  have nxt : ∀ b : Bad, ∃ c : Bad, NxK P E d0 c.1 b.1 := fun ⟨s, h1, h2, h3, h4⟩ => by
    have : ∃ s1, NxK P E d0 s1 s ∧ ¬ Acc (NxK P E d0) s1 := Classical.byContradiction fun hno => h1 ⟨s, fun y hy => Classical.byContradiction fun hay => hno ⟨y, hy, hay⟩⟩
    obtain ⟨s1, hn, ha⟩ := this
    exact ⟨⟨s1, ha, (nxK T h2 hn).1, goodK_step T h2 h3 h4 hn, Nat.le_trans h4 (nxK T h2 hn).2.1⟩, hn⟩
  let f : Nat → Bad := fun n => Nat.rec ⟨s, hna, hp, hg, hd⟩ (fun _ b => (nxt b).choose) n
  have hf : ∀ n, NxK P E d0 (f (n + 1)).1 (f n).1 := fun n => (nxt (f n)).choose_spec
  have hmono : ∀ n, (f n).1.w.drawn ≤ (f (n + 1)).1.w.drawn := fun n => (nxK T (f n).2.2.1 (hf n)).2.1
  have hmono' : ∀ n m, (f n).1.w.drawn ≤ (f (n + m)).1.w.drawn := fun n m => by
    induction m with
    | zero => exact Nat.le_refl _
    | succ m ih => exact Nat.le_trans ih (hmono (n + m))
  have hist : ∀ n m i q, d0 ≤ i → i < (f n).1.w.drawn → (f (n + m)).1.w.tape i q = (f n).1.w.tape i q := fun n m i q a b => by
    induction m with
    | zero => rfl
    | succ m ih => exact ((hf (n + m)).2.1 i q a (Nat.lt_of_lt_of_le b (hmono' n m))).trans ih
  have hist2 : ∀ n m i q, d0 ≤ i → i < (f n).1.w.drawn → i < (f m).1.w.drawn → (f m).1.w.tape i q = (f n).1.w.tape i q := fun n m i q a b c => by
    rcases Nat.le_total n m with h | h
    · have := hist n (m - n) i q a b
      rwa [show n + (m - n) = m by omega] at this
    · have := hist m (n - m) i q a c
      rw [show m + (n - m) = n by omega] at this
      exact this.symm
  let T0 : Nat → Question → Nat := fun i q => if h : ∃ m, i < (f m).1.w.drawn then (f h.choose).1.w.tape i q else 0
  have hT : ∀ n i q, d0 ≤ i → i < (f n).1.w.drawn → T0 i q = (f n).1.w.tape i q := fun n i q a b => by
    have hex : ∃ m, i < (f m).1.w.drawn := ⟨n, b⟩
    show (if h : ∃ m, i < (f m).1.w.drawn then (f h.choose).1.w.tape i q else 0) = _
    rw [dif_pos hex]
    exact hist2 n _ i q a b hex.choose_spec
  have hrun : ∀ n, runN P n (mach P ((f 0).1.ret T0)) = .next (mach P ((f n).1.ret T0)) := fun n => by
    induction n with
    | zero => rfl
    | succ n ih =>
      have h1 := (nxK T (f n).2.2.1 (hf n)).2.2 T0 fun i q a b => hT (n + 1) i q (Nat.le_trans (f n).2.2.2.2 a) b
      have : ∀ (k : Nat) (m m' m'' : Machine), runN P k m = .next m' → step P m' = .next m'' → runN P (k + 1) m = .next m'' := by
        intro k
        induction k with
        | zero => intro m m' m'' e1 e2; simp only [runN] at e1 ⊢; cases e1; rw [e2]
        | succ k ihk =>
          intro m m' m'' e1 e2
          rw [runN] at e1 ⊢
          cases hst : step P m with
          | next m1 => rw [hst] at e1; exact ihk m1 m' m'' e1 e2
          | _ => rw [hst] at e1; cases e1
      exact this n _ _ _ ih h1
  obtain ⟨N, sE, hN, hE⟩ := (f 0).2.2.2.1 T0 fun i q a b => hT 0 i q a b
  rw [hrun N] at hN
  have := mach_inj (P := P) (by simpa using hN : mach P ((f N).1.ret T0) = mach P sE)
  refine (hf N).1.1 ⟨T0, fun i q a b => hT N i q a b, ?_⟩
  have e : (f N).1.ret T0 = sE := by
    obtain ⟨a, c, d⟩ := sE
    obtain ⟨e1, e2, e3⟩ := this
    simp only at e1 e2 e3
    subst e1 e2 e3
    rfl
  rw [e]
  exact hE
theorem panK_never (T : TameA P Al) (n : Nat) : ∀ (fr : Frame) (st : List Frame) (w : World) (c : List PanicEntry), fr.mode = .panicking c → fr.defers = [] → Al fr.fn = true → (∀ f ∈ st, f.mode = .run ∧ f.defers = [] ∧ Al f.fn = true) → ∀ sE : St, (sE.st = [] ∧ sE.fr.mode = .run) → runN P n (lone fr (st ++ [c0 P]) w) ≠ .next (mach P sE) := by
  induction n with
  | zero =>
    intro fr st w c hm hd ha hst sE hdon h
    have h' : mach P ⟨fr, st, w⟩ = mach P sE := by simpa [runN, mach] using h
    have := mach_inj h'
    have hx : fr.mode = .run := (congrArg Frame.mode this.1).trans hdon.2
    rw [hm] at hx
    cases hx
  | succ n ih =>
    intro fr st w c hm hd ha hst sE hdon h
    obtain ⟨fn, body, f1, _⟩ := T.body fr.fn ha
    have hcat : fr.catches P = false := by simp [Frame.catches, f1]
    cases st with
    | cons f2 st2 =>
      have hg : stepG P true (G fr (f2 :: st2 ++ [c0 P])) w = .go (G (f2.raise c) (st2 ++ [c0 P])) w #[] := by
        simp only [stepG, G, hm, unwind, hd, hcat, List.cons_append]
        rfl
      rw [runN, step_of_go hg] at h
      obtain ⟨g1, g2, g3⟩ := hst f2 List.mem_cons_self
      exact ih (f2.raise c) st2 w c (by simp [Frame.raise, g1]) (by simp [Frame.raise, g1, g2]) (by simp [Frame.raise, g1, g3]) (fun f hf => hst f (List.mem_cons_of_mem _ hf)) sE hdon h
    | nil =>
      have hg : stepG P true (G fr ([] ++ [c0 P])) w = .go (G ((c0 P).raise c) []) w #[] := by
        simp only [stepG, G, hm, unwind, hd, hcat, List.nil_append]
        rfl
      rw [runN, step_of_go hg] at h
      have h2 : ∃ o w1 es, stepG P true (G ((c0 P).raise c) []) w = .ended o w1 es := by
        have e1 : ((c0 P).raise c).mode = .panicking c := rfl
        have e2 : ((c0 P).raise c).defers = [] := rfl
        have e3 : ((c0 P).raise c).catches P = true := by
          have : P.funcs[P.funcs.size]? = none := by simp
          simp only [Frame.catches, Frame.raise, c0, this]
          exact door_starts
        refine ⟨_, _, _, by simp only [stepG, G, e1, unwind, e2, e3]; rfl⟩
      obtain ⟨o, w1, es, h2⟩ := h2
      cases n with
      | zero =>
        simp only [runN] at h
        have h3 : lone ((c0 P).raise c) [] w = mach P sE := by simpa using h
        simp only [mach, lone, Machine.mk.injEq, Array.mk.injEq, List.cons.injEq, Goroutine.mk.injEq, and_true] at h3
        have := congrArg List.length h3.2.2
        simp at this
      | succ n => simp only [runN, step_of_ended h2] at h; cases h
theorem retK_never (T : TameA P Al) (hp : PartA P Al s) (h1 : s.st = []) (h2 : s.fr.mode = .returning) {n : Nat} {sE : St} (hE : sE.fr.mode = .run) : runN P n (mach P s) ≠ .next (mach P sE) := fun h => by
  obtain ⟨e1, _⟩ := donA_zero T hp ⟨h1, h2⟩ h
  rw [e1, h2] at hE
  cases hE
theorem nilK_never (T : TameA P Al) (hp : PartA P Al s) (h1 : s.st = []) (h2 : s.fr.todo = []) (h3 : s.fr.mode = .run) {n : Nat} {sE : St} (hE : sE.fr.mode = .run) : runN P (n + 1) (mach P s) ≠ .next (mach P sE) := fun h => by
  have hs : step P (mach P s) = .next (mach P ⟨{ s.fr with todo := [], mode := .returning }, [], s.w⟩) := by
    have hg : stepG P true (G s.fr (s.st ++ [c0 P])) s.w = .go (G { s.fr with todo := [], mode := .returning } ([] ++ [c0 P])) s.w #[] := by
      simp [stepG, stepG.exec, G, h1, h2, h3, hp.1.round]
    exact step_of_go hg
  simp only [runN, hs] at h
  have hp' : PartA P Al ⟨{ s.fr with todo := [], mode := .returning }, [], s.w⟩ := ⟨⟨hp.1.al, by simp, hp.1.fns, hp.1.defers, .inr rfl, hp.1.kind, hp.1.round⟩, .nil, hp.2.2⟩
  exact retK_never T hp' rfl rfl hE h
end
section
variable {P : Program} {Al : Als} {K : Act → World → Prop} {d0 : Nat}
def AfterK (P : Program) (K : Act → World → Prop) (w : World) (b : Frame) (k : List Item) (ds : List Deferred) (cs : List Frame) (g1 : Goroutine) (w1 : World) : Prop :=
  ∃ a τ d, g1 = G (b.at { a with defers := ds } k) cs ∧ K a (atw w1 τ d) ∧ CellsTo P.globals.size w1 ∧ w.heap.size ≤ w1.heap.size ∧ w1.tape = w.tape
theorem besK (T : TameA P Al) {b : Frame} {k : List Item} {ds : List Deferred} {w0 : World} {cs : List Frame} (s : St) (hacc : Acc (NxK P (EndK b K) d0) s) : ∀ (m : Nat) (gs : Array Goroutine) (w : World) (sl : Option (Nat × Nat)) (t : Trace) (q : Nat → Nat), sumTo gs.size q = m → (∃ τ d, s.w = atw w τ d) → PartA P Al s → GoodK P (EndK b K) d0 s → d0 ≤ s.w.drawn → w0.heap.size ≤ w.heap.size → w.tape = w0.tape → gs[0]? = some (G (topK k ds s.fr s.st) (appL k ds s.st ++ cs)) → LeavX P 0 t gs q → Past (fun _ => False) w.heap.size t →
    Comes P (fun gs1 w1 _ t1 => ∃ g1 q1, gs1[0]? = some g1 ∧ AfterK P K w0 b k ds cs g1 w1 ∧ LeavX P 0 t1 gs1 q1 ∧ Past (fun _ => False) w1.heap.size t1) gs w sl t := by
  induction hacc with
  | intro s _ ihC =>
    intro m
    induction m using Nat.strongRecOn with
    | _ m ih =>
      intro gs w sl t q hm hw hp hg hd hsz htp h0 hL hP
      by_cases hstop : StopK (EndK b K) d0 s
      · -- done
        obtain ⟨τ1, _, hst, a, hfr, hK⟩ := hstop
        obtain ⟨τ0, d, hsw⟩ := hw
        simp only [St.ret] at hst hfr hK
        refine .now ⟨_, q, h0, ⟨a, τ1, d, ?_, ?_, ?_, hsz, htp⟩, hL, hP⟩
        · rw [hst, hfr]
          rfl
        · rw [hsw] at hK
          exact hK
        · have := hp.2.2
          rw [hsw] at this
          exact this
      obtain ⟨i, x, d, sl', hi, hx, hpick⟩ := crowd_pick (P := P) (w := w) (sl := sl) (hL.awake h0 rfl) ⟨0, _, h0, rfl⟩
      rcases Nat.eq_zero_or_pos i with rfl | hpos
      · obtain rfl : x = G (topK k ds s.fr s.st) (appL k ds s.st ++ cs) := by rw [h0] at hi; exact (Option.some.inj hi).symm
        have hlt : 0 < gs.size := (Array.getElem?_eq_some_iff.1 h0).1
        obtain ⟨τ0, dd, hsw⟩ := hw
        have hat : ∀ τ, atw (World.ret s.w τ) w.tape d = w.at d := fun τ => by rw [hsw]; rfl
        obtain ⟨τ, hτ⟩ : ∃ τ : Nat → Question → Nat, τ = fun i q => if i < s.w.drawn then s.w.tape i q else w.tape (i - s.w.drawn + d) q := ⟨_, rfl⟩
        have hold : ∀ i q, d0 ≤ i → i < s.w.drawn → τ i q = s.w.tape i q := fun i q _ h => by rw [hτ]; simp [h]
        obtain ⟨n, sE, hn, hE1⟩ := hg τ hold
        obtain ⟨hEst, hEr⟩ := endK_run hE1
        have hpτ : PartA P Al (s.ret τ) := hp
        cases n with
        | zero =>
          have := mach_inj (by simpa [runN] using hn : mach P (s.ret τ) = mach P sE)
          refine absurd ⟨τ, hold, ?_⟩ hstop
          have e : s.ret τ = sE := by
            obtain ⟨a, c, d⟩ := sE
            obtain ⟨e1, e2, e3⟩ := this
            simp only at e1 e2 e3
            subst e1 e2 e3
            rfl
          rw [e]
          exact hE1
        | succ n =>
          have hne : ¬ (s.st = [] ∧ s.fr.mode = .returning) := fun ⟨h1, h2⟩ => retK_never T hpτ h1 h2 hEr hn
          have hne2 : ¬ (s.st = [] ∧ s.fr.todo = []) := fun ⟨h1, h2⟩ => by
            rcases hp.1.run with h3 | h3
            · exact nilK_never T hpτ h1 h2 h3 hEr hn
            · exact hne ⟨h1, h3⟩
          have out := out_step (w := World.ret s.w τ) T hp.2.2 hp.1 hp.2.1 hne
          cases out with
          | ended h1 =>
            rw [runN, show mach P (s.ret τ) = lone s.fr (s.st ++ [c0 P]) (World.ret s.w τ) from rfl, step_of_ended h1] at hn
            cases hn
          | pan h1 hm1 hd1 hf1 =>
            rw [runN, show mach P (s.ret τ) = lone s.fr (s.st ++ [c0 P]) (World.ret s.w τ) from rfl, step_of_go h1] at hn
            exact absurd hn (panK_never T n _ _ _ _ hm1 hd1 hf1 (frsT_run hp.2.1) sE ⟨hEst, hEr⟩)
          | @go fr1 st1 w1 es hF1 hS1 ho1 hR1 he1 h1 h1K =>
            have htp1 : w1.tape = τ := ho1.tape
            have hdr : s.w.drawn ≤ w1.drawn := ho1.drawn
            have hself := h1 τ s.w.drawn w1.drawn (Nat.add_comm _ _) (fun i q _ => rfl) true [c0 P]
            have hself' : stepG P true (G s.fr (s.st ++ [c0 P])) (World.ret s.w τ) = .go (G fr1 (st1 ++ [c0 P])) w1 es := by
              have e : atw w1 τ w1.drawn = w1 := by rw [← htp1]; rfl
              rw [e] at hself
              exact hself
            have hnx : NxK P (EndK b K) d0 ⟨fr1, st1, w1⟩ s := ⟨⟨hstop, hne2⟩, fun i q a b => by rw [show (St.mk fr1 st1 w1).w.tape = τ from htp1]; exact hold i q a b, hF1.run, es, by rw [show (St.mk fr1 st1 w1).w.tape = τ from htp1]; exact hself'⟩
            have hgo := h1K hne2 k ds w.tape d (d + (w1.drawn - s.w.drawn)) (by show _ + s.w.drawn = _; omega) (fun i q hi => by
              show w.tape (d + i) q = τ (s.w.drawn + i) q
              rw [hτ]
              show _ = (if s.w.drawn + i < s.w.drawn then _ else _)
              rw [if_neg (by omega), show s.w.drawn + i - s.w.drawn + d = d + i by omega]) (0 == 0) cs
            rw [hat τ] at hgo
            have hsize : w.heap.size ≤ w1.heap.size := by
              have h2 : s.w.heap.size ≤ w1.heap.size := ho1.size
              have h3 : s.w.heap.size = w.heap.size := by rw [hsw]; rfl
              omega
            refine .step (hpick.trans (runT_crowd_go hi hgo)) (ihC ⟨fr1, st1, w1⟩ hnx _ _ (atw w1 w.tape (d + (w1.drawn - s.w.drawn))) sl' _ q rfl ⟨w1.tape, w1.drawn, rfl⟩ ⟨hF1, hS1, hR1⟩ (goodK_step T hp hg hd hnx) (Nat.le_trans hd hdr) (Nat.le_trans hsz hsize) htp (by simp [hlt]) (hL.own (.inl rfl) hlt fun op hop => ?_) ((hP.mono hsize).own fun e hee => he1 e hee))
            obtain ⟨e, h1, rfl⟩ := Go.Conc.mem_ofEvents hop
            rfl
      · obtain ⟨g', es, q', hmu, hgo, hL', hlt⟩ := hL.slip hpos (by omega) hi hx x.frame.fn x.frame.place (w.at d)
        obtain ⟨τ0, dd, hsw⟩ := hw
        refine .step (hpick.trans (runT_crowd_go hi hgo)) (ih _ (by rw [← hm]; exact hlt) _ (w.at d) sl' _ q' (by simp) ⟨τ0, dd, hsw⟩ hp hg hd hsz htp ?_ hL' (hP.mute (by omega) hmu))
        have hne : i ≠ 0 := by omega
        rw [Array.getElem?_setIfInBounds_ne hne, Array.getElem?_map, h0]
        simp [woken_run (show (G (topK k ds s.fr s.st) (appL k ds s.st ++ cs)).status = .running from rfl)]
theorem Bes.code (T : TameA P Al) {b : Frame} {a : Act} {c : Code} {k : List Item} {w : World} {cs : List Frame} (hf : Al b.fn = true) (hk : b.kind = .normal) (hc : okCodeT P Al (Al.f b.fn) c = true) (hx : ∀ t, Al.f b.fn t = true → FnV Al (a.tmps.getD t undef)) (hR : CellsTo P.globals.size w)
    (hC : ∀ τ, c.wp P (fun e a' w' => e = .normal ∧ K a' w') { a with defers := [] } (World.ret w τ)) :
    Bes P (AfterK P K w b k a.defers cs) (G (b.at a (.code c :: k)) cs) w := fun gs sl t q h0 hL hP => by
  obtain ⟨s0, hs0⟩ : ∃ s0 : St, s0 = ⟨b.at { a with defers := [] } [.code c], [], w⟩ := ⟨_, rfl⟩
  have hpart : PartA P Al s0 := by
    rw [hs0]
    refine ⟨⟨hf, fun i hi => ?_, hx, rfl, .inl rfl, hk, rfl⟩, .nil, hR⟩
    have : i = .code c := by simpa [Frame.at] using hi
    rw [this]
    exact hc
  have hgood : GoodK P (EndK b K) w.drawn s0 := fun τ _ => by
    rw [hs0]
    obtain ⟨e, a', w', ⟨rfl, hK⟩, harr⟩ := hC τ b [] [c0 P]
    obtain ⟨n, hn⟩ := harr
    exact ⟨n, ⟨b.at a' [], [], w'⟩, hn, rfl, a', rfl, hK⟩
  refine besK T s0 (goodK_acc T hpart hgood (by rw [hs0]; exact Nat.le_refl _)) _ gs w sl t q rfl ⟨w.tape, w.drawn, by rw [hs0]; rfl⟩ hpart hgood (by rw [hs0]; exact Nat.le_refl _) (Nat.le_refl _) rfl ?_ hL hP
  rw [hs0]
  exact h0
end
end Go.Proofs.YtnpffnhiefgglaaGreatDoor
namespace Go.Proofs.YtnpffnhiefgglaaGreatDoor
open Go Go.Conc
set_option maxRecDepth 100000
section
variable {P : Program} {main : Bool} {Sh : Nat → Prop} {Stop : (Nat → Prop) → Goroutine → World → Prop} {M : Nat → Prop} {g g' : Goroutine} {w w' : World}
theorem grown_self (h : w'.heap.size = w.heap.size) : grown M w w' = M := funext fun b => propext ⟨fun x => x.elim id fun y => by omega, .inl⟩
theorem Guar.quiet {es : Array Event} (h : ∀ e ∈ es, EvM Sh M e) : Guar Sh M w w es :=
  ⟨Nat.le_refl _, fun _ _ _ => rfl, fun _ _ _ => rfl, rfl, rfl, rfl, fun e he => by rw [grown_self rfl]; exact h e he⟩
theorem Co.quiet (hr : g.status = .running) (hs : ∀ w1, Keeps M w w1 → ∃ es, stepG P main g w1 = .go g' w1 es ∧ ∀ e ∈ es, EvM Sh M e) (h : Co P main Sh Stop M g' w) : Co P main Sh Stop M g w := by
  refine .step hr (fun w1 hk => ?_) fun w1 hk g'' w2 es he => ?_
  · obtain ⟨es, h1, h2⟩ := hs w1 hk
    exact ⟨g', w1, es, h1, .quiet h2⟩
  · obtain ⟨es', h1, _⟩ := hs w1 hk
    rw [he] at h1
    cases h1
    rw [grown_self rfl]
    exact h.keeps hk
theorem Co.ctl (hr : g.status = .running) (hs : ∀ w1, stepG P main g w1 = .go g' w1 #[]) (h : Co P main Sh Stop M g' w) : Co P main Sh Stop M g w :=
  .quiet hr (fun w1 _ => ⟨#[], hs w1, by simp⟩) h
def DQ (Sh M : Nat → Prop) (w w' : World) (es : Array Event) : Prop := w' = w ∧ ∀ e ∈ es, EvM Sh M e
theorem Co.alloc {o : Obj} {g' : Nat → Goroutine} (hr : g.status = .running) (hs : ∀ w1, Keeps M w w1 → ∃ es, stepG P main g w1 = .go (g' w1.heap.size) { w1 with heap := w1.heap.push o } es ∧ ∀ e ∈ es, EvM Sh (fun b => M b ∨ b = w1.heap.size) e) (hM : ∀ b, M b → b < w.heap.size)
    (h : ∀ w1, Keeps M w w1 → Co P main Sh Stop (fun b => M b ∨ b = w1.heap.size) (g' w1.heap.size) { w1 with heap := w1.heap.push o }) : Co P main Sh Stop M g w := by
  have hg : ∀ w1 : World, grown M w1 { w1 with heap := w1.heap.push o } = fun b => M b ∨ b = w1.heap.size := fun w1 => funext fun b => propext ⟨fun x => x.imp id fun y => by have h1 := y.1; have h2 := y.2; simp at h2; omega, fun x => x.imp id fun y => by subst y; simp⟩
  refine .step hr (fun w1 hk => ?_) fun w1 hk g'' w2 es he => ?_
  · obtain ⟨es, h1, h2⟩ := hs w1 hk
    have hp : ∀ b, b < w1.heap.size → (w1.heap.push o)[b]? = w1.heap[b]? := fun b hb => by rw [Array.getElem?_push_lt hb, Array.getElem?_eq_getElem hb]
    exact ⟨_, _, es, h1, by simp, fun b hb _ => hp b hb, fun b _ hm => hp b (Nat.lt_of_lt_of_le (hM b hm) hk.size), rfl, rfl, rfl, fun e hee => by rw [hg]; exact h2 e hee⟩
  · obtain ⟨es', h1, _⟩ := hs w1 hk
    rw [he] at h1
    cases h1
    rw [hg]
    exact h w1 hk
end
section
variable {P : Program} {Gl : Globs} {Al : Nat → Bool} {Sh : Nat → Prop} {main : Bool}
theorem co_call_in (T : TameP P Gl Al) {Tr : Nat → Prop} {Post : Value → World → Prop} {ρ : Ren} {f : FuncId} {args args' : Array Value} {wg w : World} {M R : Nat → Prop} {c : Frame} {cs : List Frame} {Stop : (Nat → Prop) → Goroutine → World → Prop} (hT0 : ∀ b b', ρ b b' → Tr b' → Sh b) (hTr : ∀ b', Tr b' → b' < w.heap.size) (hf : Al f = true)
    (hC : ∀ τ, Calls P f args (World.ret wg τ) fun e w1 => ∃ v, e = .returned v ∧ Post v w1) (hs : Sit 0 P Gl Al Sh ρ wg w) (hargs : RelR ρ args args') (hM : ∀ b', M b' ↔ (∃ b, ρ b b') ∨ R b') (hR : ∀ b, R b → b < w.heap.size ∧ ¬ ∃ c, ρ c b)
    (next : ∀ (ρ1 : Ren) (v v' : Value) (w1g w1 : World) (M' : Nat → Prop), RelV ρ1 v v' → Post v w1g → RelW 0 Sh ρ1 w1g w1 → ρ.le ρ1 → (∀ b b', ρ1 b b' → ρ b b' ∨ (wg.heap.size ≤ b ∧ w.heap.size ≤ b')) → (∀ b', M' b' ↔ (∃ b, ρ1 b b') ∨ R b') → Keeps R w w1 → Co P main Tr Stop M' (G (c.finish v') cs) w1) :
    Co P main Tr Stop M (G (Frame.enter P f args' .normal) (c :: cs)) w := by
  have h1 := co_call (main := main) (c := c) (cs := cs) T hT0 hTr hf hC hs hargs (M := fun b' => ∃ b, ρ b b') fun _ => .rfl
  refine (h1.frame (R := R) (w0 := w) hM (fun b hb => (hR b hb).1) (fun b hb => (hR b hb).2) (.refl _ _)).bind fun M' g1 w1 ⟨M1, ⟨ρ1, v, v', w1g, e1, e2, e3, e4, e5, e6, e7⟩, h3, h4⟩ => ?_
  subst e1
  exact next ρ1 v v' w1g w1 M' e2 e3 e4 e6 e7 (fun b' => by rw [h3 b', e5 b']) h4
end
end Go.Proofs.YtnpffnhiefgglaaGreatDoor
namespace Go.Proofs.YtnpffnhiefgglaaGreatDoor
open Go.RowKit
set_option maxRecDepth 100000
def BytesIn (w : World) (p : Option Addr) (n : Nat) (xs : List Int) : Prop :=
  0 < n → ∃ b o, p = some ⟨b, o, none⟩ ∧ ∀ i, i < n → w.cell? ⟨b, o + i, none⟩ = some (.int .u8 (xs.getD i 0))
theorem text_of {P : Program} {w : World} {p : Option Addr} {n : Nat} {xs : List Int} (h : BytesIn w p n xs) (hx : xs.length = n) (c : Nat) (src e dst : TypeId)
    (hs : P.underlying src = some (.slice e)) (he : P.underlying e = some (.int .u8)) (hd : P.underlying dst = some .string) :
    (convert src dst (.slice p n c)).run P w = .ok (.string (strOfNums xs)) w := by
  rcases Nat.eq_zero_or_pos n with hn | hn
  · subst hn
    obtain rfl : xs = [] := List.eq_nil_of_length_eq_zero hx
    rw [run_convert_bytes_string w src dst e _ 0 c hs he hd]
    cases p <;> simp [Conv.bytesToString, loadCells]
    all_goals rfl
  · obtain ⟨b, o, rfl, hc⟩ := h hn
    exact run_convert_bytes_arg (P := P) w src e hs he b o n c xs hx hc dst hd
theorem below_drewN {B : Nat} {a w : World} (h : Below B a w) (n : Nat) : Below B a (w.drewN n) := h.trans ⟨rfl, rfl, rfl, Nat.le_refl _, fun _ _ => rfl⟩
theorem below_on {a w w' : World} (h : Below a.heap.size a w) (k : Below w.heap.size w w') : Below a.heap.size a w' := h.trans (k.mono h.size)
theorem owns_below {w w' : World} {base e size : Nat} {v : Value} {n : Nat} {xs : List Value} (h : w.ownsRow base e size v n xs) (hb : Below w.heap.size w w') : w'.ownsRow base e size v n xs :=
  h.kept (row := none) ⟨hb.os, hb.tape, hb.output, hb.size, fun k hk _ => hb.block k hk⟩ (by cases v.ownBlock <;> simp)
theorem owns_mono {w : World} {base base' e size : Nat} {v : Value} {n : Nat} {xs : List Value} (h : w.ownsRow base e size v n xs) (hb : base' ≤ base) : w.ownsRow base' e size v n xs := by
  refine ⟨h.1, ?_⟩
  rcases h.2 with hn | ⟨g, cap, cur, hv, hbg, rest⟩
  · exact .inl hn
  · exact .inr ⟨g, cap, cur, hv, Nat.le_trans hb hbg, rest⟩
theorem owns_in {w : World} {base e : Nat} {p : Option Addr} {n c : Nat} {xs : List Int} (h : w.ownsRow base e 1 (.slice p n c) n (xs.map (Value.int .u8))) : BytesIn w p n xs := by
  intro hn
  rcases h.2 with ⟨_, h0⟩ | ⟨g, cap, cur, hv, _, _⟩
  · omega
  · simp only [Value.slice.injEq] at hv
    obtain ⟨rfl, _, rfl⟩ := hv
    refine ⟨g, 0, rfl, fun i hi => ?_⟩
    have hl := h.1
    simp only [List.length_map, Nat.mul_one] at hl
    have := h.cellAt i (by omega)
    simp only [Nat.zero_add]
    rw [this]
    simp [List.getElem?_eq_getElem (show i < xs.length by omega), List.getD]
theorem in_below {w w' : World} {p : Option Addr} {n : Nat} {xs : List Int} (h : BytesIn w p n xs) (hb : Below w.heap.size w w') : BytesIn w' p n xs := by
  intro hn
  obtain ⟨b, o, rfl, hc⟩ := h hn
  refine ⟨b, o, rfl, fun i hi => ?_⟩
  have hlt : b < w.heap.size := World.block_lt_of_cell? w ⟨b, o + i, none⟩ (hc i hi)
  rw [hb.cell (p := ⟨b, o + i, none⟩) hlt]
  exact hc i hi
theorem owns_len {w : World} {base e : Nat} {v : Value} {n : Nat} {xs : List Int} (h : w.ownsRow base e 1 v n (xs.map (Value.int .u8))) : xs.length = n := by
  have := h.1; simpa using this
theorem owns_form {w : World} {base e size : Nat} {v : Value} {n : Nat} {xs : List Value} (h : w.ownsRow base e size v n xs) : ∃ p c, v = .slice p n c := by
  rcases h.2 with ⟨rfl, rfl⟩ | ⟨g, cap, cur, rfl, _⟩
  · exact ⟨_, _, rfl⟩
  · exact ⟨_, _, rfl⟩
theorem fill_step (xs : List Int) (n k : Nat) (u : Int) (hu : u = xs.getD k 0) (hk : k < n) (hx : xs.length = n) :
    ((xs.take k ++ List.replicate (n - k) 0).map (Value.int .u8)).set k (.int .u8 u) = (xs.take (k + 1) ++ List.replicate (n - (k + 1)) 0).map (Value.int .u8) := by
  subst hu
  simp only [List.getD_eq_getElem?_getD]
  apply List.ext_getElem
  · simp; omega
  · intro i h1 h2
    simp only [List.getElem_set, List.getElem_map]
    simp at h1 h2
    by_cases e : k = i
    · subst e
      simp [List.getElem_append, hx, hk]
      intro h; omega
    · simp only [e, if_false]
      by_cases hi : i < k
      · simp [List.getElem_append, hx]
        rw [dif_pos (by omega), dif_pos (by omega)]
      · simp [List.getElem_append, hx]
        rw [dif_neg (by omega), dif_neg (by omega)]
theorem fill_old (xs : List Int) (n k : Nat) (hk : k < n) (hx : xs.length = n) : ((xs.take k ++ List.replicate (n - k) 0).map (Value.int .u8))[k]? = some (.int .u8 0) := by
  rw [List.getElem?_eq_getElem (by simp; omega)]
  simp [List.getElem_append, hx]
  intro h; omega
theorem fill_start (xs : List Int) (n : Nat) : (madeCells #[Value.int .u8 0] n).toList = (xs.take 0 ++ List.replicate (n - 0) 0).map (Value.int .u8) := by
  rw [toList_madeCells_one]
  simp
theorem fill_end (xs : List Int) (n : Nat) (hx : xs.length = n) : (xs.take n ++ List.replicate (n - n) 0) = xs := by
  subst hx; simp
theorem take_more {xs ys : List Int} {n k : Nat} (hx : xs.length = n) (hy : ys.length = n) (hk : k < n) (h : xs.take k = ys.take k) (e : xs.getD k 0 = ys.getD k 0) : xs.take (k + 1) = ys.take (k + 1) := by
  rw [List.take_succ_eq_append_getElem (by omega), List.take_succ_eq_append_getElem (by omega), h]
  simp [List.getElem?_eq_getElem (show k < xs.length by omega), List.getElem?_eq_getElem (show k < ys.length by omega)] at e
  rw [e]
theorem take_less {xs ys : List Int} {k : Nat} (e : xs.getD k 0 ≠ ys.getD k 0) : xs ≠ ys := fun h => e (by rw [h])
theorem take_all {xs ys : List Int} {n : Nat} (hx : xs.length = n) (hy : ys.length = n) (h : xs.take n = ys.take n) : xs = ys := by
  rwa [List.take_of_length_le (by omega), List.take_of_length_le (by omega)] at h
def marks (k : Int) (n : Nat) : List Int := (List.range n).map fun (i : Nat) => (k + (i : Int)) % 256
theorem marks_length (k : Int) (n : Nat) : (marks k n).length = n := by simp [marks]
theorem marks_getD (k : Int) (n i : Nat) (h : i < n) : (marks k n).getD i 0 = (k + (i : Int)) % 256 := by simp [marks, h]
theorem marks_step (k : Int) (xs : List Int) (n j : Nat) (u : Int) (hu : u = (k + (j : Int)) % 256) (hj : j < n) (hx : xs.length = n) :
    ((marks k j ++ xs.drop j).map (Value.int .u8)).set j (.int .u8 u) = (marks k (j + 1) ++ xs.drop (j + 1)).map (Value.int .u8) := by
  subst hu
  have e : xs.drop j = xs[j]'(by omega) :: xs.drop (j + 1) := List.drop_eq_getElem_cons (by omega)
  have m : marks k (j + 1) = marks k j ++ [(k + (j : Int)) % 256] := by simp [marks, List.range_succ]
  rw [e, m, List.map_append, List.map_cons, List.set_append_right _ _ (by simp [marks_length])]
  simp [marks_length]
theorem marks_old (k : Int) (xs : List Int) (n j : Nat) (hj : j < n) (hx : xs.length = n) : ∃ u, ((marks k j ++ xs.drop j).map (Value.int .u8))[j]? = some (.int .u8 u) := by
  refine ⟨(marks k j ++ xs.drop j)[j]'(by simp [marks_length]; omega), ?_⟩
  rw [List.getElem?_eq_getElem (by simp [marks_length]; omega), List.getElem_map]
theorem marks_end (k : Int) (xs : List Int) (n : Nat) (hx : xs.length = n) : marks k n ++ xs.drop n = marks k n := by
  rw [List.drop_of_length_le (by omega), List.append_nil]
theorem grown_trans {a b c : World} {row : Option Nat} (h : a.grownBy b row) (k : b.grownBy c row) : a.grownBy c row :=
  ⟨k.os.trans h.os, k.tape.trans h.tape, k.output.trans h.output, Nat.le_trans h.size k.size, fun i hi hr => (k.block i (Nat.lt_of_lt_of_le hi h.size) hr).trans (h.block i hi hr)⟩
theorem owns_at {w : World} {base e : Nat} {p : Option Addr} {n c : Nat} {xs : List Value} (h : w.ownsRow base e 1 (.slice p n c) n xs) (hn : 0 < n) : ∃ g, p = some ⟨g, 0, none⟩ := by
  rcases h.2 with ⟨_, h0⟩ | ⟨g, cap, cur, hv, _⟩
  · omega
  · simp only [Value.slice.injEq] at hv
    exact ⟨g, hv.1⟩
def Own (e : Nat) (w : World) (lo hi : Nat) (v : Value) (n : Nat) (xs : List Int) : Prop := w.ownsRow lo e 1 v n (xs.map (Value.int .u8)) ∧ ∀ k, v.ownBlock = some k → k < hi
section
variable {e : Nat} {w w' a : World} {lo hi lo' hi' : Nat} {u v : Value} {n m : Nat} {xs ys : List Int}
theorem Own.of (h : w.ownsRow lo e 1 v n (xs.map (Value.int .u8))) : Own e w lo w.heap.size v n xs := ⟨h, fun k hk => (h.lt k hk).2⟩
theorem Own.on (h : Own e w lo hi v n xs) (hb : Below w.heap.size w w') : Own e w' lo hi v n xs := ⟨owns_below h.1 hb, h.2⟩
theorem Own.far (h : Own e w lo hi v n xs) (hg : w.grownBy w' u.ownBlock) (hu : Own e w lo' hi' u m ys) (hd : hi ≤ lo' ∨ hi' ≤ lo) : Own e w' lo hi v n xs := by
  refine ⟨h.1.kept hg ?_, h.2⟩
  rcases hv : v.ownBlock with _ | k
  · exact .inl rfl
  · right
    intro he
    have h1 := h.2 k hv
    have h2 := (h.1.lt k hv).1
    have h3 := hu.2 k he.symm
    have h4 := (hu.1.lt k he.symm).1
    omega
theorem Own.len (h : Own e w lo hi v n xs) : xs.length = n := owns_len h.1
theorem Own.bytes {p : Option Addr} {c : Nat} (h : Own e w lo hi (.slice p n c) n xs) : BytesIn w p n xs := owns_in h.1
theorem below_mark (h : Below a.heap.size a w) (hg : w.grownBy w' u.ownBlock) (hu : Own e w lo' hi' u m ys) (hlo : a.heap.size ≤ lo') : Below a.heap.size a w' :=
  h.grown hg h.size fun k hk => Nat.le_trans hlo (hu.1.lt k hk).1
end
section
variable {P : Program} {e : TypeId} {i : TypeInfo} {base n : Nat} {wr : World} {v : Value} {xs : List Int}
theorem pushs_fit {m : Nat} (hn : n ≤ 1099511627776) (hm : m ≤ 1099511627776) : n + m ≤ maxLen ∧ (n + m) * 1 ≤ 140737488355328 := by unfold maxLen; omega
theorem step_pushs {ops : Array Oper} {o : Oper} {a : Act} {K : Act → World → Prop} {Q : Exit → Act → World → Prop} {E : Prop} (hi : P.info? e = some i) (hz : i.zero = some (.int .u8 0)) (hsize : i.size = 1) (hby : i.bytes = 1)
    (s y : Operand) (t : TypeId) (ht : P.underlying t = some (.slice e)) (cs : Array Value) (ys : List Int) (hcs : cs.toList = ys.map (Value.int .u8)) (hm : 0 < ys.length) (hm' : ys.length ≤ 1099511627776)
    (hown : wr.ownsRow base e 1 v n (xs.map (Value.int .u8))) (hn : n ≤ 1099511627776) (hbase : base ≤ wr.heap.size)
    (hgd : o.guard = none) (ho : o.op = .call { callee := .builtin .append, args := #[s, y], argTypes := #[t, t] }) (hs : a.eval s = v) (hy : a.eval y = .slice (some ⟨wr.heap.size, 0, none⟩) ys.length ys.length)
    (h : ∀ g cap w', w'.ownsRow base e 1 (.slice (some ⟨g, 0, none⟩) (n + ys.length) cap) (n + ys.length) ((xs ++ ys).map (Value.int .u8)) → Below base wr w' → K (a.put o.dst (.slice (some ⟨g, 0, none⟩) (n + ys.length) cap)) w') :
    if Region.wanted o (yielded ops a.tmps) = true then Oper.wp P o a (wr.alloc (.cells cs e)).drew K Q else E := by
  refine step_append_lies _ hgd s y t ho base e i (.int .u8 0) 1 1 ht hi hz hsize hby rfl (by decide) v n (xs.map (Value.int .u8)) hs (hown.alloc _).drew ⟨wr.heap.size, 0, none⟩ ys.length ys.length (ys.map (Value.int .u8)) hy (by simp) ?_ (ints_oneCell _ _) hm (pushs_fit hn hm').1 (pushs_fit hn hm').2 (by simp; omega) _ rfl ?_
  · rw [← hcs]
    exact World.news_of_block (cs := cs) (heap_alloc_new wr _)
  · intro g cap w' h1 h2 _ _
    refine h g cap w' (by simpa using h1) (((Below.refl _ _).alloc hbase _).drew.grown h2 (by simp; omega) fun k hk => (hown.lt k hk).1)
theorem list_pushs {ops : Array Oper} {rest : List Oper} {o : Oper} {a : Act} {Q : Exit → Act → World → Prop} (hi : P.info? e = some i) (hz : i.zero = some (.int .u8 0)) (hsize : i.size = 1) (hby : i.bytes = 1)
    (s y : Operand) (t : TypeId) (ht : P.underlying t = some (.slice e)) (cs : Array Value) (ys : List Int) (hcs : cs.toList = ys.map (Value.int .u8)) (hm : 0 < ys.length) (hm' : ys.length ≤ 1099511627776)
    (hown : wr.ownsRow base e 1 v n (xs.map (Value.int .u8))) (hn : n ≤ 1099511627776) (hbase : base ≤ wr.heap.size)
    (hgd : o.guard = none) (ho : o.op = .call { callee := .builtin .append, args := #[s, y], argTypes := #[t, t] }) (hs : a.eval s = v) (hy : a.eval y = .slice (some ⟨wr.heap.size, 0, none⟩) ys.length ys.length)
    (h : ∀ g cap w', w'.ownsRow base e 1 (.slice (some ⟨g, 0, none⟩) (n + ys.length) cap) (n + ys.length) ((xs ++ ys).map (Value.int .u8)) → Below base wr w' → wpList P ops Q rest (a.put o.dst (.slice (some ⟨g, 0, none⟩) (n + ys.length) cap)) w') :
    wpList P ops Q (o :: rest) a (wr.alloc (.cells cs e)) := by
  refine wpList_append_lies _ hgd s y t ho base e i (.int .u8 0) 1 1 ht hi hz hsize hby rfl (by decide) v n (xs.map (Value.int .u8)) hs (hown.alloc _) ⟨wr.heap.size, 0, none⟩ ys.length ys.length (ys.map (Value.int .u8)) hy (by simp) ?_ (ints_oneCell _ _) hm (pushs_fit hn hm').1 (pushs_fit hn hm').2 (by simp; omega) _ rfl ?_
  · rw [← hcs]
    exact World.news_of_block (cs := cs) (heap_alloc_new wr _)
  · intro g cap w' h1 h2 _ _
    refine h g cap w' (by simpa using h1) (((Below.refl _ _).alloc hbase _).grown h2 (by simp; omega) fun k hk => (hown.lt k hk).1)
theorem step_push {ops : Array Oper} {o : Oper} {a : Act} {K : Act → World → Prop} {Q : Exit → Act → World → Prop} {E : Prop} (hi : P.info? e = some i) (hz : i.zero = some (.int .u8 0)) (hsize : i.size = 1) (hby : i.bytes = 1)
    (s y : Operand) (t : TypeId) (ht : P.underlying t = some (.slice e)) (x : Int) (hown : wr.ownsRow base e 1 v n (xs.map (Value.int .u8))) (hn : n ≤ 1099511627776) (hbase : base ≤ wr.heap.size)
    (hgd : o.guard = none) (ho : o.op = .call { callee := .builtin .append, args := #[s, y], argTypes := #[t, t] }) (hs : a.eval s = v) (hy : a.eval y = .slice (some ⟨wr.heap.size, 0, none⟩) 1 1)
    (h : ∀ g cap w', w'.ownsRow base e 1 (.slice (some ⟨g, 0, none⟩) (n + 1) cap) (n + 1) ((xs ++ [x]).map (Value.int .u8)) → Below base wr w' → K (a.put o.dst (.slice (some ⟨g, 0, none⟩) (n + 1) cap)) w') :
    if Region.wanted o (yielded ops a.tmps) = true then Oper.wp P o a (wr.alloc (.cells #[.int .u8 x] e)).drew K Q else E :=
  step_pushs hi hz hsize hby s y t ht #[.int .u8 x] [x] rfl (by simp) (by simp) hown hn hbase hgd ho hs hy h
theorem list_push {ops : Array Oper} {rest : List Oper} {o : Oper} {a : Act} {Q : Exit → Act → World → Prop} (hi : P.info? e = some i) (hz : i.zero = some (.int .u8 0)) (hsize : i.size = 1) (hby : i.bytes = 1)
    (s y : Operand) (t : TypeId) (ht : P.underlying t = some (.slice e)) (x : Int) (hown : wr.ownsRow base e 1 v n (xs.map (Value.int .u8))) (hn : n ≤ 1099511627776) (hbase : base ≤ wr.heap.size)
    (hgd : o.guard = none) (ho : o.op = .call { callee := .builtin .append, args := #[s, y], argTypes := #[t, t] }) (hs : a.eval s = v) (hy : a.eval y = .slice (some ⟨wr.heap.size, 0, none⟩) 1 1)
    (h : ∀ g cap w', w'.ownsRow base e 1 (.slice (some ⟨g, 0, none⟩) (n + 1) cap) (n + 1) ((xs ++ [x]).map (Value.int .u8)) → Below base wr w' → wpList P ops Q rest (a.put o.dst (.slice (some ⟨g, 0, none⟩) (n + 1) cap)) w') :
    wpList P ops Q (o :: rest) a (wr.alloc (.cells #[.int .u8 x] e)) :=
  list_pushs hi hz hsize hby s y t ht #[.int .u8 x] [x] rfl (by simp) (by simp) hown hn hbase hgd ho hs hy h
end
end Go.Proofs.YtnpffnhiefgglaaGreatDoor
