/-
  What the program's ladder answers by whole numbers: ladderAt, changed, step. Conditions: numbers from 0 to below p.
-/
import Derived.Test.YtghoibggmddkmaoLadStep
import Derived.Test.YtghoibggmddkmaoFieldG
import Derived.Test.YtghoibggmddkmaoFieldD
namespace Go.Proofs.Ytghoibggmddkmao
open Go.RowKit

def numV (z : Int) : List Value := uV (numU z) 4
theorem numV_q4 (z : Int) : Q4 (numV z) := q4 z
def ladC (x : Int) (s : Lad) : List Value := LadV (numV x) (numV s.a) (numV s.c) (numV s.b) (numV s.d)
theorem ladC_length (x : Int) (s : Lad) : (ladC x s).length = 20 := LadV_length (q4 _) (q4 _) (q4 _) (q4 _) (q4 _)
theorem ladC_one (x : Int) (s : Lad) : ∀ v ∈ ladC x s, v.oneCell' = true := LadV_one (q4 _) (q4 _) (q4 _) (q4 _) (q4 _)
def modL (s : Lad) : Lad := ⟨s.a % fldP, s.b % fldP, s.c % fldP, s.d % fldP⟩
def inP (x : Int) : Prop := 0 ≤ x ∧ x < fldP
theorem inP_mod (x : Int) : inP (x % fldP) := modP_range x
theorem inP.b4 {x : Int} (h : inP x) : 0 ≤ x ∧ x < bU ^ 4 := by have := b4U; have := h.1; have := h.2; have := fldP_pos; omega
def inL (s : Lad) : Prop := inP s.a ∧ inP s.b ∧ inP s.c ∧ inP s.d
theorem inL_mod (s : Lad) : inL (modL s) := ⟨inP_mod _, inP_mod _, inP_mod _, inP_mod _⟩
theorem inL.ladIf {s : Lad} (h : inL s) (t : Bool) : inL (ladIf t s) := by
  cases t
  · exact h
  · exact ⟨h.2.1, h.1, h.2.2.2, h.2.2.1⟩
theorem modL_like (s : Lad) : likeL (modL s) s := ⟨likeP_mod _, likeP_mod _, likeP_mod _, likeP_mod _⟩
theorem likeL.modL {s t : Lad} (h : likeL s t) : modL s = modL t := by
  unfold Go.Proofs.Ytghoibggmddkmao.modL
  rw [h.1.mod, h.2.1.mod, h.2.2.1.mod, h.2.2.2.mod]

theorem ladderAt_any (x : Int) (w : World) : Calls Try.prog 25 #[.agg (numV x).toArray] w fun e w' => e = .returned (.agg (ladC x ⟨1, x, 0, 1⟩).toArray) ∧ Below w.heap.size w w' :=
  ladderAt_sym (numV x) (numV 1) (numV 0) w (q4 _) rfl rfl

theorem changed_any (x : Int) (s : Lad) (t : Bool) (w : World) : Calls Try.prog 40 #[.agg (ladC x s).toArray, .bool t] w fun e w' => e = .returned (.agg (ladC x (ladIf t s)).toArray) ∧ Below w.heap.size w w' := by
  cases t
  · exact changed_false _ _ _ _ _ w (q4 _) (q4 _) (q4 _) (q4 _) (q4 _)
  · exact changed_true _ _ _ _ _ w (q4 _) (q4 _) (q4 _) (q4 _) (q4 _)

theorem cplus {x y : Int} (hx : inP x) (hy : inP y) (X : World) : Calls Try.prog 49 #[.agg (numV x).toArray, .agg (numV y).toArray] X fun e w' => e = .returned (.agg (numV ((x + y) % fldP)).toArray) ∧ Below X.heap.size X w' :=
  plus_any x y X hx.1 hy.1 (by have := b4U; have := hx.2; have := hy.2; omega)
theorem cminus {x y : Int} (hx : inP x) (hy : inP y) (X : World) : Calls Try.prog 50 #[.agg (numV x).toArray, .agg (numV y).toArray] X fun e w' => e = .returned (.agg (numV ((x - y) % fldP)).toArray) ∧ Below X.heap.size X w' :=
  minus_any x y X hx.1 hx.2 hy.1 hy.2
theorem ctimes {x y : Int} (hx : inP x) (hy : inP y) (X : World) : Calls Try.prog 27 #[.agg (numV x).toArray, .agg (numV y).toArray] X fun e w' => e = .returned (.agg (numV (x * y % fldP)).toArray) ∧ Below X.heap.size X w' :=
  times_any x y X hx.b4.1 hx.b4.2 hy.b4.1 hy.b4.2

theorem step_any (x : Int) (s : Lad) (w : World) (hx : inP x) (hs : inL s) : Calls Try.prog 41 #[.agg (ladC x s).toArray] w fun e w' => e = .returned (.agg (ladC x (modL (ladStep x s))).toArray) ∧ Below w.heap.size w w' := by
  obtain ⟨a, ha⟩ : ∃ a, a = (s.a + s.c) % fldP := ⟨_, rfl⟩
  obtain ⟨b, hb⟩ : ∃ a, a = (s.a - s.c) % fldP := ⟨_, rfl⟩
  obtain ⟨c, hc⟩ : ∃ a, a = (s.b + s.d) % fldP := ⟨_, rfl⟩
  obtain ⟨d, hd⟩ : ∃ a, a = (s.b - s.d) % fldP := ⟨_, rfl⟩
  have la : likeP a (s.a + s.c) := by rw [ha]; exact likeP_mod _
  have lb : likeP b (s.a - s.c) := by rw [hb]; exact likeP_mod _
  have lc : likeP c (s.b + s.d) := by rw [hc]; exact likeP_mod _
  have ld : likeP d (s.b - s.d) := by rw [hd]; exact likeP_mod _
  have ia : inP a := by rw [ha]; exact inP_mod _
  have ib : inP b := by rw [hb]; exact inP_mod _
  have ic : inP c := by rw [hc]; exact inP_mod _
  have id' : inP d := by rw [hd]; exact inP_mod _
  have laa : likeP (a * a % fldP) (ladEE s) := (likeP_mod _).trans (la.mul la)
  have lbb : likeP (b * b % fldP) (ladFF s) := (likeP_mod _).trans (lb.mul lb)
  have lda : likeP (d * a % fldP) (ladHE s) := (likeP_mod _).trans (ld.mul la)
  have lcb : likeP (c * b % fldP) (ladGF s) := (likeP_mod _).trans (lc.mul lb)
  have le : likeP ((a * a % fldP - b * b % fldP) % fldP) (ladEE s - ladFF s) := (likeP_mod _).trans (laa.sub lbb)
  have lbo : likeP ((d * a % fldP + c * b % fldP) % fldP) (ladHE s + ladGF s) := (likeP_mod _).trans (lda.add lcb)
  have lbe : likeP ((d * a % fldP - c * b % fldP) % fldP) (ladHE s - ladGF s) := (likeP_mod _).trans (lda.sub lcb)
  have h := step_sym (numV x) (numV s.a) (numV s.c) (numV s.b) (numV s.d) (numV 121665) (numV a) (numV b) (numV (a * a % fldP)) (numV (b * b % fldP)) (numV ((a * a % fldP - b * b % fldP) % fldP)) (numV c) (numV d) (numV (d * a % fldP)) (numV (c * b % fldP))
    (numV ((d * a % fldP + c * b % fldP) % fldP)) (numV ((d * a % fldP - c * b % fldP) % fldP))
    (numV ((d * a % fldP + c * b % fldP) % fldP * ((d * a % fldP + c * b % fldP) % fldP) % fldP)) (numV ((d * a % fldP - c * b % fldP) % fldP * ((d * a % fldP - c * b % fldP) % fldP) % fldP))
    (numV (x * ((d * a % fldP - c * b % fldP) % fldP * ((d * a % fldP - c * b % fldP) % fldP) % fldP) % fldP))
    (numV (a * a % fldP * (b * b % fldP) % fldP)) (numV ((a * a % fldP - b * b % fldP) % fldP * 121665 % fldP)) (numV ((a * a % fldP + (a * a % fldP - b * b % fldP) % fldP * 121665 % fldP) % fldP))
    (numV ((a * a % fldP - b * b % fldP) % fldP * ((a * a % fldP + (a * a % fldP - b * b % fldP) % fldP * 121665 % fldP) % fldP) % fldP))
    w rfl (q4 _) (q4 _) (q4 _) (q4 _) (q4 _) (q4 _) (q4 _) (q4 _) (q4 _) (q4 _) (q4 _) (q4 _) (q4 _) (q4 _) (q4 _) (q4 _) (q4 _) (q4 _) (q4 _) (q4 _)
    (by have h := cplus hs.1 hs.2.2.1; rw [← ha] at h; exact h) (by have h := cminus hs.1 hs.2.2.1; rw [← hb] at h; exact h) (ctimes ia ia) (ctimes ib ib) (cminus (inP_mod _) (inP_mod _))
    (by have h := cplus hs.2.1 hs.2.2.2; rw [← hc] at h; exact h) (by have h := cminus hs.2.1 hs.2.2.2; rw [← hd] at h; exact h) (ctimes id' ia) (ctimes ic ib) (cplus (inP_mod _) (inP_mod _)) (cminus (inP_mod _) (inP_mod _))
    (ctimes (inP_mod _) (inP_mod _)) (ctimes (inP_mod _) (inP_mod _)) (ctimes hx (inP_mod _))
    (ctimes (inP_mod _) (inP_mod _)) (ctimes (inP_mod _) ⟨by decide, by decide⟩) (cplus (inP_mod _) (inP_mod _)) (ctimes (inP_mod _) (inP_mod _))
  have eA : a * a % fldP * (b * b % fldP) % fldP = (ladStep x s).a % fldP := (laa.mul lbb).mod
  have eB : (d * a % fldP + c * b % fldP) % fldP * ((d * a % fldP + c * b % fldP) % fldP) % fldP = (ladStep x s).b % fldP := (lbo.mul lbo).mod
  have eD : x * ((d * a % fldP - c * b % fldP) % fldP * ((d * a % fldP - c * b % fldP) % fldP) % fldP) % fldP = (ladStep x s).d % fldP := (((likeP_mod _).trans (lbe.mul lbe)).mulL x).mod
  have eC : (a * a % fldP - b * b % fldP) % fldP * ((a * a % fldP + (a * a % fldP - b * b % fldP) % fldP * 121665 % fldP) % fldP) % fldP = (ladStep x s).c % fldP :=
    (le.mul ((likeP_mod _).trans (laa.add ((likeP_mod _).trans (le.mulR _))))).mod
  rw [eA, eB, eC, eD] at h
  exact h

end Go.Proofs.Ytghoibggmddkmao
