/-
  A region that draws its order, with two calls, one behind the other, and two variables that are made at any time: the ways meet again behind them. Conditions: each law's own.
-/
import Derived.Test.YtghoibggmddkmaoFieldA
namespace Go.Proofs.Ytghoibggmddkmao
open Go.RowKit

/-- What has come up: of the calls k, the first variable, the second one. -/
def selP (c1 c2 b1 b2 : Nat) (L : Array Bool) (k : Nat) (p q : Bool) : Array Bool :=
  let L1 := if 1 ≤ k then L.setIfInBounds c1 true else L
  let L2 := if 2 ≤ k then L1.setIfInBounds c2 true else L1
  let L3 := if p then L2.setIfInBounds b1 true else L2
  if q then L3.setIfInBounds b2 true else L3
def rdP (c1 c2 b1 b2 : Nat) (k : Nat) (p q : Bool) : List Nat :=
  (if k = 0 then [c1] else if k = 1 then [c2] else []) ++ ((if p then [] else [b1]) ++ (if q then [] else [b2]))
def okP (ops : Array Oper) (c1 c2 b1 b2 : Nat) (L : Array Bool) : Bool :=
  decide (c1 ≠ c2 ∧ c1 ≠ b1 ∧ c1 ≠ b2 ∧ c2 ≠ b1 ∧ c2 ≠ b2 ∧ b1 ≠ b2) && (List.range 3).all fun k => [false, true].all fun p => [false, true].all fun q => (k == 2 && p && q) || (Region.ready .any ops (selP c1 c2 b1 b2 L k p q) == rdP c1 c2 b1 b2 k p q)
theorem okP_ready {ops : Array Oper} {c1 c2 b1 b2 : Nat} {L : Array Bool} (h : okP ops c1 c2 b1 b2 L = true) (k : Nat) (hk : k ≤ 2) (p q : Bool) (hne : ¬ (k = 2 ∧ p = true ∧ q = true)) :
    Region.ready .any ops (selP c1 c2 b1 b2 L k p q) = rdP c1 c2 b1 b2 k p q := by
  unfold okP at h
  rw [Bool.and_eq_true, List.all_eq_true] at h
  have h1 := h.2 k (List.mem_range.2 (by omega))
  rw [List.all_eq_true] at h1
  have h2 := h1 p (by cases p <;> simp)
  rw [List.all_eq_true] at h2
  have h3 := h2 q (by cases q <;> simp)
  rw [Bool.or_eq_true] at h3
  rcases h3 with h3 | h3
  · simp only [Bool.and_eq_true, beq_iff_eq] at h3
    exact absurd ⟨h3.1.1, h3.1.2, h3.2⟩ hne
  · simpa using h3
theorem okP_apart {ops : Array Oper} {c1 c2 b1 b2 : Nat} {L : Array Bool} (h : okP ops c1 c2 b1 b2 L = true) : c1 ≠ c2 ∧ c1 ≠ b1 ∧ c1 ≠ b2 ∧ c2 ≠ b1 ∧ c2 ≠ b2 ∧ b1 ≠ b2 := by
  unfold okP at h
  rw [Bool.and_eq_true] at h
  exact of_decide_eq_true h.1
/-- The frame: the two variables' slots, the two calls' slots. -/
def frP (a : Act) (d1 d2 e1 e2 : Nat) (u1 u2 r1 r2 : Value) : Act := (((a.put (some d1) u1).put (some d2) u2).put (some e1) r1).put (some e2) r2
section
variable {P : Program} {ops : Array Oper} {Q : Exit → Act → World → Prop} {T : World → Prop} {m : Nat}
theorem anyT_pair {c1 c2 b1 b2 d1 d2 e1 e2 fuel ty : Nat} {L : Array Bool} {a : Act} {W : World} {Z : Array Value} {pt : Nat → Value} {v1 v2 : Value} (hok : okP ops c1 c2 b1 b2 L = true)
    (ha : frP a d1 d2 e1 e2 undef undef undef undef = a) (hZ : Z = (uV (fun _ => 0) 4).toArray)
    (hT : ∀ X, Below W.heap.size W X → T X)
    (hc1 : ∀ u1 u2 X, T X → wpOp P ops Q c1 (fun a' w' => a' = frP a d1 d2 e1 e2 u1 u2 v1 undef ∧ Below X.heap.size X w') (frP a d1 d2 e1 e2 u1 u2 undef undef) X)
    (hc2 : ∀ u1 u2 X, T X → wpOp P ops Q c2 (fun a' w' => a' = frP a d1 d2 e1 e2 u1 u2 v1 v2 ∧ Below X.heap.size X w') (frP a d1 d2 e1 e2 u1 u2 v1 undef) X)
    (hb1 : ∀ u2 r1 r2 X, wpOp P ops Q b1 (fun a' w' => a' = frP a d1 d2 e1 e2 (pt X.heap.size) u2 r1 r2 ∧ w' = X.alloc (.cells Z ty)) (frP a d1 d2 e1 e2 undef u2 r1 r2) X)
    (hb2 : ∀ u1 r1 r2 X, wpOp P ops Q b2 (fun a' w' => a' = frP a d1 d2 e1 e2 u1 (pt X.heap.size) r1 r2 ∧ w' = X.alloc (.cells Z ty)) (frP a d1 d2 e1 e2 u1 undef r1 r2) X)
    (hend : ∀ X g1 g2, Below W.heap.size W X → RowU ty 4 X W.heap.size g1 (fun _ => 0) → RowU ty 4 X W.heap.size g2 (fun _ => 0) → g1 ≠ g2 →
      AnyT P ops Q T (fun _ => True) m fuel (selP c1 c2 b1 b2 L 2 true true) (frP a d1 d2 e1 e2 (pt g1) (pt g2) v1 v2) X) :
    AnyT P ops Q T (fun _ => True) m (fuel + 4) L a W := by
  obtain ⟨n12, n13, n14, n23, n24, n34⟩ := okP_apart hok
  have key : ∀ n k p q, k ≤ 2 → (2 - k) + ((if p then 0 else 1) + (if q then 0 else 1)) = n → ∀ X g1 g2, Below W.heap.size W X → (p = true → RowU ty 4 X W.heap.size g1 (fun _ => 0)) → (q = true → RowU ty 4 X W.heap.size g2 (fun _ => 0)) → (p = true → q = true → g1 ≠ g2) →
      AnyT P ops Q T (fun _ => True) m (fuel + n) (selP c1 c2 b1 b2 L k p q) (frP a d1 d2 e1 e2 (if p then pt g1 else undef) (if q then pt g2 else undef) (if 1 ≤ k then v1 else undef) (if 2 ≤ k then v2 else undef)) X := by
    intro n
    induction n with
    | zero =>
      intro k p q hk hn X g1 g2 hX h1 h2 h12
      have hk2 : k = 2 := by omega
      have hp : p = true := by cases p <;> simp_all
      have hq : q = true := by cases q <;> simp_all
      subst hk2 hp hq
      exact hend X g1 g2 hX (h1 rfl) (h2 rfl) (h12 rfl rfl)
    | succ n ih =>
      intro k p q hk hn X g1 g2 hX h1 h2 h12
      have hne : ¬ (k = 2 ∧ p = true ∧ q = true) := by
        rintro ⟨rfl, rfl, rfl⟩
        simp at hn
      have hrd := okP_ready hok k hk p q hne
      refine ⟨fun e => ?_, fun i hi => ?_⟩
      · rw [hrd] at e
        have hk2 : k = 0 ∨ k = 1 ∨ k = 2 := by omega
        rcases hk2 with rfl | rfl | rfl <;> cases p <;> cases q <;> simp [rdP] at e
        exact absurd ⟨rfl, rfl, rfl⟩ hne
      · rw [hrd, rdP, List.mem_append, List.mem_append] at hi
        rcases hi with hi | hi | hi
        · by_cases hk0 : k = 0
          · subst hk0
            rw [if_pos rfl, List.mem_singleton] at hi
            subst hi
            refine wpOp_mono (fun a' w' hh => ?_) (hc1 (if p then pt g1 else undef) (if q then pt g2 else undef) X (hT X hX))
            obtain ⟨rfl, hb⟩ := hh
            have hX' := below_on hX hb
            refine ⟨hT _ hX', fun _ => trivial, ?_⟩
            have hL : (selP i c2 b1 b2 L 0 p q).setIfInBounds i true = selP i c2 b1 b2 L 1 p q := by
              cases p <;> cases q <;> simp [selP]
              · rw [Array.setIfInBounds_comm _ _ (Ne.symm n14)]
              · rw [Array.setIfInBounds_comm _ _ (Ne.symm n13)]
              · rw [Array.setIfInBounds_comm _ _ (Ne.symm n14), Array.setIfInBounds_comm _ _ (Ne.symm n13)]
            rw [hL]
            exact ih 1 p q (by omega) (by omega) w' g1 g2 hX' (fun h => (h1 h).below hb) (fun h => (h2 h).below hb) h12
          · by_cases hk1 : k = 1
            · subst hk1
              rw [if_neg hk0, if_pos rfl, List.mem_singleton] at hi
              subst hi
              refine wpOp_mono (fun a' w' hh => ?_) (hc2 (if p then pt g1 else undef) (if q then pt g2 else undef) X (hT X hX))
              obtain ⟨rfl, hb⟩ := hh
              have hX' := below_on hX hb
              refine ⟨hT _ hX', fun _ => trivial, ?_⟩
              have hL : (selP c1 i b1 b2 L 1 p q).setIfInBounds i true = selP c1 i b1 b2 L 2 p q := by
                cases p <;> cases q <;> simp [selP]
                · rw [Array.setIfInBounds_comm _ _ (Ne.symm n24)]
                · rw [Array.setIfInBounds_comm _ _ (Ne.symm n23)]
                · rw [Array.setIfInBounds_comm _ _ (Ne.symm n24), Array.setIfInBounds_comm _ _ (Ne.symm n23)]
              rw [hL]
              exact ih 2 p q (by omega) (by omega) w' g1 g2 hX' (fun h => (h1 h).below hb) (fun h => (h2 h).below hb) h12
            · rw [if_neg hk0, if_neg hk1] at hi
              exact absurd hi List.not_mem_nil
        · cases p with
          | true => exact absurd hi (by simp)
          | false =>
            have hi' : i = b1 := by simpa using hi
            subst hi'
            refine wpOp_mono (fun a' w' hh => ?_) (hb1 (if q then pt g2 else undef) (if 1 ≤ k then v1 else undef) (if 2 ≤ k then v2 else undef) X)
            obtain ⟨rfl, rfl⟩ := hh
            have hb : Below X.heap.size X (X.alloc (.cells Z ty)) := (Below.refl _ _).alloc (Nat.le_refl _) _
            have hX' := below_on hX hb
            have hr := RowU.made X ty 4 W.heap.size (fun _ => 0) (by decide) hX.size
            rw [← hZ] at hr
            refine ⟨hT _ hX', fun _ => trivial, ?_⟩
            have hL : (selP c1 c2 i b2 L k false q).setIfInBounds i true = selP c1 c2 i b2 L k true q := by
              cases q <;> simp [selP]
              rw [Array.setIfInBounds_comm _ _ (Ne.symm n34)]
            rw [hL]
            exact ih k true q hk (by simp at hn ⊢; omega) _ X.heap.size g2 hX' (fun _ => hr) (fun h => (h2 h).below hb) (fun _ h => by have := (h2 h).lt; omega)
        · cases q with
          | true => exact absurd hi (by simp)
          | false =>
            have hi' : i = b2 := by simpa using hi
            subst hi'
            refine wpOp_mono (fun a' w' hh => ?_) (hb2 (if p then pt g1 else undef) (if 1 ≤ k then v1 else undef) (if 2 ≤ k then v2 else undef) X)
            obtain ⟨rfl, rfl⟩ := hh
            have hb : Below X.heap.size X (X.alloc (.cells Z ty)) := (Below.refl _ _).alloc (Nat.le_refl _) _
            have hX' := below_on hX hb
            have hr := RowU.made X ty 4 W.heap.size (fun _ => 0) (by decide) hX.size
            rw [← hZ] at hr
            refine ⟨hT _ hX', fun _ => trivial, ?_⟩
            have hL : (selP c1 c2 b1 i L k p false).setIfInBounds i true = selP c1 c2 b1 i L k p true := by
              cases p <;> simp [selP]
            rw [hL]
            exact ih k p true hk (by simp at hn ⊢; omega) _ g1 X.heap.size hX' (fun h => (h1 h).below hb) (fun _ => hr) (fun h _ => by have := (h1 h).lt; omega)
  have h := key 4 0 false false (by omega) rfl W 0 0 (Below.refl _ _) (fun h => by cases h) (fun h => by cases h) (fun h => by cases h)
  have e : selP c1 c2 b1 b2 L 0 false false = L := by simp [selP]
  rw [e] at h
  simp only [Bool.false_eq_true, if_false, show ¬ (1 ≤ 0) by omega, show ¬ (2 ≤ 0) by omega] at h
  rw [ha] at h
  exact h
end

end Go.Proofs.Ytghoibggmddkmao
