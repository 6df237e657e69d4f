/-
  A region that draws its order, with two calls, one behind the other, and two variables that are made at any time: the ways meet again behind them. Conditions: each law's own.
  The program's ladder as one row of twenty words of 64 bits: its parts, read and written. Conditions: each law's own.
  What the program's ladderAt and changed answer. Conditions: none.
  What the program's step of a ladder answers, by what its sums and products answer. Conditions: these.
  What the program's ladder answers by whole numbers: ladderAt, changed, step. Conditions: numbers from 0 to below p.
-/
import Derived.Test.YtghoibggmddkmacFieldA
import Derived.Test.YtghoibggmddkmacFieldF
import Derived.Test.YtghoibggmddkmacLadMath
import Derived.Test.YtghoibggmddkmacFieldG
import Derived.Test.YtghoibggmddkmacFieldD
namespace Go.Proofs.Ytghoibggmddkmac
open Go.RowKit

/-- What has come up: of the calls k, the first variable, the second one. -/
def selP (c1 c2 b1 b2 : Nat) (L : Array Bool) (k : Nat) (p q : Bool) : Array Bool :=
  let L1 := if 1 ≤ k then L.setIfInBounds c1 true else L
  let L2 := if 2 ≤ k then L1.setIfInBounds c2 true else L1
  let L3 := if p then L2.setIfInBounds b1 true else L2
  if q then L3.setIfInBounds b2 true else L3
def rdP (c1 c2 b1 b2 : Nat) (k : Nat) (p q : Bool) : List Nat :=
  (if k = 0 then [c1] else if k = 1 then [c2] else []) ++ ((if p then [] else [b1]) ++ (if q then [] else [b2]))
def okP (ops : Array Oper) (c1 c2 b1 b2 : Nat) (L : Array Bool) : Bool :=
  decide (c1 ≠ c2 ∧ c1 ≠ b1 ∧ c1 ≠ b2 ∧ c2 ≠ b1 ∧ c2 ≠ b2 ∧ b1 ≠ b2) && (List.range 3).all fun k => [false, true].all fun p => [false, true].all fun q => (k == 2 && p && q) || (Region.ready .any ops (selP c1 c2 b1 b2 L k p q) == rdP c1 c2 b1 b2 k p q)
theorem okP_ready {ops : Array Oper} {c1 c2 b1 b2 : Nat} {L : Array Bool} (h : okP ops c1 c2 b1 b2 L = true) (k : Nat) (hk : k ≤ 2) (p q : Bool) (hne : ¬ (k = 2 ∧ p = true ∧ q = true)) :
    Region.ready .any ops (selP c1 c2 b1 b2 L k p q) = rdP c1 c2 b1 b2 k p q := by
  unfold okP at h
  rw [Bool.and_eq_true, List.all_eq_true] at h
  have h1 := h.2 k (List.mem_range.2 (by omega))
  rw [List.all_eq_true] at h1
  have h2 := h1 p (by cases p <;> simp)
  rw [List.all_eq_true] at h2
  have h3 := h2 q (by cases q <;> simp)
  rw [Bool.or_eq_true] at h3
  rcases h3 with h3 | h3
  · simp only [Bool.and_eq_true, beq_iff_eq] at h3
    exact absurd ⟨h3.1.1, h3.1.2, h3.2⟩ hne
  · simpa using h3
theorem okP_apart {ops : Array Oper} {c1 c2 b1 b2 : Nat} {L : Array Bool} (h : okP ops c1 c2 b1 b2 L = true) : c1 ≠ c2 ∧ c1 ≠ b1 ∧ c1 ≠ b2 ∧ c2 ≠ b1 ∧ c2 ≠ b2 ∧ b1 ≠ b2 := by
  unfold okP at h
  rw [Bool.and_eq_true] at h
  exact of_decide_eq_true h.1
/-- The frame: the two variables' slots, the two calls' slots. -/
def frP (a : Act) (d1 d2 e1 e2 : Nat) (u1 u2 r1 r2 : Value) : Act := (((a.put (some d1) u1).put (some d2) u2).put (some e1) r1).put (some e2) r2
section
variable {P : Program} {ops : Array Oper} {Q : Exit → Act → World → Prop} {T : World → Prop} {m : Nat}
theorem anyT_pair {c1 c2 b1 b2 d1 d2 e1 e2 fuel ty : Nat} {L : Array Bool} {a : Act} {W : World} {Z : Array Value} {pt : Nat → Value} {v1 v2 : Value} (hok : okP ops c1 c2 b1 b2 L = true)
    (ha : frP a d1 d2 e1 e2 undef undef undef undef = a) (hZ : Z = (uV (fun _ => 0) 4).toArray)
    (hT : ∀ X, Below W.heap.size W X → T X)
    (hc1 : ∀ u1 u2 X, T X → wpOp P ops Q c1 (fun a' w' => a' = frP a d1 d2 e1 e2 u1 u2 v1 undef ∧ Below X.heap.size X w') (frP a d1 d2 e1 e2 u1 u2 undef undef) X)
    (hc2 : ∀ u1 u2 X, T X → wpOp P ops Q c2 (fun a' w' => a' = frP a d1 d2 e1 e2 u1 u2 v1 v2 ∧ Below X.heap.size X w') (frP a d1 d2 e1 e2 u1 u2 v1 undef) X)
    (hb1 : ∀ u2 r1 r2 X, wpOp P ops Q b1 (fun a' w' => a' = frP a d1 d2 e1 e2 (pt X.heap.size) u2 r1 r2 ∧ w' = X.alloc (.cells Z ty)) (frP a d1 d2 e1 e2 undef u2 r1 r2) X)
    (hb2 : ∀ u1 r1 r2 X, wpOp P ops Q b2 (fun a' w' => a' = frP a d1 d2 e1 e2 u1 (pt X.heap.size) r1 r2 ∧ w' = X.alloc (.cells Z ty)) (frP a d1 d2 e1 e2 u1 undef r1 r2) X)
    (hend : ∀ X g1 g2, Below W.heap.size W X → RowU ty 4 X W.heap.size g1 (fun _ => 0) → RowU ty 4 X W.heap.size g2 (fun _ => 0) → g1 ≠ g2 →
      AnyT P ops Q T (fun _ => True) m fuel (selP c1 c2 b1 b2 L 2 true true) (frP a d1 d2 e1 e2 (pt g1) (pt g2) v1 v2) X) :
    AnyT P ops Q T (fun _ => True) m (fuel + 4) L a W := by
  obtain ⟨n12, n13, n14, n23, n24, n34⟩ := okP_apart hok
  have key : ∀ n k p q, k ≤ 2 → (2 - k) + ((if p then 0 else 1) + (if q then 0 else 1)) = n → ∀ X g1 g2, Below W.heap.size W X → (p = true → RowU ty 4 X W.heap.size g1 (fun _ => 0)) → (q = true → RowU ty 4 X W.heap.size g2 (fun _ => 0)) → (p = true → q = true → g1 ≠ g2) →
      AnyT P ops Q T (fun _ => True) m (fuel + n) (selP c1 c2 b1 b2 L k p q) (frP a d1 d2 e1 e2 (if p then pt g1 else undef) (if q then pt g2 else undef) (if 1 ≤ k then v1 else undef) (if 2 ≤ k then v2 else undef)) X := by
    intro n
    induction n with
    | zero =>
      intro k p q hk hn X g1 g2 hX h1 h2 h12
      have hk2 : k = 2 := by omega
      have hp : p = true := by cases p <;> simp_all
      have hq : q = true := by cases q <;> simp_all
      subst hk2 hp hq
      exact hend X g1 g2 hX (h1 rfl) (h2 rfl) (h12 rfl rfl)
    | succ n ih =>
      intro k p q hk hn X g1 g2 hX h1 h2 h12
      have hne : ¬ (k = 2 ∧ p = true ∧ q = true) := by
        rintro ⟨rfl, rfl, rfl⟩
        simp at hn
      have hrd := okP_ready hok k hk p q hne
      refine ⟨fun e => ?_, fun i hi => ?_⟩
      · rw [hrd] at e
        have hk2 : k = 0 ∨ k = 1 ∨ k = 2 := by omega
        rcases hk2 with rfl | rfl | rfl <;> cases p <;> cases q <;> simp [rdP] at e
        exact absurd ⟨rfl, rfl, rfl⟩ hne
      · rw [hrd, rdP, List.mem_append, List.mem_append] at hi
        rcases hi with hi | hi | hi
        · by_cases hk0 : k = 0
          · subst hk0
            rw [if_pos rfl, List.mem_singleton] at hi
            subst hi
            refine wpOp_mono (fun a' w' hh => ?_) (hc1 (if p then pt g1 else undef) (if q then pt g2 else undef) X (hT X hX))
            obtain ⟨rfl, hb⟩ := hh
            have hX' := below_on hX hb
            refine ⟨hT _ hX', fun _ => trivial, ?_⟩
            have hL : (selP i c2 b1 b2 L 0 p q).setIfInBounds i true = selP i c2 b1 b2 L 1 p q := by
              cases p <;> cases q <;> simp [selP]
              · rw [Array.setIfInBounds_comm _ _ (Ne.symm n14)]
              · rw [Array.setIfInBounds_comm _ _ (Ne.symm n13)]
              · rw [Array.setIfInBounds_comm _ _ (Ne.symm n14), Array.setIfInBounds_comm _ _ (Ne.symm n13)]
            rw [hL]
            exact ih 1 p q (by omega) (by omega) w' g1 g2 hX' (fun h => (h1 h).below hb) (fun h => (h2 h).below hb) h12
          · by_cases hk1 : k = 1
            · subst hk1
              rw [if_neg hk0, if_pos rfl, List.mem_singleton] at hi
              subst hi
              refine wpOp_mono (fun a' w' hh => ?_) (hc2 (if p then pt g1 else undef) (if q then pt g2 else undef) X (hT X hX))
              obtain ⟨rfl, hb⟩ := hh
              have hX' := below_on hX hb
              refine ⟨hT _ hX', fun _ => trivial, ?_⟩
              have hL : (selP c1 i b1 b2 L 1 p q).setIfInBounds i true = selP c1 i b1 b2 L 2 p q := by
                cases p <;> cases q <;> simp [selP]
                · rw [Array.setIfInBounds_comm _ _ (Ne.symm n24)]
                · rw [Array.setIfInBounds_comm _ _ (Ne.symm n23)]
                · rw [Array.setIfInBounds_comm _ _ (Ne.symm n24), Array.setIfInBounds_comm _ _ (Ne.symm n23)]
              rw [hL]
              exact ih 2 p q (by omega) (by omega) w' g1 g2 hX' (fun h => (h1 h).below hb) (fun h => (h2 h).below hb) h12
            · rw [if_neg hk0, if_neg hk1] at hi
              exact absurd hi List.not_mem_nil
        · cases p with
          | true => exact absurd hi (by simp)
          | false =>
            have hi' : i = b1 := by simpa using hi
            subst hi'
            refine wpOp_mono (fun a' w' hh => ?_) (hb1 (if q then pt g2 else undef) (if 1 ≤ k then v1 else undef) (if 2 ≤ k then v2 else undef) X)
            obtain ⟨rfl, rfl⟩ := hh
            have hb : Below X.heap.size X (X.alloc (.cells Z ty)) := (Below.refl _ _).alloc (Nat.le_refl _) _
            have hX' := below_on hX hb
            have hr := RowU.made X ty 4 W.heap.size (fun _ => 0) (by decide) hX.size
            rw [← hZ] at hr
            refine ⟨hT _ hX', fun _ => trivial, ?_⟩
            have hL : (selP c1 c2 i b2 L k false q).setIfInBounds i true = selP c1 c2 i b2 L k true q := by
              cases q <;> simp [selP]
              rw [Array.setIfInBounds_comm _ _ (Ne.symm n34)]
            rw [hL]
            exact ih k true q hk (by simp at hn ⊢; omega) _ X.heap.size g2 hX' (fun _ => hr) (fun h => (h2 h).below hb) (fun _ h => by have := (h2 h).lt; omega)
        · cases q with
          | true => exact absurd hi (by simp)
          | false =>
            have hi' : i = b2 := by simpa using hi
            subst hi'
            refine wpOp_mono (fun a' w' hh => ?_) (hb2 (if p then pt g1 else undef) (if 1 ≤ k then v1 else undef) (if 2 ≤ k then v2 else undef) X)
            obtain ⟨rfl, rfl⟩ := hh
            have hb : Below X.heap.size X (X.alloc (.cells Z ty)) := (Below.refl _ _).alloc (Nat.le_refl _) _
            have hX' := below_on hX hb
            have hr := RowU.made X ty 4 W.heap.size (fun _ => 0) (by decide) hX.size
            rw [← hZ] at hr
            refine ⟨hT _ hX', fun _ => trivial, ?_⟩
            have hL : (selP c1 c2 b1 i L k p false).setIfInBounds i true = selP c1 c2 b1 i L k p true := by
              cases p <;> simp [selP]
            rw [hL]
            exact ih k p true hk (by simp at hn ⊢; omega) _ g1 X.heap.size hX' (fun h => (h1 h).below hb) (fun _ => hr) (fun h _ => by have := (h1 h).lt; omega)
  have h := key 4 0 false false (by omega) rfl W 0 0 (Below.refl _ _) (fun h => by cases h) (fun h => by cases h) (fun h => by cases h)
  have e : selP c1 c2 b1 b2 L 0 false false = L := by simp [selP]
  rw [e] at h
  simp only [Bool.false_eq_true, if_false, show ¬ (1 ≤ 0) by omega, show ¬ (2 ≤ 0) by omega] at h
  rw [ha] at h
  exact h
end

end Go.Proofs.Ytghoibggmddkmac

namespace Go.Proofs.Ytghoibggmddkmac
open Go.RowKit

/-- Four words, each of one cell. -/
structure Q4 (L : List Value) : Prop where
  len : L.length = 4
  one : ∀ v ∈ L, v.oneCell' = true
theorem q4 (z : Int) : Q4 (uV (numU z) 4) := ⟨uV_length _ _, uV_one _ _⟩
theorem Q4.sz {L : List Value} (h : Q4 L) : (Try.prog.info? 42).map (·.size) = some L.length := by rw [h.len]; exact (zero_of_info infoU4).2
theorem Q4.sz2 {L : List Value} (h : Q4 L) : (Try.prog.info? 42).map (·.size) = some L.toArray.size := by
  have : L.toArray.size = 4 := by simp [h.len]
  rw [this]; exact (zero_of_info infoU4).2
def RowL (ty n : Nat) (w : World) (lo g : Nat) (L : List Value) : Prop := w.ownsRow lo ty 1 (.slice (some ⟨g, 0, none⟩) n n) n L
def putV (xs : List Value) (o : Nat) : List Value → List Value
  | [] => xs
  | v :: r => putV (xs.set o v) (o + 1) r
theorem ownsV_put {lo e g n c : Nat} (vs : List Value) : ∀ (o : Nat) (w : World) (xs : List Value), w.ownsRow lo e 1 (.slice (some ⟨g, 0, none⟩) n c) n xs →
    (w.setCells g o vs).ownsRow lo e 1 (.slice (some ⟨g, 0, none⟩) n c) n (putV xs o vs) ∧ w.grownBy (w.setCells g o vs) (some g) := by
  induction vs with
  | nil => intro o w xs h; exact ⟨h, World.grownBy.refl _ _⟩
  | cons v r ih =>
    intro o w xs h
    have h1 := h.stored o v
    have h2 := ih (o + 1) _ _ h1.1
    exact ⟨h2.1, grown_trans h1.2 h2.2⟩
theorem putV_mid (A B C : List Value) : ∀ (B' : List Value), B'.length = B.length → putV (A ++ (B ++ C)) A.length B' = A ++ (B' ++ C) := by
  intro B'
  induction B' generalizing A B with
  | nil =>
    intro h
    obtain rfl : B = [] := List.eq_nil_of_length_eq_zero h.symm
    rfl
  | cons v r ih =>
    intro h
    cases B with
    | nil => simp at h
    | cons b B =>
      have := ih (A ++ [v]) B (by simpa using h)
      simp only [putV]
      rw [List.set_append_right _ _ (Nat.le_refl _), Nat.sub_self]
      simpa using this
section
variable {ty n : Nat} {w w' : World} {lo g : Nat} {L : List Value}
theorem RowL.lt (h : RowL ty n w lo g L) : lo ≤ g ∧ g < w.heap.size := World.ownsRow.lt h g rfl
theorem RowL.below (h : RowL ty n w lo g L) (hb : Below w.heap.size w w') : RowL ty n w' lo g L := owns_below h hb
theorem RowL.drew (h : RowL ty n w lo g L) : RowL ty n w.drew lo g L := h.below (Below.refl _ _).drew
theorem RowL.kept {r : Nat} (h : RowL ty n w lo g L) (hg : w.grownBy w' (some r)) (hne : g ≠ r) : RowL ty n w' lo g L := World.ownsRow.kept h hg (.inr (by simp [Value.ownBlock]; exact fun e => hne e))
theorem RowL.length (h : RowL ty n w lo g L) : L.length = n := by simpa using (show w.ownsRow lo ty 1 (.slice (some ⟨g, 0, none⟩) n n) n L from h).1
theorem RowL.mid {A B C : List Value} {o : Nat} (h : RowL ty n w lo g (A ++ (B ++ C))) (ho : A.length = o) : w.rangeAt g o B := by
  intro j v hv
  have hj : j < B.length := (List.getElem?_eq_some_iff.1 hv).1
  have hl := h.length
  have e : (A ++ (B ++ C))[o + j]? = some v := by
    rw [List.getElem?_append_right (by omega), show o + j - A.length = j by omega, List.getElem?_append_left hj, hv]
  have h' : w.ownsRow lo ty 1 (.slice (some ⟨g, 0, none⟩) n n) n (A ++ (B ++ C)) := h
  rw [h'.cellAt (o + j) (by have := (List.getElem?_eq_some_iff.1 e).1; omega), e]
theorem RowL.all (h : RowL ty n w lo g L) : w.rangeAt g 0 L := by
  have h' : RowL ty n w lo g ([] ++ (L ++ [])) := by simpa using h
  exact h'.mid rfl
theorem RowL.there (h : RowL ty n w lo g L) {o m : Nat} (hm : o + m ≤ n) : w.there g o m := by
  intro j hj
  have hl := h.length
  have h' : w.ownsRow lo ty 1 (.slice (some ⟨g, 0, none⟩) n n) n L := h
  rw [h'.cellAt (o + j) (by omega), List.getElem?_eq_getElem (by omega)]
  exact ⟨rfl, World.ownsRow.frozenAt h (o + j)⟩
theorem RowL.putMid {A B B' C : List Value} {o : Nat} (h : RowL ty n w lo g (A ++ (B ++ C))) (ho : A.length = o) (hB : B'.length = B.length) :
    RowL ty n (w.setCells g o B') lo g (A ++ (B' ++ C)) ∧ w.grownBy (w.setCells g o B') (some g) := by
  have k := ownsV_put B' o w _ h
  rw [← ho, putV_mid A B C B' hB, ho] at k
  exact k
theorem RowL.putAll {B : List Value} (h : RowL ty n w lo g L) (hB : B.length = L.length) : RowL ty n (w.setCells g 0 B) lo g B ∧ w.grownBy (w.setCells g 0 B) (some g) := by
  have h' : RowL ty n w lo g ([] ++ (L ++ [])) := by simpa using h
  simpa using h'.putMid (B' := B) rfl hB
theorem RowL.made (w : World) (ty n lo : Nat) (hL : L.length = n) (hn : n ≤ 1000) (hlo : lo ≤ w.heap.size) : RowL ty n (w.alloc (.cells L.toArray ty)) lo w.heap.size L := by
  refine ⟨by simp [hL], .inr ⟨w.heap.size, n, _, rfl, hlo, heap_alloc_new w _, Nat.le_refl _, by unfold maxLen; omega, by simp [hL], ?_⟩⟩
  rw [List.take_of_length_le (by simp [hL])]
end
theorem RowU.rowL {ty n : Nat} {w : World} {lo g : Nat} {f : Nat → Int} (h : RowU ty n w lo g f) : RowL ty n w lo g (uV f n) := h

/-- A ladder: x1, and two points, each as x and z. -/
def LadV (X A C B D : List Value) : List Value := X ++ (A ++ (C ++ (B ++ D)))
theorem LadV_length {X A C B D : List Value} (hX : Q4 X) (hA : Q4 A) (hC : Q4 C) (hB : Q4 B) (hD : Q4 D) : (LadV X A C B D).length = 20 := by
  simp [LadV, hX.len, hA.len, hC.len, hB.len, hD.len]
theorem LadV_one {X A C B D : List Value} (hX : Q4 X) (hA : Q4 A) (hC : Q4 C) (hB : Q4 B) (hD : Q4 D) : ∀ v ∈ LadV X A C B D, v.oneCell' = true := by
  intro v hv
  simp only [LadV, List.mem_append] at hv
  rcases hv with h | h | h | h | h
  · exact hX.one v h
  · exact hA.one v h
  · exact hC.one v h
  · exact hB.one v h
  · exact hD.one v h

theorem infoLad : (Try.prog.info? 62).map (fun i => (i.zero, i.size)) = some (some (.agg (uV (fun _ => 0) 20).toArray), 20) := by kernel_rfl

theorem infoRat : (Try.prog.info? 60).map (fun i => (i.zero, i.size)) = some (some (.agg (uV (fun _ => 0) 8).toArray), 8) := by kernel_rfl

section
variable {w : World} {lo g : Nat} {X A C B D : List Value}
theorem lad_x (h : RowL 62 20 w lo g (LadV X A C B D)) : w.rangeAt g 0 X := RowL.mid (A := []) (B := X) (C := A ++ (C ++ (B ++ D))) (o := 0) h rfl
theorem lad_a (h : RowL 62 20 w lo g (LadV X A C B D)) (hX : Q4 X) : w.rangeAt g 4 A := RowL.mid (A := X) (B := A) (C := C ++ (B ++ D)) h hX.len
theorem lad_c (h : RowL 62 20 w lo g (LadV X A C B D)) (hX : Q4 X) (hA : Q4 A) : w.rangeAt g 8 C := by
  have h' : RowL 62 20 w lo g ((X ++ A) ++ (C ++ (B ++ D))) := by rw [List.append_assoc]; exact h
  exact h'.mid (by simp [hX.len, hA.len])
theorem lad_b (h : RowL 62 20 w lo g (LadV X A C B D)) (hX : Q4 X) (hA : Q4 A) (hC : Q4 C) : w.rangeAt g 12 B := by
  have h' : RowL 62 20 w lo g ((X ++ (A ++ C)) ++ (B ++ D)) := by rw [List.append_assoc, List.append_assoc]; exact h
  exact h'.mid (by simp [hX.len, hA.len, hC.len])
theorem lad_d (h : RowL 62 20 w lo g (LadV X A C B D)) (hX : Q4 X) (hA : Q4 A) (hC : Q4 C) (hB : Q4 B) : w.rangeAt g 16 D := by
  have h' : RowL 62 20 w lo g ((X ++ (A ++ (C ++ B))) ++ (D ++ [])) := by rw [List.append_nil, List.append_assoc, List.append_assoc, List.append_assoc]; exact h
  exact h'.mid (by simp [hX.len, hA.len, hC.len, hB.len])
theorem lad_ac (h : RowL 62 20 w lo g (LadV X A C B D)) (hX : Q4 X) : w.rangeAt g 4 (A ++ C) := by
  have h' : RowL 62 20 w lo g (X ++ ((A ++ C) ++ (B ++ D))) := by rw [List.append_assoc]; exact h
  exact h'.mid hX.len
theorem lad_bd (h : RowL 62 20 w lo g (LadV X A C B D)) (hX : Q4 X) (hA : Q4 A) (hC : Q4 C) : w.rangeAt g 12 (B ++ D) := by
  have h' : RowL 62 20 w lo g ((X ++ (A ++ C)) ++ ((B ++ D) ++ [])) := by rw [List.append_nil, List.append_assoc, List.append_assoc]; exact h
  exact h'.mid (by simp [hX.len, hA.len, hC.len])
theorem lad_put_ac {A' C' : List Value} (h : RowL 62 20 w lo g (LadV X A C B D)) (hX : Q4 X) (hA : Q4 A) (hC : Q4 C) (hA' : Q4 A') (hC' : Q4 C') :
    RowL 62 20 (w.setCells g 4 (A' ++ C')) lo g (LadV X A' C' B D) ∧ w.grownBy (w.setCells g 4 (A' ++ C')) (some g) := by
  have h' : RowL 62 20 w lo g (X ++ ((A ++ C) ++ (B ++ D))) := by rw [List.append_assoc]; exact h
  have k := h'.putMid (B' := A' ++ C') hX.len (by simp [hA.len, hC.len, hA'.len, hC'.len])
  rw [List.append_assoc] at k
  exact k
theorem lad_put_bd {B' D' : List Value} (h : RowL 62 20 w lo g (LadV X A C B D)) (hX : Q4 X) (hA : Q4 A) (hC : Q4 C) (hB : Q4 B) (hD : Q4 D) (hB' : Q4 B') (hD' : Q4 D') :
    RowL 62 20 (w.setCells g 12 (B' ++ D')) lo g (LadV X A C B' D') ∧ w.grownBy (w.setCells g 12 (B' ++ D')) (some g) := by
  have h' : RowL 62 20 w lo g ((X ++ (A ++ C)) ++ ((B ++ D) ++ [])) := by rw [List.append_nil, List.append_assoc, List.append_assoc]; exact h
  have k := h'.putMid (o := 12) (B' := B' ++ D') (by simp [hX.len, hA.len, hC.len]) (by simp [hB.len, hD.len, hB'.len, hD'.len])
  rw [List.append_nil, List.append_assoc, List.append_assoc] at k
  exact k
end
theorem szLad {L : List Value} (h : L.length = 20) : (Try.prog.info? 62).map (·.size) = some L.length := by rw [h]; exact (zero_of_info infoLad).2
theorem szLad2 {L : List Value} (h : L.length = 20) : (Try.prog.info? 62).map (·.size) = some L.toArray.size := by
  have : L.toArray.size = 20 := by simp [h]
  rw [this]; exact (zero_of_info infoLad).2
theorem szRat {L : List Value} (h : L.length = 8) : (Try.prog.info? 60).map (·.size) = some L.length := by rw [h]; exact (zero_of_info infoRat).2
theorem szRat2 {L : List Value} (h : L.length = 8) : (Try.prog.info? 60).map (·.size) = some L.toArray.size := by
  have : L.toArray.size = 8 := by simp [h]
  rw [this]; exact (zero_of_info infoRat).2
theorem rat_length {A C : List Value} (hA : Q4 A) (hC : Q4 C) : (A ++ C).length = 8 := by simp [hA.len, hC.len]
theorem rat_one {A C : List Value} (hA : Q4 A) (hC : Q4 C) : ∀ v ∈ A ++ C, v.oneCell' = true := by
  intro v hv
  rcases List.mem_append.1 hv with h | h
  · exact hA.one v h
  · exact hC.one v h
/-- A ladder's row, and behind it one of noughts for the result. -/
theorem ladRows (w : World) {L : List Value} (hL : L.length = 20) {ty n : Nat} {A Z : Array Value} (hn : n ≤ 1000) (hA : A = L.toArray) (hZ : Z = (uV (fun _ => 0) n).toArray) :
    RowL 62 20 ((w.alloc (.cells A 62)).alloc (.cells Z ty)) w.heap.size w.heap.size L ∧ RowL ty n ((w.alloc (.cells A 62)).alloc (.cells Z ty)) w.heap.size (w.heap.size + 1) (uV (fun _ => 0) n) ∧ Below w.heap.size w ((w.alloc (.cells A 62)).alloc (.cells Z ty)) ∧ ((w.alloc (.cells A 62)).alloc (.cells Z ty)).heap.size = w.heap.size + 1 + 1 := by
  subst hA hZ
  have m0 := RowL.made (L := L) w 62 20 w.heap.size hL (by decide) (Nat.le_refl _)
  obtain ⟨wa, hwa⟩ : ∃ wa, wa = w.alloc (.cells L.toArray 62) := ⟨_, rfl⟩
  rw [← hwa] at m0 ⊢
  have sa : wa.heap.size = w.heap.size + 1 := by rw [hwa]; simp
  have ba : Below w.heap.size w wa := by rw [hwa]; exact (Below.refl _ _).alloc (Nat.le_refl _) _
  have m1 := RowL.made (L := uV (fun _ => 0) n) wa ty n w.heap.size (uV_length _ _) hn (by omega)
  have b1 : Below wa.heap.size wa (wa.alloc (.cells (uV (fun _ => 0) n).toArray ty)) := (Below.refl _ _).alloc (Nat.le_refl _) _
  rw [sa] at m1
  exact ⟨m0.below b1, m1, below_on ba b1, by simp [sa]⟩

end Go.Proofs.Ytghoibggmddkmac

namespace Go.Proofs.Ytghoibggmddkmac
open Go.RowKit

theorem RowL.low {ty n : Nat} {w : World} {lo lo' g : Nat} {L : List Value} (h : RowL ty n w lo g L) (hl : lo' ≤ lo) : RowL ty n w lo' g L := owns_mono h hl

theorem yieldsIf_build {P : Program} {ops : Array Oper} {S : World → Prop} {op : Oper} {a : Act} (hw : Region.wanted op (yielded ops a.tmps) = true) (t : TypeId) (parts : Array (Nat × Operand)) (ho : op.op = .build t parts)
    (vs : Array (Nat × Value)) (hvs : (parts.map fun (i, x) => (i, a.eval x)) = vs) {v : Value} (hr : ∀ w, (Instr.build t vs).run P w = .ok v w) : YieldsIf P ops S op v a :=
  .inl ⟨hw, fun w _ => by
    unfold execOp
    subst hvs
    simp only [ho, Sem.run_bind, Sem.run_pure, Result.andThen_ok, hr]⟩
theorem wpL_build_run {P : Program} {ops : Array Oper} {rest : List Oper} {o : Oper} {a : Act} {w : World} {Q : Exit → Act → World → Prop} (hgd : o.guard = none) (t : TypeId) (parts : Array (Nat × Operand)) (ho : o.op = .build t parts)
    (vs : Array (Nat × Value)) (hvs : (parts.map fun (i, x) => (i, a.eval x)) = vs) {v : Value} (hr : (Instr.build t vs).run P w = .ok v w) (h : wpList P ops Q rest (a.put o.dst v) w) : wpList P ops Q (o :: rest) a w :=
  wpList_plain hgd fun _ hK => by
    unfold Oper.wp execOp
    subst hvs
    simp only [ho, Sem.run_bind, Sem.run_pure, Result.andThen_ok, hr]
    exact hK _ _ h
theorem four_of {L : List Value} (h : Q4 L) : ∃ a b c d, L = [a, b, c, d] := by
  have hl := h.len
  match L, hl with
  | [a, b, c, d], _ => exact ⟨a, b, c, d, rfl⟩
theorem b_rat {A C : List Value} (hA : Q4 A) (hC : Q4 C) (w : World) : (Instr.build 60 #[(0, .agg A.toArray), (1, .agg C.toArray)]).run Try.prog w = .ok (.agg (A ++ C).toArray) w := by
  obtain ⟨a, b, c, d, rfl⟩ := four_of hA
  obtain ⟨a', b', c', d', rfl⟩ := four_of hC
  exact run_build w 60 _ _ (by kernel_rfl)

theorem b_rat1 {A C : List Value} (hA : Q4 A) (hC : C = uV (numU 0) 4) (w : World) : (Instr.build 60 #[(0, .agg A.toArray)]).run Try.prog w = .ok (.agg (A ++ C).toArray) w := by
  obtain ⟨a, b, c, d, rfl⟩ := four_of hA
  subst hC
  exact run_build w 60 _ _ (by kernel_rfl)

theorem b_lad {X A C B D : List Value} (hX : Q4 X) (hA : Q4 A) (hC : Q4 C) (hB : Q4 B) (hD : Q4 D) (w : World) : (Instr.build 62 #[(0, .agg X.toArray), (1, .agg (A ++ C).toArray), (2, .agg (B ++ D).toArray)]).run Try.prog w = .ok (.agg (LadV X A C B D).toArray) w := by
  obtain ⟨a, b, c, d, rfl⟩ := four_of hX
  obtain ⟨a1, b1, c1, d1, rfl⟩ := four_of hA
  obtain ⟨a2, b2, c2, d2, rfl⟩ := four_of hC
  obtain ⟨a3, b3, c3, d3, rfl⟩ := four_of hB
  obtain ⟨a4, b4, c4, d4, rfl⟩ := four_of hD
  exact run_build w 62 _ _ (by kernel_rfl)

theorem b_one {A : List Value} (hA : A = uV (numU 1) 4) (w : World) : (Instr.build 42 #[(0, .int .u64 1)]).run Try.prog w = .ok (.agg A.toArray) w := by
  subst hA
  exact run_build w 42 _ _ (by kernel_rfl)

theorem b_curve {A : List Value} (hA : A = uV (numU 121665) 4) (w : World) : (Instr.build 42 #[(0, .int .u64 121665)]).run Try.prog w = .ok (.agg A.toArray) w := by
  subst hA
  exact run_build w 42 _ _ (by kernel_rfl)

set_option maxRecDepth 100000 in
set_option maxHeartbeats 8000000 in
theorem ladderAt_sym (LX L1 L0 : List Value) (w : World) (hX : Q4 LX) (h1 : L1 = uV (numU 1) 4) (h0 : L0 = uV (numU 0) 4) :
    Calls Try.prog 63 #[.agg LX.toArray] w fun e w' => e = .returned (.agg (LadV LX L1 L0 LX L1).toArray) ∧ Below w.heap.size w w' := by
  have q1 : Q4 L1 := by rw [h1]; exact q4 1
  have q0 : Q4 L0 := by rw [h0]; exact q4 0
  have B1 := fun X => b_one h1 X
  have B2 := fun X => b_rat1 q1 h0 X
  have B3 := fun X => b_rat hX q1 X
  have B4 := fun X => b_lad hX q1 q0 hX q1 X
  have hlen := LadV_length hX q1 q0 hX q1
  have hone := LadV_one hX q1 q0 hX q1
  obtain ⟨LR, hR⟩ : ∃ L, L = LadV LX L1 L0 LX L1 := ⟨_, rfl⟩
  rw [← hR] at hlen hone ⊢
  simp only [← hR] at B4
  clear hR h0
  obtain ⟨LP, hP⟩ : ∃ L, L = L1 ++ L0 := ⟨_, rfl⟩
  simp only [← hP] at B2 B4
  obtain ⟨LQ, hQ⟩ : ∃ L, L = LX ++ L1 := ⟨_, rfl⟩
  simp only [← hQ] at B3 B4
  clear hP hQ
  have hz := (zero_of_info infoLad).1
  have hzf := (zero_of_info infoU4).1
  obtain ⟨Z, hZ⟩ : ∃ Z, Z = (uV (fun _ => 0) 20).toArray := ⟨_, rfl⟩
  obtain ⟨Zf, hZf⟩ : ∃ Z, Z = (uV (fun _ => 0) 4).toArray := ⟨_, rfl⟩
  rw [← hZ] at hz
  rw [← hZf] at hzf
  have hZ1 : Zf.setIfInBounds 0 (Value.int .u64 1) = L1.toArray := by rw [hZf, h1]; kernel_rfl
  have m0 := RowL.made (L := LX) w 42 4 w.heap.size hX.len (by decide) (Nat.le_refl _)
  obtain ⟨w0, hw0⟩ : ∃ W, W = w.alloc (.cells LX.toArray 42) := ⟨_, rfl⟩
  rw [← hw0] at m0
  have s0 : w0.heap.size = w.heap.size + 1 := by rw [hw0]; simp
  have bel : Below w.heap.size w w0 := by rw [hw0]; exact (Below.refl _ _).alloc (Nat.le_refl _) _
  have m1 := RowL.made (L := uV (fun _ => 0) 20) w0 62 20 w.heap.size (uV_length _ _) (by decide) (by omega)
  rw [← hZ, s0] at m1
  have b1 : Below w0.heap.size w0 (w0.alloc (.cells Z 62)) := (Below.refl _ _).alloc (Nat.le_refl _) _
  obtain ⟨w1, hw1⟩ : ∃ W, W = w0.alloc (.cells Z 62) := ⟨_, rfl⟩
  rw [← hw1] at m1 b1
  have s1 : w1.heap.size = w.heap.size + 1 + 1 := by rw [hw1]; simp [s0]
  replace m0 := m0.below b1
  replace bel := below_on bel b1
  have m2 := RowL.made (L := uV (fun _ => 0) 4) w1 42 4 w.heap.size (uV_length _ _) (by decide) (by omega)
  rw [← hZf, s1] at m2
  have b2 : Below w1.heap.size w1 (w1.alloc (.cells Zf 42)) := (Below.refl _ _).alloc (Nat.le_refl _) _
  obtain ⟨w2, hw2⟩ : ∃ W, W = w1.alloc (.cells Zf 42) := ⟨_, rfl⟩
  rw [← hw2] at m2 b2
  replace m0 := m0.below b2
  replace m1 := m1.below b2
  replace bel := below_on bel b2
  have t2 := m2.there (o := 0) (m := L1.toArray.size) (by simp [q1.len])
  have p2 := m2.putAll (B := L1) (by rw [q1.len, uV_length])
  replace m0 := m0.kept p2.2 (by omega)
  replace m1 := m1.kept p2.2 (by omega)
  replace bel := bel.grown p2.2 bel.size (fun k hk => by cases hk; omega)
  have m2' := p2.1
  have ra := m0.all
  have rb := m2'.all
  have t1 := m1.there (o := 0) (m := LR.toArray.size) (by simp [hlen])
  have p1 := m1.putAll (B := LR) (by rw [hlen, uV_length])
  replace bel := bel.grown p1.2 bel.size (fun k hk => by cases hk; omega)
  have hld := run_loadVar_mid (P := Try.prog) _ _ 0 62 _ _ p1.1.all Try.underlying62 rfl (szLad hlen)
  have z1 := hX.sz
  have z2 := q1.sz
  have z3 := q1.sz2
  have z4 := szLad2 hlen
  have o1 := q1.one
  clear m0 m1 m2 m2' p1 p2 b1 b2 hZ hZf h1
  rw [hw2, hw1, hw0] at t2 ra rb t1 bel hld
  clear hw2 hw1 hw0 s0 s1
  clear w0 w1 w2
  go_enter Try.func63, Try.ntmps63
  go_wp2_with (first | (refine wpL_build_run rfl 42 #[(0, .const (.int .u64 1))] rfl #[(0, .int .u64 1)] (by simp [Act.eval, Act.put]) (B1 _) ?_) | (with_reducible refine wpList_store_mid rfl 42 _ _ rfl (w.heap.size + 1 + 1) 0 L1.toArray rfl rfl t2 z3 (all_oneCell_toArray o1) ?_; (try dsimp only)) | (with_reducible refine wpList_load_mid rfl 42 _ rfl w.heap.size 0 rfl LX _ ra Try.underlying42 rfl z1 ?_) | (with_reducible refine wpList_load_mid rfl 42 _ rfl (w.heap.size + 1 + 1) 0 rfl L1 _ rb Try.underlying42 rfl z2 ?_) | (refine wpL_build_run rfl 60 #[(0, .tmp 6)] rfl #[(0, .agg L1.toArray)] (by simp [Act.eval, Act.put]) (B2 _) ?_) | (refine wpL_build_run rfl 60 #[(0, .tmp 8), (1, .tmp 9)] rfl #[(0, .agg LX.toArray), (1, .agg L1.toArray)] (by simp [Act.eval, Act.put]) (B3 _) ?_) | (refine wpL_build_run rfl 62 #[(0, .tmp 5), (1, .tmp 7), (2, .tmp 10)] rfl #[(0, .agg LX.toArray), (1, .agg LP.toArray), (2, .agg LQ.toArray)] (by simp [Act.eval, Act.put]) (B4 _) ?_) | (with_reducible refine wpList_store_mid rfl 62 _ _ rfl (w.heap.size + 1) 0 LR.toArray rfl rfl t1 z4 (all_oneCell_toArray hone) ?_; (try dsimp only)))
  (try simp only [Exit.inBlock, Exit.then])
  refine bodyPost_ret (v := .agg LR.toArray) ?_ rfl ⟨rfl, bel⟩
  simp [results, asAddr, Act.put, hld]

set_option maxRecDepth 100000 in
set_option maxHeartbeats 8000000 in
theorem changed_true (LX LA LC LB LD : List Value) (w : World) (hX : Q4 LX) (hA : Q4 LA) (hC : Q4 LC) (hB : Q4 LB) (hD : Q4 LD) :
    Calls Try.prog 79 #[.agg (LadV LX LA LC LB LD).toArray, .bool true] w fun e w' => e = .returned (.agg (LadV LX LB LD LA LC).toArray) ∧ Below w.heap.size w w' := by
  have hz := (zero_of_info infoLad).1
  obtain ⟨Z20, hZ20⟩ : ∃ Z, Z = (uV (fun _ => 0) 20).toArray := ⟨_, rfl⟩
  rw [← hZ20] at hz
  have hlen0 := LadV_length hX hA hC hB hD
  obtain ⟨LA0, hL0⟩ : ∃ A, A = LadV LX LA LC LB LD := ⟨_, rfl⟩
  obtain ⟨AL, hAL⟩ : ∃ A, A = LA0.toArray := ⟨_, rfl⟩
  have hpre : AL = (LadV LX LA LC LB LD).toArray := by rw [hAL, hL0]
  obtain ⟨rl, rr, bel, sz⟩ := ladRows w hlen0 (ty := 62) (n := 20) (by decide) hpre hZ20
  rw [← hpre]
  generalize hwb : (w.alloc (.cells AL 62)).alloc (.cells Z20 62) = wb at rl rr bel sz
  have q1 := lad_bd rl hX hA hC
  have q2 := lad_ac rl hX
  have t1 := rl.there (o := 4) (m := (LB ++ LD).toArray.size) (by simp [hB.len, hD.len])
  have p1 := lad_put_ac rl hX hA hC hB hD
  replace rr := rr.kept p1.2 (by omega)
  replace bel := bel.grown p1.2 bel.size (fun k hk => by cases hk; exact Nat.le_refl _)
  have t2 := p1.1.there (o := 12) (m := (LA ++ LC).toArray.size) (by simp [hA.len, hC.len])
  have p2 := lad_put_bd p1.1 hX hB hD hB hD hA hC
  replace rr := rr.kept p2.2 (by omega)
  replace bel := bel.grown p2.2 bel.size (fun k hk => by cases hk; exact Nat.le_refl _)
  have rf := p2.1
  have y1 := szRat (rat_length hB hD)
  have y2 := szRat (rat_length hA hC)
  have y3 := szRat2 (rat_length hB hD)
  have y4 := szRat2 (rat_length hA hC)
  have y5 := rat_one hB hD
  have y6 := rat_one hA hC
  have hlen := LadV_length hX hB hD hA hC
  have hone := LadV_one hX hB hD hA hC
  obtain ⟨LR, hR⟩ : ∃ L, L = LadV LX LB LD LA LC := ⟨_, rfl⟩
  rw [← hR] at rf hlen hone ⊢
  have q3 := rf.all
  have t3 := rr.there (o := 0) (m := LR.toArray.size) (by simp [hlen])
  have p3 := rr.putAll (B := LR) (by rw [hlen, uV_length])
  replace bel := bel.grown p3.2 bel.size (fun k hk => by cases hk; omega)
  have hld := run_loadVar_mid (P := Try.prog) _ _ 0 62 _ _ p3.1.all Try.underlying62 rfl (szLad hlen)
  have z3 := szLad hlen
  have z4 := szLad2 hlen
  obtain ⟨LP, hP⟩ : ∃ L, L = LA ++ LC := ⟨_, rfl⟩
  obtain ⟨LQ, hQ⟩ : ∃ L, L = LB ++ LD := ⟨_, rfl⟩
  rw [← hQ] at q1 t1 y1 y3 y5 q3 t3 bel hld t2
  rw [← hP] at q2 t2 y2 y4 y6 q3 t3 bel hld
  clear p1 p2 hP hQ
  clear rl rr rf p3 hR hL0 hpre hAL hlen0 hlen hZ20 sz hX hA hC hB hD
  rw [← hwb] at q1 q2 t1 t2 q3 t3 bel hld
  clear hwb
  clear LA0
  clear wb LA LB LC LD LX
  go_enter Try.func79, Try.ntmps79
  go_wp2_with (first | (with_reducible refine wpList_load_mid rfl 60 _ rfl w.heap.size 12 rfl LQ _ q1 Try.underlying60 rfl y1 ?_) | (with_reducible refine wpList_load_mid rfl 60 _ rfl w.heap.size 4 rfl LP _ q2 Try.underlying60 rfl y2 ?_) | (with_reducible refine wpList_store_mid rfl 60 _ _ rfl w.heap.size 4 LQ.toArray rfl rfl t1 y3 (all_oneCell_toArray y5) ?_; (try dsimp only)) | (with_reducible refine wpList_store_mid rfl 60 _ _ rfl w.heap.size 12 LP.toArray rfl rfl t2 y4 (all_oneCell_toArray y6) ?_; (try dsimp only)) | (with_reducible refine wpList_load_mid rfl 62 _ rfl w.heap.size 0 rfl LR _ q3 Try.underlying62 rfl z3 ?_) | (with_reducible refine wpList_store_mid rfl 62 _ _ rfl (w.heap.size + 1) 0 LR.toArray rfl rfl t3 z4 (all_oneCell_toArray hone) ?_; (try dsimp only)))
  (try simp only [Exit.inBlock, Exit.then])
  refine bodyPost_ret (v := .agg LR.toArray) ?_ rfl ⟨rfl, bel⟩
  simp [results, asAddr, Act.put, hld]

set_option maxRecDepth 100000 in
set_option maxHeartbeats 8000000 in
theorem changed_false (LX LA LC LB LD : List Value) (w : World) (hX : Q4 LX) (hA : Q4 LA) (hC : Q4 LC) (hB : Q4 LB) (hD : Q4 LD) :
    Calls Try.prog 79 #[.agg (LadV LX LA LC LB LD).toArray, .bool false] w fun e w' => e = .returned (.agg (LadV LX LA LC LB LD).toArray) ∧ Below w.heap.size w w' := by
  have hz := (zero_of_info infoLad).1
  obtain ⟨Z20, hZ20⟩ : ∃ Z, Z = (uV (fun _ => 0) 20).toArray := ⟨_, rfl⟩
  rw [← hZ20] at hz
  have hlen0 := LadV_length hX hA hC hB hD
  obtain ⟨LA0, hL0⟩ : ∃ A, A = LadV LX LA LC LB LD := ⟨_, rfl⟩
  obtain ⟨AL, hAL⟩ : ∃ A, A = LA0.toArray := ⟨_, rfl⟩
  have hpre : AL = (LadV LX LA LC LB LD).toArray := by rw [hAL, hL0]
  obtain ⟨rl, rr, bel, sz⟩ := ladRows w hlen0 (ty := 62) (n := 20) (by decide) hpre hZ20
  obtain ⟨LR, hR⟩ : ∃ L, L = LadV LX LA LC LB LD := ⟨_, rfl⟩
  have hpr2 : AL = LR.toArray := by rw [hpre, hR]
  rw [← hR]
  obtain ⟨RV, hRV⟩ : ∃ v, v = Value.agg LR.toArray := ⟨_, rfl⟩
  have hre : Calls Try.prog 79 #[.agg AL, .bool false] w (fun e w' => e = .returned RV ∧ Below w.heap.size w w') → Calls Try.prog 79 #[.agg LR.toArray, .bool false] w fun e w' => e = .returned (.agg LR.toArray) ∧ Below w.heap.size w w' := fun h => by rw [hpr2, hRV] at h; exact h
  refine hre ?_
  rw [hRV]
  clear hre hRV
  generalize hwb : (w.alloc (.cells AL 62)).alloc (.cells Z20 62) = wb at rl rr bel sz
  have rf := rl
  have hlen := hlen0
  have hone := LadV_one hX hA hC hB hD
  rw [← hR] at rf hlen hone
  have q3 := rf.all
  have t3 := rr.there (o := 0) (m := LR.toArray.size) (by simp [hlen])
  have p3 := rr.putAll (B := LR) (by rw [hlen, uV_length])
  replace bel := bel.grown p3.2 bel.size (fun k hk => by cases hk; omega)
  have hld := run_loadVar_mid (P := Try.prog) _ _ 0 62 _ _ p3.1.all Try.underlying62 rfl (szLad hlen)
  have z3 := szLad hlen
  have z4 := szLad2 hlen
  clear rl rr rf p3 hR hL0 hpre hAL hlen0 hlen hZ20 sz hX hA hC hB hD hpr2
  rw [← hwb] at q3 t3 bel hld
  clear hwb
  clear LA0
  clear wb LA LB LC LD LX
  go_enter Try.func79, Try.ntmps79
  go_wp2_with (first | (with_reducible refine wpList_load_mid rfl 62 _ rfl w.heap.size 0 rfl LR _ q3 Try.underlying62 rfl z3 ?_) | (with_reducible refine wpList_store_mid rfl 62 _ _ rfl (w.heap.size + 1) 0 LR.toArray rfl rfl t3 z4 (all_oneCell_toArray hone) ?_; (try dsimp only)))
  (try simp only [Exit.inBlock, Exit.then])
  refine bodyPost_ret (v := .agg LR.toArray) ?_ rfl ⟨rfl, bel⟩
  simp [results, asAddr, Act.put, hld]


end Go.Proofs.Ytghoibggmddkmac

namespace Go.Proofs.Ytghoibggmddkmac
open Go.RowKit

set_option maxRecDepth 100000 in
set_option maxHeartbeats 8000000 in
theorem step_sym (LX LA LC LB LD LK La Lb Laa Lbb Le Lc Ld Lda Lcb Lboth Lbet LnB Lbb2 LnD LnA Lek Ls LnC : List Value) (w : World) (hK : LK = uV (numU 121665) 4) (qX : Q4 LX) (qA : Q4 LA) (qC : Q4 LC) (qB : Q4 LB) (qD : Q4 LD) (qa : Q4 La) (qb : Q4 Lb) (qaa : Q4 Laa) (qbb : Q4 Lbb) (qe : Q4 Le) (qc : Q4 Lc) (qd : Q4 Ld) (qda : Q4 Lda) (qcb : Q4 Lcb) (qboth : Q4 Lboth) (qbet : Q4 Lbet) (qnB : Q4 LnB) (qnD : Q4 LnD) (qnA : Q4 LnA) (qnC : Q4 LnC)
    (CP1 : ∀ X, Calls Try.prog 45 #[.agg LA.toArray, .agg LC.toArray] X fun e w' => e = .returned (.agg La.toArray) ∧ Below X.heap.size X w')
    (CM1 : ∀ X, Calls Try.prog 46 #[.agg LA.toArray, .agg LC.toArray] X fun e w' => e = .returned (.agg Lb.toArray) ∧ Below X.heap.size X w')
    (CT1 : ∀ X, Calls Try.prog 44 #[.agg La.toArray, .agg La.toArray] X fun e w' => e = .returned (.agg Laa.toArray) ∧ Below X.heap.size X w')
    (CT2 : ∀ X, Calls Try.prog 44 #[.agg Lb.toArray, .agg Lb.toArray] X fun e w' => e = .returned (.agg Lbb.toArray) ∧ Below X.heap.size X w')
    (CM2 : ∀ X, Calls Try.prog 46 #[.agg Laa.toArray, .agg Lbb.toArray] X fun e w' => e = .returned (.agg Le.toArray) ∧ Below X.heap.size X w')
    (CP2 : ∀ X, Calls Try.prog 45 #[.agg LB.toArray, .agg LD.toArray] X fun e w' => e = .returned (.agg Lc.toArray) ∧ Below X.heap.size X w')
    (CM3 : ∀ X, Calls Try.prog 46 #[.agg LB.toArray, .agg LD.toArray] X fun e w' => e = .returned (.agg Ld.toArray) ∧ Below X.heap.size X w')
    (CT3 : ∀ X, Calls Try.prog 44 #[.agg Ld.toArray, .agg La.toArray] X fun e w' => e = .returned (.agg Lda.toArray) ∧ Below X.heap.size X w')
    (CT4 : ∀ X, Calls Try.prog 44 #[.agg Lc.toArray, .agg Lb.toArray] X fun e w' => e = .returned (.agg Lcb.toArray) ∧ Below X.heap.size X w')
    (CP3 : ∀ X, Calls Try.prog 45 #[.agg Lda.toArray, .agg Lcb.toArray] X fun e w' => e = .returned (.agg Lboth.toArray) ∧ Below X.heap.size X w')
    (CM4 : ∀ X, Calls Try.prog 46 #[.agg Lda.toArray, .agg Lcb.toArray] X fun e w' => e = .returned (.agg Lbet.toArray) ∧ Below X.heap.size X w')
    (CT5 : ∀ X, Calls Try.prog 44 #[.agg Lboth.toArray, .agg Lboth.toArray] X fun e w' => e = .returned (.agg LnB.toArray) ∧ Below X.heap.size X w')
    (CT6 : ∀ X, Calls Try.prog 44 #[.agg Lbet.toArray, .agg Lbet.toArray] X fun e w' => e = .returned (.agg Lbb2.toArray) ∧ Below X.heap.size X w')
    (CT7 : ∀ X, Calls Try.prog 44 #[.agg LX.toArray, .agg Lbb2.toArray] X fun e w' => e = .returned (.agg LnD.toArray) ∧ Below X.heap.size X w')
    (CT8 : ∀ X, Calls Try.prog 44 #[.agg Laa.toArray, .agg Lbb.toArray] X fun e w' => e = .returned (.agg LnA.toArray) ∧ Below X.heap.size X w')
    (CT9 : ∀ X, Calls Try.prog 44 #[.agg Le.toArray, .agg LK.toArray] X fun e w' => e = .returned (.agg Lek.toArray) ∧ Below X.heap.size X w')
    (CP4 : ∀ X, Calls Try.prog 45 #[.agg Laa.toArray, .agg Lek.toArray] X fun e w' => e = .returned (.agg Ls.toArray) ∧ Below X.heap.size X w')
    (CT10 : ∀ X, Calls Try.prog 44 #[.agg Le.toArray, .agg Ls.toArray] X fun e w' => e = .returned (.agg LnC.toArray) ∧ Below X.heap.size X w')
    : Calls Try.prog 80 #[.agg (LadV LX LA LC LB LD).toArray] w fun e w' => e = .returned (.agg (LadV LX LnA LnC LnB LnD).toArray) ∧ Below w.heap.size w w' := by
  have hz := (zero_of_info infoLad).1
  obtain ⟨Z20, hZ20⟩ : ∃ Z, Z = (uV (fun _ => 0) 20).toArray := ⟨_, rfl⟩
  rw [← hZ20] at hz
  have BK := fun X => b_curve hK X
  have qK : Q4 LK := by rw [hK]; exact q4 _
  clear hK
  have hlen0 := LadV_length qX qA qC qB qD
  obtain ⟨AL, hAL⟩ : ∃ A, A = (LadV LX LA LC LB LD).toArray := ⟨_, rfl⟩
  obtain ⟨rl, rr, bel, sz⟩ := ladRows w hlen0 (ty := 62) (n := 20) (by decide) hAL hZ20
  rw [← hAL]
  clear hAL hlen0
  obtain ⟨LR, hR⟩ : ∃ L, L = LadV LX LnA LnC LnB LnD := ⟨_, rfl⟩
  rw [← hR]
  replace hR : Hid (LR = LadV LX LnA LnC LnB LnD) := hR
  have hzf := (zero_of_info infoU4).1
  obtain ⟨Z, hZ⟩ : ∃ Z, Z = (uV (fun _ => 0) 4).toArray := ⟨_, rfl⟩
  rw [← hZ] at hzf
  replace hZ : Hid (Z = (uV (fun _ => 0) 4).toArray) := hZ
  replace hZ20 : Hid (Z20 = (uV (fun _ => 0) 20).toArray) := hZ20
  go_enter Try.func80, Try.ntmps80
  go_wp2_with (fail)
  obtain ⟨Gr, hGr⟩ : ∃ G, G = w.heap.size + 1 := ⟨_, rfl⟩
  rw [← hGr] at rr sz ⊢
  generalize (w.alloc (.cells AL 62)).alloc (.cells Z20 62) = wb at rl rr bel sz ⊢
  have oGr : w.heap.size < Gr := by omega
  clear hGr sz hz hZ20
  clear Z20
  have hd0 : Below wb.heap.size wb wb.drew := (Below.refl _ _).drew
  refine wp_region_noPanic ?_
  refine wp_region_T 99 (fun X => X.rangeAt w.heap.size 4 LA ∧ X.rangeAt w.heap.size 8 LC) (fun _ => True) (by kernel_rfl) ?_
  generalize wb.drew = W1 at hd0 ⊢
  replace rl := rl.below hd0
  replace rr := rr.below hd0
  replace bel := below_on bel hd0
  clear hd0
  have hT : W1.rangeAt w.heap.size 4 LA ∧ W1.rangeAt w.heap.size 8 LC := ⟨(lad_a rl qX), (lad_c rl qX qA)⟩
  refine anyT_takeT (i := 0) (v := .pointer (some ⟨w.heap.size, 4, none⟩)) rfl (by kernel_rfl) (by kernel_rfl) (by kernel_rfl) (by kernel_rfl) (fun _ _ _ h => h) (Or.inl ⟨by rfl, fun X hSw => by ((try dsimp only at hSw); go_simp)⟩) hT (fun _ => trivial) ?_
  simp only [Act.put, List.getElem_toArray, List.getElem_cons_zero, List.setIfInBounds_toArray, List.set_cons_zero, List.set_cons_succ]
  refine anyT_takeT (i := 1) (v := .pointer (some ⟨w.heap.size, 4, none⟩)) rfl (by kernel_rfl) (by kernel_rfl) (by kernel_rfl) (by kernel_rfl) (fun _ _ _ h => h) (Or.inl ⟨by rfl, fun X hSw => by ((try dsimp only at hSw); go_simp)⟩) hT (fun _ => trivial) ?_
  simp only [Act.put, List.getElem_toArray, List.getElem_cons_zero, List.getElem_cons_succ, List.setIfInBounds_toArray, List.set_cons_zero, List.set_cons_succ]
  refine anyT_takeT (i := 2) rfl (by kernel_rfl) (by kernel_rfl) (by kernel_rfl) (by kernel_rfl) (fun _ _ _ h => h) (yieldsIf_load_mid (by rfl) _ _ rfl _ _ rfl LA _ (fun _ hw => hw.1) Try.underlying42 rfl qA.sz) hT (fun _ => trivial) ?_
  simp only [Act.put, List.getElem_toArray, List.getElem_cons_zero, List.getElem_cons_succ, List.setIfInBounds_toArray, List.set_cons_zero, List.set_cons_succ]
  refine anyT_takeT (i := 3) (v := .pointer (some ⟨w.heap.size, 4, none⟩)) rfl (by kernel_rfl) (by kernel_rfl) (by kernel_rfl) (by kernel_rfl) (fun _ _ _ h => h) (Or.inl ⟨by rfl, fun X hSw => by ((try dsimp only at hSw); go_simp)⟩) hT (fun _ => trivial) ?_
  simp only [Act.put, List.getElem_toArray, List.getElem_cons_zero, List.getElem_cons_succ, List.setIfInBounds_toArray, List.set_cons_zero, List.set_cons_succ]
  refine anyT_takeT (i := 4) (v := .pointer (some ⟨w.heap.size, 8, none⟩)) rfl (by kernel_rfl) (by kernel_rfl) (by kernel_rfl) (by kernel_rfl) (fun _ _ _ h => h) (Or.inl ⟨by rfl, fun X hSw => by ((try dsimp only at hSw); go_simp)⟩) hT (fun _ => trivial) ?_
  simp only [Act.put, List.getElem_toArray, List.getElem_cons_zero, List.getElem_cons_succ, List.setIfInBounds_toArray, List.set_cons_zero, List.set_cons_succ]
  refine anyT_takeT (i := 5) rfl (by kernel_rfl) (by kernel_rfl) (by kernel_rfl) (by kernel_rfl) (fun _ _ _ h => h) (yieldsIf_load_mid (by rfl) _ _ rfl _ _ rfl LC _ (fun _ hw => hw.2) Try.underlying42 rfl qC.sz) hT (fun _ => trivial) ?_
  simp only [Act.put, List.getElem_toArray, List.getElem_cons_zero, List.getElem_cons_succ, List.setIfInBounds_toArray, List.set_cons_zero, List.set_cons_succ]
  refine anyT_takeT (i := 7) (v := .pointer (some ⟨w.heap.size, 4, none⟩)) rfl (by kernel_rfl) (by kernel_rfl) (by kernel_rfl) (by kernel_rfl) (fun _ _ _ h => h) (Or.inl ⟨by rfl, fun X hSw => by ((try dsimp only at hSw); go_simp)⟩) hT (fun _ => trivial) ?_
  simp only [Act.put, List.getElem_toArray, List.getElem_cons_zero, List.getElem_cons_succ, List.setIfInBounds_toArray, List.set_cons_zero, List.set_cons_succ]
  refine anyT_takeT (i := 8) (v := .pointer (some ⟨w.heap.size, 4, none⟩)) rfl (by kernel_rfl) (by kernel_rfl) (by kernel_rfl) (by kernel_rfl) (fun _ _ _ h => h) (Or.inl ⟨by rfl, fun X hSw => by ((try dsimp only at hSw); go_simp)⟩) hT (fun _ => trivial) ?_
  simp only [Act.put, List.getElem_toArray, List.getElem_cons_zero, List.getElem_cons_succ, List.setIfInBounds_toArray, List.set_cons_zero, List.set_cons_succ]
  refine anyT_takeT (i := 9) rfl (by kernel_rfl) (by kernel_rfl) (by kernel_rfl) (by kernel_rfl) (fun _ _ _ h => h) (yieldsIf_load_mid (by rfl) _ _ rfl _ _ rfl LA _ (fun _ hw => hw.1) Try.underlying42 rfl qA.sz) hT (fun _ => trivial) ?_
  simp only [Act.put, List.getElem_toArray, List.getElem_cons_zero, List.getElem_cons_succ, List.setIfInBounds_toArray, List.set_cons_zero, List.set_cons_succ]
  refine anyT_takeT (i := 10) (v := .pointer (some ⟨w.heap.size, 4, none⟩)) rfl (by kernel_rfl) (by kernel_rfl) (by kernel_rfl) (by kernel_rfl) (fun _ _ _ h => h) (Or.inl ⟨by rfl, fun X hSw => by ((try dsimp only at hSw); go_simp)⟩) hT (fun _ => trivial) ?_
  simp only [Act.put, List.getElem_toArray, List.getElem_cons_zero, List.getElem_cons_succ, List.setIfInBounds_toArray, List.set_cons_zero, List.set_cons_succ]
  refine anyT_takeT (i := 11) (v := .pointer (some ⟨w.heap.size, 8, none⟩)) rfl (by kernel_rfl) (by kernel_rfl) (by kernel_rfl) (by kernel_rfl) (fun _ _ _ h => h) (Or.inl ⟨by rfl, fun X hSw => by ((try dsimp only at hSw); go_simp)⟩) hT (fun _ => trivial) ?_
  simp only [Act.put, List.getElem_toArray, List.getElem_cons_zero, List.getElem_cons_succ, List.setIfInBounds_toArray, List.set_cons_zero, List.set_cons_succ]
  refine anyT_takeT (i := 12) rfl (by kernel_rfl) (by kernel_rfl) (by kernel_rfl) (by kernel_rfl) (fun _ _ _ h => h) (yieldsIf_load_mid (by rfl) _ _ rfl _ _ rfl LC _ (fun _ hw => hw.2) Try.underlying42 rfl qC.sz) hT (fun _ => trivial) ?_
  simp only [Act.put, List.getElem_toArray, List.getElem_cons_zero, List.getElem_cons_succ, List.setIfInBounds_toArray, List.set_cons_zero, List.set_cons_succ]
  clear hT
  refine anyT_pair (c1 := 6) (c2 := 13) (b1 := 14) (b2 := 15) (d1 := 3) (d2 := 4) (e1 := 20) (e2 := 27) (ty := 42) (Z := Z) (pt := fun g => .pointer (some ⟨g, 0, none⟩)) (v1 := .agg La.toArray) (v2 := .agg Lb.toArray) (by kernel_rfl) (by rfl) hZ.out (fun X hX => ⟨(lad_a (rl.below hX) qX), (lad_c (rl.below hX) qX qA)⟩) ?_ ?_ ?_ ?_ ?_
  · intro u1 u2 X hX
    clear hX
    refine wpOp_step rfl (fun K hK => ?_)
    replace hK : Hid _ := hK
    simp only [frP, Act.put, List.getElem_toArray, List.getElem_cons_zero, List.getElem_cons_succ, List.setIfInBounds_toArray, List.set_cons_zero, List.set_cons_succ]
    go_simp
    refine (CP1 _).mono ?_
    rintro e w1 ⟨rfl, b1⟩
    go_wp2_with (fail)
    exact hK.out _ _ ⟨rfl, b1⟩
  · intro u1 u2 X hX
    clear hX
    refine wpOp_step rfl (fun K hK => ?_)
    replace hK : Hid _ := hK
    simp only [frP, Act.put, List.getElem_toArray, List.getElem_cons_zero, List.getElem_cons_succ, List.setIfInBounds_toArray, List.set_cons_zero, List.set_cons_succ]
    go_simp
    refine (CM1 _).mono ?_
    rintro e w1 ⟨rfl, b1⟩
    go_wp2_with (fail)
    exact hK.out _ _ ⟨rfl, b1⟩
  · intro u1 r1 r2 X
    refine wpOp_step rfl (fun K hK => ?_)
    simp only [frP, Act.put, List.getElem_toArray, List.getElem_cons_zero, List.getElem_cons_succ, List.setIfInBounds_toArray, List.set_cons_zero, List.set_cons_succ]
    go_simp
    exact hK _ _ ⟨rfl, rfl⟩
  · intro u1 r1 r2 X
    refine wpOp_step rfl (fun K hK => ?_)
    simp only [frP, Act.put, List.getElem_toArray, List.getElem_cons_zero, List.getElem_cons_succ, List.setIfInBounds_toArray, List.set_cons_zero, List.set_cons_succ]
    go_simp
    exact hK _ _ ⟨rfl, rfl⟩
  intro wx2 Ga Gb hX m1 m2 hg
  simp only [frP, Act.put, List.setIfInBounds_toArray, List.set_cons_zero, List.set_cons_succ]
  have hlow := bel.size
  have l1 := m1.lt
  have l2 := m2.lt
  have lt_rl := rl.lt
  have lt_rr := rr.lt
  replace rl := rl.below hX
  replace rr := rr.below hX
  replace bel := below_on bel hX
  replace m1 := m1.rowL.low hlow
  replace m2 := m2.rowL.low hlow
  have th := m1.there (o := 0) (m := La.toArray.size) (by simp [qa.len])
  have pp := m1.putAll (B := La) (by rw [qa.len, uV_length])
  replace rl := rl.kept pp.2 (by omega)
  replace rr := rr.kept pp.2 (by omega)
  replace bel := bel.grown pp.2 bel.size (fun k hk => by cases hk; omega)
  replace m2 := m2.kept pp.2 (by omega)
  have ra := pp.1
  clear m1 pp
  refine anyT_one (i := 16) (by kernel_rfl) rfl (fun K hK => ?_)
  refine wp_store_mid 42 _ _ rfl Ga 0 La.toArray rfl rfl th qa.sz2 (all_oneCell_toArray qa.one) ?_
  (try dsimp only)
  refine hK.out _ _ ⟨(lad_a rl qX), (lad_c rl qX qA)⟩ (fun _ => trivial) ?_
  clear hK K th
  generalize wx2.setCells Ga 0 La = wq3 at rl rr ra m2 bel ⊢
  have th := m2.there (o := 0) (m := Lb.toArray.size) (by simp [qb.len])
  have pp := m2.putAll (B := Lb) (by rw [qb.len, uV_length])
  replace rl := rl.kept pp.2 (by omega)
  replace rr := rr.kept pp.2 (by omega)
  replace ra := ra.kept pp.2 (by omega)
  replace bel := bel.grown pp.2 bel.size (fun k hk => by cases hk; omega)
  have rb := pp.1
  clear m2 pp
  refine anyT_one (i := 17) (by kernel_rfl) rfl (fun K hK => ?_)
  refine wp_store_mid 42 _ _ rfl Gb 0 Lb.toArray rfl rfl th qb.sz2 (all_oneCell_toArray qb.one) ?_
  (try dsimp only)
  refine hK.out _ _ ⟨(lad_a rl qX), (lad_c rl qX qA)⟩ (fun _ => trivial) ?_
  clear hK K th
  refine anyT_done (by kernel_rfl) ?_ _
  refine NoPanic.normal ?_
  generalize wq3.setCells Gb 0 Lb = wq4 at rl rr ra rb bel ⊢
  have ob : Ga ≠ Gb := hg
  have za : w.heap.size < Ga := by omega
  have zb : w.heap.size < Gb := by omega
  clear hg hlow l1 l2 lt_rl lt_rr
  go_wp2_with (fail)
  have hd0 : Below wq4.heap.size wq4 wq4.drew := (Below.refl _ _).drew
  refine wp_region_noPanic ?_
  refine wp_region_T 99 (fun X => X.rangeAt Ga 0 La ∧ X.rangeAt Gb 0 Lb) (fun _ => True) (by kernel_rfl) ?_
  generalize wq4.drew = W5 at hd0 ⊢
  replace rl := rl.below hd0
  replace rr := rr.below hd0
  replace ra := ra.below hd0
  replace rb := rb.below hd0
  replace bel := below_on bel hd0
  clear hd0
  have hT : W5.rangeAt Ga 0 La ∧ W5.rangeAt Gb 0 Lb := ⟨ra.all, rb.all⟩
  refine anyT_takeT (i := 0) rfl (by kernel_rfl) (by kernel_rfl) (by kernel_rfl) (by kernel_rfl) (fun _ _ _ h => h) (yieldsIf_load_mid (by rfl) _ _ rfl _ _ rfl La _ (fun _ hw => hw.1) Try.underlying42 rfl qa.sz) hT (fun _ => trivial) ?_
  simp only [Act.put, List.getElem_toArray, List.getElem_cons_zero, List.setIfInBounds_toArray]
  refine anyT_takeT (i := 1) rfl (by kernel_rfl) (by kernel_rfl) (by kernel_rfl) (by kernel_rfl) (fun _ _ _ h => h) (yieldsIf_load_mid (by rfl) _ _ rfl _ _ rfl La _ (fun _ hw => hw.1) Try.underlying42 rfl qa.sz) hT (fun _ => trivial) ?_
  simp only [Act.put, List.getElem_toArray, List.getElem_cons_zero, List.getElem_cons_succ, List.setIfInBounds_toArray, List.set_cons_zero, List.set_cons_succ]
  refine anyT_takeT (i := 3) rfl (by kernel_rfl) (by kernel_rfl) (by kernel_rfl) (by kernel_rfl) (fun _ _ _ h => h) (yieldsIf_load_mid (by rfl) _ _ rfl _ _ rfl Lb _ (fun _ hw => hw.2) Try.underlying42 rfl qb.sz) hT (fun _ => trivial) ?_
  simp only [Act.put, List.getElem_toArray, List.getElem_cons_zero, List.getElem_cons_succ, List.setIfInBounds_toArray, List.set_cons_zero, List.set_cons_succ]
  refine anyT_takeT (i := 4) rfl (by kernel_rfl) (by kernel_rfl) (by kernel_rfl) (by kernel_rfl) (fun _ _ _ h => h) (yieldsIf_load_mid (by rfl) _ _ rfl _ _ rfl Lb _ (fun _ hw => hw.2) Try.underlying42 rfl qb.sz) hT (fun _ => trivial) ?_
  simp only [Act.put, List.getElem_toArray, List.getElem_cons_zero, List.getElem_cons_succ, List.setIfInBounds_toArray, List.set_cons_zero, List.set_cons_succ]
  clear hT
  refine anyT_pair (c1 := 2) (c2 := 5) (b1 := 6) (b2 := 7) (d1 := 5) (d2 := 6) (e1 := 30) (e2 := 33) (ty := 42) (Z := Z) (pt := fun g => .pointer (some ⟨g, 0, none⟩)) (v1 := .agg Laa.toArray) (v2 := .agg Lbb.toArray) (by kernel_rfl) (by rfl) hZ.out (fun X hX => ⟨(ra.below hX).all, (rb.below hX).all⟩) ?_ ?_ ?_ ?_ ?_
  · intro u1 u2 X hX
    clear hX
    refine wpOp_step rfl (fun K hK => ?_)
    replace hK : Hid _ := hK
    simp only [frP, Act.put, List.getElem_toArray, List.getElem_cons_zero, List.getElem_cons_succ, List.setIfInBounds_toArray, List.set_cons_zero, List.set_cons_succ]
    go_simp
    refine (CT1 _).mono ?_
    rintro e w1 ⟨rfl, b1⟩
    go_wp2_with (fail)
    exact hK.out _ _ ⟨rfl, b1⟩
  · intro u1 u2 X hX
    clear hX
    refine wpOp_step rfl (fun K hK => ?_)
    replace hK : Hid _ := hK
    simp only [frP, Act.put, List.getElem_toArray, List.getElem_cons_zero, List.getElem_cons_succ, List.setIfInBounds_toArray, List.set_cons_zero, List.set_cons_succ]
    go_simp
    refine (CT2 _).mono ?_
    rintro e w1 ⟨rfl, b1⟩
    go_wp2_with (fail)
    exact hK.out _ _ ⟨rfl, b1⟩
  · intro u1 r1 r2 X
    refine wpOp_step rfl (fun K hK => ?_)
    simp only [frP, Act.put, List.getElem_toArray, List.getElem_cons_zero, List.getElem_cons_succ, List.setIfInBounds_toArray, List.set_cons_zero, List.set_cons_succ]
    go_simp
    exact hK _ _ ⟨rfl, rfl⟩
  · intro u1 r1 r2 X
    refine wpOp_step rfl (fun K hK => ?_)
    simp only [frP, Act.put, List.getElem_toArray, List.getElem_cons_zero, List.getElem_cons_succ, List.setIfInBounds_toArray, List.set_cons_zero, List.set_cons_succ]
    go_simp
    exact hK _ _ ⟨rfl, rfl⟩
  intro wx6 Gaa Gbb hX m1 m2 hg
  simp only [frP, Act.put, List.setIfInBounds_toArray, List.set_cons_zero, List.set_cons_succ]
  have hlow := bel.size
  have l1 := m1.lt
  have l2 := m2.lt
  have lt_rl := rl.lt
  have lt_rr := rr.lt
  have lt_ra := ra.lt
  have lt_rb := rb.lt
  replace rl := rl.below hX
  replace rr := rr.below hX
  replace ra := ra.below hX
  replace rb := rb.below hX
  replace bel := below_on bel hX
  replace m1 := m1.rowL.low hlow
  replace m2 := m2.rowL.low hlow
  have th := m1.there (o := 0) (m := Laa.toArray.size) (by simp [qaa.len])
  have pp := m1.putAll (B := Laa) (by rw [qaa.len, uV_length])
  replace rl := rl.kept pp.2 (by omega)
  replace rr := rr.kept pp.2 (by omega)
  replace ra := ra.kept pp.2 (by omega)
  replace rb := rb.kept pp.2 (by omega)
  replace bel := bel.grown pp.2 bel.size (fun k hk => by cases hk; omega)
  replace m2 := m2.kept pp.2 (by omega)
  have raa := pp.1
  clear m1 pp
  refine anyT_one (i := 8) (by kernel_rfl) rfl (fun K hK => ?_)
  refine wp_store_mid 42 _ _ rfl Gaa 0 Laa.toArray rfl rfl th qaa.sz2 (all_oneCell_toArray qaa.one) ?_
  (try dsimp only)
  refine hK.out _ _ ⟨ra.all, rb.all⟩ (fun _ => trivial) ?_
  clear hK K th
  generalize wx6.setCells Gaa 0 Laa = wq7 at rl rr ra rb raa m2 bel ⊢
  have th := m2.there (o := 0) (m := Lbb.toArray.size) (by simp [qbb.len])
  have pp := m2.putAll (B := Lbb) (by rw [qbb.len, uV_length])
  replace rl := rl.kept pp.2 (by omega)
  replace rr := rr.kept pp.2 (by omega)
  replace ra := ra.kept pp.2 (by omega)
  replace rb := rb.kept pp.2 (by omega)
  replace raa := raa.kept pp.2 (by omega)
  replace bel := bel.grown pp.2 bel.size (fun k hk => by cases hk; omega)
  have rbb := pp.1
  clear m2 pp
  refine anyT_one (i := 9) (by kernel_rfl) rfl (fun K hK => ?_)
  refine wp_store_mid 42 _ _ rfl Gbb 0 Lbb.toArray rfl rfl th qbb.sz2 (all_oneCell_toArray qbb.one) ?_
  (try dsimp only)
  refine hK.out _ _ ⟨ra.all, rb.all⟩ (fun _ => trivial) ?_
  clear hK K th
  refine anyT_done (by kernel_rfl) ?_ _
  refine NoPanic.normal ?_
  generalize wq7.setCells Gbb 0 Lbb = wq8 at rl rr ra rb raa rbb bel ⊢
  have obb : Gaa ≠ Gbb := hg
  have zaa : w.heap.size < Gaa := by omega
  have zbb : w.heap.size < Gbb := by omega
  clear hg hlow l1 l2 lt_rl lt_rr lt_ra lt_rb
  have q0 := raa.all
  have q1 := rbb.all
  go_wp2_with (first | (with_reducible refine wpList_load_mid rfl 42 _ rfl Gaa 0 rfl Laa _ q0 Try.underlying42 rfl qaa.sz ?_) | (with_reducible refine wpList_load_mid rfl 42 _ rfl Gbb 0 rfl Lbb _ q1 Try.underlying42 rfl qbb.sz ?_))
  clear q0 q1
  refine (CM2 _).mono ?_
  rintro e wk1 ⟨rfl, bk⟩
  replace rl := rl.below bk
  replace rr := rr.below bk
  replace ra := ra.below bk
  replace rb := rb.below bk
  replace raa := raa.below bk
  replace rbb := rbb.below bk
  replace bel := below_on bel bk
  have m1 := RowL.made (L := uV (fun _ => 0) 4) wk1 42 4 w.heap.size (uV_length _ _) (by decide) bel.size
  rw [← hZ.out] at m1
  have b2 : Below wk1.heap.size wk1 (wk1.alloc (.cells Z 42)) := (Below.refl _ _).alloc (Nat.le_refl _) _
  have lt_rl := rl.lt
  have lt_rr := rr.lt
  have lt_ra := ra.lt
  have lt_rb := rb.lt
  have lt_raa := raa.lt
  have lt_rbb := rbb.lt
  replace rl := rl.below b2
  replace rr := rr.below b2
  replace ra := ra.below b2
  replace rb := rb.below b2
  replace raa := raa.below b2
  replace rbb := rbb.below b2
  replace bel := below_on bel b2
  have th := m1.there (o := 0) (m := Le.toArray.size) (by simp [qe.len])
  have pp := m1.putAll (B := Le) (by rw [qe.len, uV_length])
  replace rl := rl.kept pp.2 (by omega)
  replace rr := rr.kept pp.2 (by omega)
  replace ra := ra.kept pp.2 (by omega)
  replace rb := rb.kept pp.2 (by omega)
  replace raa := raa.kept pp.2 (by omega)
  replace rbb := rbb.kept pp.2 (by omega)
  replace bel := bel.grown pp.2 bel.size (fun k hk => by cases hk; omega)
  have re := pp.1
  have ze : w.heap.size < wk1.heap.size := by omega
  clear m1 pp b2 bk lt_rl lt_rr lt_ra lt_rb lt_raa lt_rbb
  go_wp2_with (first | (with_reducible refine wpList_store_mid rfl 42 _ _ rfl wk1.heap.size 0 Le.toArray rfl rfl th qe.sz2 (all_oneCell_toArray qe.one) ?_; (try dsimp only)))
  clear th
  generalize (wk1.alloc (.cells Z 42)).setCells wk1.heap.size 0 Le = wq9 at rl rr ra rb raa rbb re bel ⊢
  generalize wk1.heap.size = Ge at re ze ⊢
  have hd0 : Below wq9.heap.size wq9 wq9.drew := (Below.refl _ _).drew
  refine wp_region_noPanic ?_
  refine wp_region_T 99 (fun X => X.rangeAt w.heap.size 12 LB ∧ X.rangeAt w.heap.size 16 LD) (fun _ => True) (by kernel_rfl) ?_
  generalize wq9.drew = W10 at hd0 ⊢
  replace rl := rl.below hd0
  replace rr := rr.below hd0
  replace ra := ra.below hd0
  replace rb := rb.below hd0
  replace raa := raa.below hd0
  replace rbb := rbb.below hd0
  replace re := re.below hd0
  replace bel := below_on bel hd0
  clear hd0
  have hT : W10.rangeAt w.heap.size 12 LB ∧ W10.rangeAt w.heap.size 16 LD := ⟨(lad_b rl qX qA qC), (lad_d rl qX qA qC qB)⟩
  refine anyT_takeT (i := 0) (v := .pointer (some ⟨w.heap.size, 12, none⟩)) rfl (by kernel_rfl) (by kernel_rfl) (by kernel_rfl) (by kernel_rfl) (fun _ _ _ h => h) (Or.inl ⟨by rfl, fun X hSw => by ((try dsimp only at hSw); go_simp)⟩) hT (fun _ => trivial) ?_
  simp only [Act.put, List.getElem_toArray, List.getElem_cons_zero, List.setIfInBounds_toArray, List.set_cons_zero, List.set_cons_succ]
  refine anyT_takeT (i := 1) (v := .pointer (some ⟨w.heap.size, 12, none⟩)) rfl (by kernel_rfl) (by kernel_rfl) (by kernel_rfl) (by kernel_rfl) (fun _ _ _ h => h) (Or.inl ⟨by rfl, fun X hSw => by ((try dsimp only at hSw); go_simp)⟩) hT (fun _ => trivial) ?_
  simp only [Act.put, List.getElem_toArray, List.getElem_cons_zero, List.getElem_cons_succ, List.setIfInBounds_toArray, List.set_cons_zero, List.set_cons_succ]
  refine anyT_takeT (i := 2) rfl (by kernel_rfl) (by kernel_rfl) (by kernel_rfl) (by kernel_rfl) (fun _ _ _ h => h) (yieldsIf_load_mid (by rfl) _ _ rfl _ _ rfl LB _ (fun _ hw => hw.1) Try.underlying42 rfl qB.sz) hT (fun _ => trivial) ?_
  simp only [Act.put, List.getElem_toArray, List.getElem_cons_zero, List.getElem_cons_succ, List.setIfInBounds_toArray, List.set_cons_zero, List.set_cons_succ]
  refine anyT_takeT (i := 3) (v := .pointer (some ⟨w.heap.size, 12, none⟩)) rfl (by kernel_rfl) (by kernel_rfl) (by kernel_rfl) (by kernel_rfl) (fun _ _ _ h => h) (Or.inl ⟨by rfl, fun X hSw => by ((try dsimp only at hSw); go_simp)⟩) hT (fun _ => trivial) ?_
  simp only [Act.put, List.getElem_toArray, List.getElem_cons_zero, List.getElem_cons_succ, List.setIfInBounds_toArray, List.set_cons_zero, List.set_cons_succ]
  refine anyT_takeT (i := 4) (v := .pointer (some ⟨w.heap.size, 16, none⟩)) rfl (by kernel_rfl) (by kernel_rfl) (by kernel_rfl) (by kernel_rfl) (fun _ _ _ h => h) (Or.inl ⟨by rfl, fun X hSw => by ((try dsimp only at hSw); go_simp)⟩) hT (fun _ => trivial) ?_
  simp only [Act.put, List.getElem_toArray, List.getElem_cons_zero, List.getElem_cons_succ, List.setIfInBounds_toArray, List.set_cons_zero, List.set_cons_succ]
  refine anyT_takeT (i := 5) rfl (by kernel_rfl) (by kernel_rfl) (by kernel_rfl) (by kernel_rfl) (fun _ _ _ h => h) (yieldsIf_load_mid (by rfl) _ _ rfl _ _ rfl LD _ (fun _ hw => hw.2) Try.underlying42 rfl qD.sz) hT (fun _ => trivial) ?_
  simp only [Act.put, List.getElem_toArray, List.getElem_cons_zero, List.getElem_cons_succ, List.setIfInBounds_toArray, List.set_cons_zero, List.set_cons_succ]
  refine anyT_takeT (i := 7) (v := .pointer (some ⟨w.heap.size, 12, none⟩)) rfl (by kernel_rfl) (by kernel_rfl) (by kernel_rfl) (by kernel_rfl) (fun _ _ _ h => h) (Or.inl ⟨by rfl, fun X hSw => by ((try dsimp only at hSw); go_simp)⟩) hT (fun _ => trivial) ?_
  simp only [Act.put, List.getElem_toArray, List.getElem_cons_zero, List.getElem_cons_succ, List.setIfInBounds_toArray, List.set_cons_zero, List.set_cons_succ]
  refine anyT_takeT (i := 8) (v := .pointer (some ⟨w.heap.size, 12, none⟩)) rfl (by kernel_rfl) (by kernel_rfl) (by kernel_rfl) (by kernel_rfl) (fun _ _ _ h => h) (Or.inl ⟨by rfl, fun X hSw => by ((try dsimp only at hSw); go_simp)⟩) hT (fun _ => trivial) ?_
  simp only [Act.put, List.getElem_toArray, List.getElem_cons_zero, List.getElem_cons_succ, List.setIfInBounds_toArray, List.set_cons_zero, List.set_cons_succ]
  refine anyT_takeT (i := 9) rfl (by kernel_rfl) (by kernel_rfl) (by kernel_rfl) (by kernel_rfl) (fun _ _ _ h => h) (yieldsIf_load_mid (by rfl) _ _ rfl _ _ rfl LB _ (fun _ hw => hw.1) Try.underlying42 rfl qB.sz) hT (fun _ => trivial) ?_
  simp only [Act.put, List.getElem_toArray, List.getElem_cons_zero, List.getElem_cons_succ, List.setIfInBounds_toArray, List.set_cons_zero, List.set_cons_succ]
  refine anyT_takeT (i := 10) (v := .pointer (some ⟨w.heap.size, 12, none⟩)) rfl (by kernel_rfl) (by kernel_rfl) (by kernel_rfl) (by kernel_rfl) (fun _ _ _ h => h) (Or.inl ⟨by rfl, fun X hSw => by ((try dsimp only at hSw); go_simp)⟩) hT (fun _ => trivial) ?_
  simp only [Act.put, List.getElem_toArray, List.getElem_cons_zero, List.getElem_cons_succ, List.setIfInBounds_toArray, List.set_cons_zero, List.set_cons_succ]
  refine anyT_takeT (i := 11) (v := .pointer (some ⟨w.heap.size, 16, none⟩)) rfl (by kernel_rfl) (by kernel_rfl) (by kernel_rfl) (by kernel_rfl) (fun _ _ _ h => h) (Or.inl ⟨by rfl, fun X hSw => by ((try dsimp only at hSw); go_simp)⟩) hT (fun _ => trivial) ?_
  simp only [Act.put, List.getElem_toArray, List.getElem_cons_zero, List.getElem_cons_succ, List.setIfInBounds_toArray, List.set_cons_zero, List.set_cons_succ]
  refine anyT_takeT (i := 12) rfl (by kernel_rfl) (by kernel_rfl) (by kernel_rfl) (by kernel_rfl) (fun _ _ _ h => h) (yieldsIf_load_mid (by rfl) _ _ rfl _ _ rfl LD _ (fun _ hw => hw.2) Try.underlying42 rfl qD.sz) hT (fun _ => trivial) ?_
  simp only [Act.put, List.getElem_toArray, List.getElem_cons_zero, List.getElem_cons_succ, List.setIfInBounds_toArray, List.set_cons_zero, List.set_cons_succ]
  clear hT
  refine anyT_pair (c1 := 6) (c2 := 13) (b1 := 14) (b2 := 15) (d1 := 8) (d2 := 9) (e1 := 43) (e2 := 50) (ty := 42) (Z := Z) (pt := fun g => .pointer (some ⟨g, 0, none⟩)) (v1 := .agg Lc.toArray) (v2 := .agg Ld.toArray) (by kernel_rfl) (by rfl) hZ.out (fun X hX => ⟨(lad_b (rl.below hX) qX qA qC), (lad_d (rl.below hX) qX qA qC qB)⟩) ?_ ?_ ?_ ?_ ?_
  · intro u1 u2 X hX
    clear hX
    refine wpOp_step rfl (fun K hK => ?_)
    replace hK : Hid _ := hK
    simp only [frP, Act.put, List.getElem_toArray, List.getElem_cons_zero, List.getElem_cons_succ, List.setIfInBounds_toArray, List.set_cons_zero, List.set_cons_succ]
    go_simp
    refine (CP2 _).mono ?_
    rintro e w1 ⟨rfl, b1⟩
    go_wp2_with (fail)
    exact hK.out _ _ ⟨rfl, b1⟩
  · intro u1 u2 X hX
    clear hX
    refine wpOp_step rfl (fun K hK => ?_)
    replace hK : Hid _ := hK
    simp only [frP, Act.put, List.getElem_toArray, List.getElem_cons_zero, List.getElem_cons_succ, List.setIfInBounds_toArray, List.set_cons_zero, List.set_cons_succ]
    go_simp
    refine (CM3 _).mono ?_
    rintro e w1 ⟨rfl, b1⟩
    go_wp2_with (fail)
    exact hK.out _ _ ⟨rfl, b1⟩
  · intro u1 r1 r2 X
    refine wpOp_step rfl (fun K hK => ?_)
    simp only [frP, Act.put, List.getElem_toArray, List.getElem_cons_zero, List.getElem_cons_succ, List.setIfInBounds_toArray, List.set_cons_zero, List.set_cons_succ]
    go_simp
    exact hK _ _ ⟨rfl, rfl⟩
  · intro u1 r1 r2 X
    refine wpOp_step rfl (fun K hK => ?_)
    simp only [frP, Act.put, List.getElem_toArray, List.getElem_cons_zero, List.getElem_cons_succ, List.setIfInBounds_toArray, List.set_cons_zero, List.set_cons_succ]
    go_simp
    exact hK _ _ ⟨rfl, rfl⟩
  intro wx11 Gc Gd hX m1 m2 hg
  simp only [frP, Act.put, List.setIfInBounds_toArray, List.set_cons_zero, List.set_cons_succ]
  have hlow := bel.size
  have l1 := m1.lt
  have l2 := m2.lt
  have lt_rl := rl.lt
  have lt_rr := rr.lt
  have lt_ra := ra.lt
  have lt_rb := rb.lt
  have lt_raa := raa.lt
  have lt_rbb := rbb.lt
  have lt_re := re.lt
  replace rl := rl.below hX
  replace rr := rr.below hX
  replace ra := ra.below hX
  replace rb := rb.below hX
  replace raa := raa.below hX
  replace rbb := rbb.below hX
  replace re := re.below hX
  replace bel := below_on bel hX
  replace m1 := m1.rowL.low hlow
  replace m2 := m2.rowL.low hlow
  have th := m1.there (o := 0) (m := Lc.toArray.size) (by simp [qc.len])
  have pp := m1.putAll (B := Lc) (by rw [qc.len, uV_length])
  replace rl := rl.kept pp.2 (by omega)
  replace rr := rr.kept pp.2 (by omega)
  replace ra := ra.kept pp.2 (by omega)
  replace rb := rb.kept pp.2 (by omega)
  replace raa := raa.kept pp.2 (by omega)
  replace rbb := rbb.kept pp.2 (by omega)
  replace re := re.kept pp.2 (by omega)
  replace bel := bel.grown pp.2 bel.size (fun k hk => by cases hk; omega)
  replace m2 := m2.kept pp.2 (by omega)
  have rc := pp.1
  clear m1 pp
  refine anyT_one (i := 16) (by kernel_rfl) rfl (fun K hK => ?_)
  refine wp_store_mid 42 _ _ rfl Gc 0 Lc.toArray rfl rfl th qc.sz2 (all_oneCell_toArray qc.one) ?_
  (try dsimp only)
  refine hK.out _ _ ⟨(lad_b rl qX qA qC), (lad_d rl qX qA qC qB)⟩ (fun _ => trivial) ?_
  clear hK K th
  generalize wx11.setCells Gc 0 Lc = wq12 at rl rr ra rb raa rbb re rc m2 bel ⊢
  have th := m2.there (o := 0) (m := Ld.toArray.size) (by simp [qd.len])
  have pp := m2.putAll (B := Ld) (by rw [qd.len, uV_length])
  replace rl := rl.kept pp.2 (by omega)
  replace rr := rr.kept pp.2 (by omega)
  replace ra := ra.kept pp.2 (by omega)
  replace rb := rb.kept pp.2 (by omega)
  replace raa := raa.kept pp.2 (by omega)
  replace rbb := rbb.kept pp.2 (by omega)
  replace re := re.kept pp.2 (by omega)
  replace rc := rc.kept pp.2 (by omega)
  replace bel := bel.grown pp.2 bel.size (fun k hk => by cases hk; omega)
  have rd := pp.1
  clear m2 pp
  refine anyT_one (i := 17) (by kernel_rfl) rfl (fun K hK => ?_)
  refine wp_store_mid 42 _ _ rfl Gd 0 Ld.toArray rfl rfl th qd.sz2 (all_oneCell_toArray qd.one) ?_
  (try dsimp only)
  refine hK.out _ _ ⟨(lad_b rl qX qA qC), (lad_d rl qX qA qC qB)⟩ (fun _ => trivial) ?_
  clear hK K th
  refine anyT_done (by kernel_rfl) ?_ _
  refine NoPanic.normal ?_
  generalize wq12.setCells Gd 0 Ld = wq13 at rl rr ra rb raa rbb re rc rd bel ⊢
  have od : Gc ≠ Gd := hg
  have zc : w.heap.size < Gc := by omega
  have zd : w.heap.size < Gd := by omega
  clear hg hlow l1 l2 lt_rl lt_rr lt_ra lt_rb lt_raa lt_rbb lt_re
  go_wp2_with (fail)
  have hd0 : Below wq13.heap.size wq13 wq13.drew := (Below.refl _ _).drew
  refine wp_region_noPanic ?_
  refine wp_region_T 99 (fun X => X.rangeAt Gd 0 Ld ∧ X.rangeAt Ga 0 La ∧ X.rangeAt Gc 0 Lc ∧ X.rangeAt Gb 0 Lb) (fun _ => True) (by kernel_rfl) ?_
  generalize wq13.drew = W14 at hd0 ⊢
  replace rl := rl.below hd0
  replace rr := rr.below hd0
  replace ra := ra.below hd0
  replace rb := rb.below hd0
  replace raa := raa.below hd0
  replace rbb := rbb.below hd0
  replace re := re.below hd0
  replace rc := rc.below hd0
  replace rd := rd.below hd0
  replace bel := below_on bel hd0
  clear hd0
  have hT : W14.rangeAt Gd 0 Ld ∧ W14.rangeAt Ga 0 La ∧ W14.rangeAt Gc 0 Lc ∧ W14.rangeAt Gb 0 Lb := ⟨rd.all, ra.all, rc.all, rb.all⟩
  refine anyT_takeT (i := 0) rfl (by kernel_rfl) (by kernel_rfl) (by kernel_rfl) (by kernel_rfl) (fun _ _ _ h => h) (yieldsIf_load_mid (by rfl) _ _ rfl _ _ rfl Ld _ (fun _ hw => hw.1) Try.underlying42 rfl qd.sz) hT (fun _ => trivial) ?_
  simp only [Act.put, List.getElem_toArray, List.getElem_cons_zero, List.setIfInBounds_toArray]
  refine anyT_takeT (i := 1) rfl (by kernel_rfl) (by kernel_rfl) (by kernel_rfl) (by kernel_rfl) (fun _ _ _ h => h) (yieldsIf_load_mid (by rfl) _ _ rfl _ _ rfl La _ (fun _ hw => hw.2.1) Try.underlying42 rfl qa.sz) hT (fun _ => trivial) ?_
  simp only [Act.put, List.getElem_toArray, List.getElem_cons_zero, List.getElem_cons_succ, List.setIfInBounds_toArray, List.set_cons_zero, List.set_cons_succ]
  refine anyT_takeT (i := 3) rfl (by kernel_rfl) (by kernel_rfl) (by kernel_rfl) (by kernel_rfl) (fun _ _ _ h => h) (yieldsIf_load_mid (by rfl) _ _ rfl _ _ rfl Lc _ (fun _ hw => hw.2.2.1) Try.underlying42 rfl qc.sz) hT (fun _ => trivial) ?_
  simp only [Act.put, List.getElem_toArray, List.getElem_cons_zero, List.getElem_cons_succ, List.setIfInBounds_toArray, List.set_cons_zero, List.set_cons_succ]
  refine anyT_takeT (i := 4) rfl (by kernel_rfl) (by kernel_rfl) (by kernel_rfl) (by kernel_rfl) (fun _ _ _ h => h) (yieldsIf_load_mid (by rfl) _ _ rfl _ _ rfl Lb _ (fun _ hw => hw.2.2.2) Try.underlying42 rfl qb.sz) hT (fun _ => trivial) ?_
  simp only [Act.put, List.getElem_toArray, List.getElem_cons_zero, List.getElem_cons_succ, List.setIfInBounds_toArray, List.set_cons_zero, List.set_cons_succ]
  clear hT
  refine anyT_pair (c1 := 2) (c2 := 5) (b1 := 6) (b2 := 7) (d1 := 10) (d2 := 11) (e1 := 53) (e2 := 56) (ty := 42) (Z := Z) (pt := fun g => .pointer (some ⟨g, 0, none⟩)) (v1 := .agg Lda.toArray) (v2 := .agg Lcb.toArray) (by kernel_rfl) (by rfl) hZ.out (fun X hX => ⟨(rd.below hX).all, (ra.below hX).all, (rc.below hX).all, (rb.below hX).all⟩) ?_ ?_ ?_ ?_ ?_
  · intro u1 u2 X hX
    clear hX
    refine wpOp_step rfl (fun K hK => ?_)
    replace hK : Hid _ := hK
    simp only [frP, Act.put, List.getElem_toArray, List.getElem_cons_zero, List.getElem_cons_succ, List.setIfInBounds_toArray, List.set_cons_zero, List.set_cons_succ]
    go_simp
    refine (CT3 _).mono ?_
    rintro e w1 ⟨rfl, b1⟩
    go_wp2_with (fail)
    exact hK.out _ _ ⟨rfl, b1⟩
  · intro u1 u2 X hX
    clear hX
    refine wpOp_step rfl (fun K hK => ?_)
    replace hK : Hid _ := hK
    simp only [frP, Act.put, List.getElem_toArray, List.getElem_cons_zero, List.getElem_cons_succ, List.setIfInBounds_toArray, List.set_cons_zero, List.set_cons_succ]
    go_simp
    refine (CT4 _).mono ?_
    rintro e w1 ⟨rfl, b1⟩
    go_wp2_with (fail)
    exact hK.out _ _ ⟨rfl, b1⟩
  · intro u1 r1 r2 X
    refine wpOp_step rfl (fun K hK => ?_)
    simp only [frP, Act.put, List.getElem_toArray, List.getElem_cons_zero, List.getElem_cons_succ, List.setIfInBounds_toArray, List.set_cons_zero, List.set_cons_succ]
    go_simp
    exact hK _ _ ⟨rfl, rfl⟩
  · intro u1 r1 r2 X
    refine wpOp_step rfl (fun K hK => ?_)
    simp only [frP, Act.put, List.getElem_toArray, List.getElem_cons_zero, List.getElem_cons_succ, List.setIfInBounds_toArray, List.set_cons_zero, List.set_cons_succ]
    go_simp
    exact hK _ _ ⟨rfl, rfl⟩
  intro wx15 Gda Gcb hX m1 m2 hg
  simp only [frP, Act.put, List.setIfInBounds_toArray, List.set_cons_zero, List.set_cons_succ]
  have hlow := bel.size
  have l1 := m1.lt
  have l2 := m2.lt
  have lt_rl := rl.lt
  have lt_rr := rr.lt
  have lt_ra := ra.lt
  have lt_rb := rb.lt
  have lt_raa := raa.lt
  have lt_rbb := rbb.lt
  have lt_re := re.lt
  have lt_rc := rc.lt
  have lt_rd := rd.lt
  replace rl := rl.below hX
  replace rr := rr.below hX
  replace ra := ra.below hX
  replace rb := rb.below hX
  replace raa := raa.below hX
  replace rbb := rbb.below hX
  replace re := re.below hX
  replace rc := rc.below hX
  replace rd := rd.below hX
  replace bel := below_on bel hX
  replace m1 := m1.rowL.low hlow
  replace m2 := m2.rowL.low hlow
  have th := m1.there (o := 0) (m := Lda.toArray.size) (by simp [qda.len])
  have pp := m1.putAll (B := Lda) (by rw [qda.len, uV_length])
  replace rl := rl.kept pp.2 (by omega)
  replace rr := rr.kept pp.2 (by omega)
  replace ra := ra.kept pp.2 (by omega)
  replace rb := rb.kept pp.2 (by omega)
  replace raa := raa.kept pp.2 (by omega)
  replace rbb := rbb.kept pp.2 (by omega)
  replace re := re.kept pp.2 (by omega)
  replace rc := rc.kept pp.2 (by omega)
  replace rd := rd.kept pp.2 (by omega)
  replace bel := bel.grown pp.2 bel.size (fun k hk => by cases hk; omega)
  replace m2 := m2.kept pp.2 (by omega)
  have rda := pp.1
  clear m1 pp
  refine anyT_one (i := 8) (by kernel_rfl) rfl (fun K hK => ?_)
  refine wp_store_mid 42 _ _ rfl Gda 0 Lda.toArray rfl rfl th qda.sz2 (all_oneCell_toArray qda.one) ?_
  (try dsimp only)
  refine hK.out _ _ ⟨rd.all, ra.all, rc.all, rb.all⟩ (fun _ => trivial) ?_
  clear hK K th
  generalize wx15.setCells Gda 0 Lda = wq16 at rl rr ra rb raa rbb re rc rd rda m2 bel ⊢
  have th := m2.there (o := 0) (m := Lcb.toArray.size) (by simp [qcb.len])
  have pp := m2.putAll (B := Lcb) (by rw [qcb.len, uV_length])
  replace rl := rl.kept pp.2 (by omega)
  replace rr := rr.kept pp.2 (by omega)
  replace ra := ra.kept pp.2 (by omega)
  replace rb := rb.kept pp.2 (by omega)
  replace raa := raa.kept pp.2 (by omega)
  replace rbb := rbb.kept pp.2 (by omega)
  replace re := re.kept pp.2 (by omega)
  replace rc := rc.kept pp.2 (by omega)
  replace rd := rd.kept pp.2 (by omega)
  replace rda := rda.kept pp.2 (by omega)
  replace bel := bel.grown pp.2 bel.size (fun k hk => by cases hk; omega)
  have rcb := pp.1
  clear m2 pp
  refine anyT_one (i := 9) (by kernel_rfl) rfl (fun K hK => ?_)
  refine wp_store_mid 42 _ _ rfl Gcb 0 Lcb.toArray rfl rfl th qcb.sz2 (all_oneCell_toArray qcb.one) ?_
  (try dsimp only)
  refine hK.out _ _ ⟨rd.all, ra.all, rc.all, rb.all⟩ (fun _ => trivial) ?_
  clear hK K th
  refine anyT_done (by kernel_rfl) ?_ _
  refine NoPanic.normal ?_
  generalize wq16.setCells Gcb 0 Lcb = wq17 at rl rr ra rb raa rbb re rc rd rda rcb bel ⊢
  have ocb : Gda ≠ Gcb := hg
  have zda : w.heap.size < Gda := by omega
  have zcb : w.heap.size < Gcb := by omega
  clear hg hlow l1 l2 lt_rl lt_rr lt_ra lt_rb lt_raa lt_rbb lt_re lt_rc lt_rd
  clear ra rb rc rd
  go_wp2_with (fail)
  have hd0 : Below wq17.heap.size wq17 wq17.drew := (Below.refl _ _).drew
  refine wp_region_noPanic ?_
  refine wp_region_T 99 (fun X => X.rangeAt Gda 0 Lda ∧ X.rangeAt Gcb 0 Lcb) (fun _ => True) (by kernel_rfl) ?_
  generalize wq17.drew = W18 at hd0 ⊢
  replace rl := rl.below hd0
  replace rr := rr.below hd0
  replace raa := raa.below hd0
  replace rbb := rbb.below hd0
  replace re := re.below hd0
  replace rda := rda.below hd0
  replace rcb := rcb.below hd0
  replace bel := below_on bel hd0
  clear hd0
  have hT : W18.rangeAt Gda 0 Lda ∧ W18.rangeAt Gcb 0 Lcb := ⟨rda.all, rcb.all⟩
  refine anyT_takeT (i := 0) rfl (by kernel_rfl) (by kernel_rfl) (by kernel_rfl) (by kernel_rfl) (fun _ _ _ h => h) (yieldsIf_load_mid (by rfl) _ _ rfl _ _ rfl Lda _ (fun _ hw => hw.1) Try.underlying42 rfl qda.sz) hT (fun _ => trivial) ?_
  simp only [Act.put, List.getElem_toArray, List.getElem_cons_zero, List.setIfInBounds_toArray]
  refine anyT_takeT (i := 1) rfl (by kernel_rfl) (by kernel_rfl) (by kernel_rfl) (by kernel_rfl) (fun _ _ _ h => h) (yieldsIf_load_mid (by rfl) _ _ rfl _ _ rfl Lcb _ (fun _ hw => hw.2) Try.underlying42 rfl qcb.sz) hT (fun _ => trivial) ?_
  simp only [Act.put, List.getElem_toArray, List.getElem_cons_zero, List.getElem_cons_succ, List.setIfInBounds_toArray, List.set_cons_zero, List.set_cons_succ]
  refine anyT_takeT (i := 3) rfl (by kernel_rfl) (by kernel_rfl) (by kernel_rfl) (by kernel_rfl) (fun _ _ _ h => h) (yieldsIf_load_mid (by rfl) _ _ rfl _ _ rfl Lda _ (fun _ hw => hw.1) Try.underlying42 rfl qda.sz) hT (fun _ => trivial) ?_
  simp only [Act.put, List.getElem_toArray, List.getElem_cons_zero, List.getElem_cons_succ, List.setIfInBounds_toArray, List.set_cons_zero, List.set_cons_succ]
  refine anyT_takeT (i := 4) rfl (by kernel_rfl) (by kernel_rfl) (by kernel_rfl) (by kernel_rfl) (fun _ _ _ h => h) (yieldsIf_load_mid (by rfl) _ _ rfl _ _ rfl Lcb _ (fun _ hw => hw.2) Try.underlying42 rfl qcb.sz) hT (fun _ => trivial) ?_
  simp only [Act.put, List.getElem_toArray, List.getElem_cons_zero, List.getElem_cons_succ, List.setIfInBounds_toArray, List.set_cons_zero, List.set_cons_succ]
  clear hT
  refine anyT_pair (c1 := 2) (c2 := 5) (b1 := 6) (b2 := 7) (d1 := 12) (d2 := 13) (e1 := 59) (e2 := 62) (ty := 42) (Z := Z) (pt := fun g => .pointer (some ⟨g, 0, none⟩)) (v1 := .agg Lboth.toArray) (v2 := .agg Lbet.toArray) (by kernel_rfl) (by rfl) hZ.out (fun X hX => ⟨(rda.below hX).all, (rcb.below hX).all⟩) ?_ ?_ ?_ ?_ ?_
  · intro u1 u2 X hX
    clear hX
    refine wpOp_step rfl (fun K hK => ?_)
    replace hK : Hid _ := hK
    simp only [frP, Act.put, List.getElem_toArray, List.getElem_cons_zero, List.getElem_cons_succ, List.setIfInBounds_toArray, List.set_cons_zero, List.set_cons_succ]
    go_simp
    refine (CP3 _).mono ?_
    rintro e w1 ⟨rfl, b1⟩
    go_wp2_with (fail)
    exact hK.out _ _ ⟨rfl, b1⟩
  · intro u1 u2 X hX
    clear hX
    refine wpOp_step rfl (fun K hK => ?_)
    replace hK : Hid _ := hK
    simp only [frP, Act.put, List.getElem_toArray, List.getElem_cons_zero, List.getElem_cons_succ, List.setIfInBounds_toArray, List.set_cons_zero, List.set_cons_succ]
    go_simp
    refine (CM4 _).mono ?_
    rintro e w1 ⟨rfl, b1⟩
    go_wp2_with (fail)
    exact hK.out _ _ ⟨rfl, b1⟩
  · intro u1 r1 r2 X
    refine wpOp_step rfl (fun K hK => ?_)
    simp only [frP, Act.put, List.getElem_toArray, List.getElem_cons_zero, List.getElem_cons_succ, List.setIfInBounds_toArray, List.set_cons_zero, List.set_cons_succ]
    go_simp
    exact hK _ _ ⟨rfl, rfl⟩
  · intro u1 r1 r2 X
    refine wpOp_step rfl (fun K hK => ?_)
    simp only [frP, Act.put, List.getElem_toArray, List.getElem_cons_zero, List.getElem_cons_succ, List.setIfInBounds_toArray, List.set_cons_zero, List.set_cons_succ]
    go_simp
    exact hK _ _ ⟨rfl, rfl⟩
  intro wx19 Gboth Gbet hX m1 m2 hg
  simp only [frP, Act.put, List.setIfInBounds_toArray, List.set_cons_zero, List.set_cons_succ]
  have hlow := bel.size
  have l1 := m1.lt
  have l2 := m2.lt
  have lt_rl := rl.lt
  have lt_rr := rr.lt
  have lt_raa := raa.lt
  have lt_rbb := rbb.lt
  have lt_re := re.lt
  have lt_rda := rda.lt
  have lt_rcb := rcb.lt
  replace rl := rl.below hX
  replace rr := rr.below hX
  replace raa := raa.below hX
  replace rbb := rbb.below hX
  replace re := re.below hX
  replace rda := rda.below hX
  replace rcb := rcb.below hX
  replace bel := below_on bel hX
  replace m1 := m1.rowL.low hlow
  replace m2 := m2.rowL.low hlow
  have th := m1.there (o := 0) (m := Lboth.toArray.size) (by simp [qboth.len])
  have pp := m1.putAll (B := Lboth) (by rw [qboth.len, uV_length])
  replace rl := rl.kept pp.2 (by omega)
  replace rr := rr.kept pp.2 (by omega)
  replace raa := raa.kept pp.2 (by omega)
  replace rbb := rbb.kept pp.2 (by omega)
  replace re := re.kept pp.2 (by omega)
  replace rda := rda.kept pp.2 (by omega)
  replace rcb := rcb.kept pp.2 (by omega)
  replace bel := bel.grown pp.2 bel.size (fun k hk => by cases hk; omega)
  replace m2 := m2.kept pp.2 (by omega)
  have rboth := pp.1
  clear m1 pp
  refine anyT_one (i := 8) (by kernel_rfl) rfl (fun K hK => ?_)
  refine wp_store_mid 42 _ _ rfl Gboth 0 Lboth.toArray rfl rfl th qboth.sz2 (all_oneCell_toArray qboth.one) ?_
  (try dsimp only)
  refine hK.out _ _ ⟨rda.all, rcb.all⟩ (fun _ => trivial) ?_
  clear hK K th
  generalize wx19.setCells Gboth 0 Lboth = wq20 at rl rr raa rbb re rda rcb rboth m2 bel ⊢
  have th := m2.there (o := 0) (m := Lbet.toArray.size) (by simp [qbet.len])
  have pp := m2.putAll (B := Lbet) (by rw [qbet.len, uV_length])
  replace rl := rl.kept pp.2 (by omega)
  replace rr := rr.kept pp.2 (by omega)
  replace raa := raa.kept pp.2 (by omega)
  replace rbb := rbb.kept pp.2 (by omega)
  replace re := re.kept pp.2 (by omega)
  replace rda := rda.kept pp.2 (by omega)
  replace rcb := rcb.kept pp.2 (by omega)
  replace rboth := rboth.kept pp.2 (by omega)
  replace bel := bel.grown pp.2 bel.size (fun k hk => by cases hk; omega)
  have rbet := pp.1
  clear m2 pp
  refine anyT_one (i := 9) (by kernel_rfl) rfl (fun K hK => ?_)
  refine wp_store_mid 42 _ _ rfl Gbet 0 Lbet.toArray rfl rfl th qbet.sz2 (all_oneCell_toArray qbet.one) ?_
  (try dsimp only)
  refine hK.out _ _ ⟨rda.all, rcb.all⟩ (fun _ => trivial) ?_
  clear hK K th
  refine anyT_done (by kernel_rfl) ?_ _
  refine NoPanic.normal ?_
  generalize wq20.setCells Gbet 0 Lbet = wq21 at rl rr raa rbb re rda rcb rboth rbet bel ⊢
  have obet : Gboth ≠ Gbet := hg
  have zboth : w.heap.size < Gboth := by omega
  have zbet : w.heap.size < Gbet := by omega
  clear hg hlow l1 l2 lt_rl lt_rr lt_raa lt_rbb lt_re lt_rda lt_rcb
  clear rda rcb
  go_wp2_with (fail)
  have hd0 : Below wq21.heap.size wq21 wq21.drew := (Below.refl _ _).drew
  refine wp_region_noPanic ?_
  refine wp_region_T 99 (fun X => X.rangeAt Gboth 0 Lboth ∧ X.rangeAt w.heap.size 0 LX ∧ X.rangeAt Gbet 0 Lbet) (fun _ => True) (by kernel_rfl) ?_
  generalize wq21.drew = W22 at hd0 ⊢
  replace rl := rl.below hd0
  replace rr := rr.below hd0
  replace raa := raa.below hd0
  replace rbb := rbb.below hd0
  replace re := re.below hd0
  replace rboth := rboth.below hd0
  replace rbet := rbet.below hd0
  replace bel := below_on bel hd0
  clear hd0
  have hT : W22.rangeAt Gboth 0 Lboth ∧ W22.rangeAt w.heap.size 0 LX ∧ W22.rangeAt Gbet 0 Lbet := ⟨rboth.all, (lad_x rl ), rbet.all⟩
  refine anyT_takeT (i := 0) rfl (by kernel_rfl) (by kernel_rfl) (by kernel_rfl) (by kernel_rfl) (fun _ _ _ h => h) (yieldsIf_load_mid (by rfl) _ _ rfl _ _ rfl Lboth _ (fun _ hw => hw.1) Try.underlying42 rfl qboth.sz) hT (fun _ => trivial) ?_
  simp only [Act.put, List.getElem_toArray, List.getElem_cons_zero, List.setIfInBounds_toArray]
  refine anyT_takeT (i := 1) rfl (by kernel_rfl) (by kernel_rfl) (by kernel_rfl) (by kernel_rfl) (fun _ _ _ h => h) (yieldsIf_load_mid (by rfl) _ _ rfl _ _ rfl Lboth _ (fun _ hw => hw.1) Try.underlying42 rfl qboth.sz) hT (fun _ => trivial) ?_
  simp only [Act.put, List.getElem_toArray, List.getElem_cons_zero, List.getElem_cons_succ, List.setIfInBounds_toArray, List.set_cons_zero, List.set_cons_succ]
  refine anyT_takeT (i := 3) (v := .pointer (some ⟨w.heap.size, 0, none⟩)) rfl (by kernel_rfl) (by kernel_rfl) (by kernel_rfl) (by kernel_rfl) (fun _ _ _ h => h) (Or.inl ⟨by rfl, fun X hSw => by ((try dsimp only at hSw); go_simp)⟩) hT (fun _ => trivial) ?_
  simp only [Act.put, List.getElem_toArray, List.getElem_cons_zero, List.getElem_cons_succ, List.setIfInBounds_toArray, List.set_cons_zero, List.set_cons_succ]
  refine anyT_takeT (i := 4) rfl (by kernel_rfl) (by kernel_rfl) (by kernel_rfl) (by kernel_rfl) (fun _ _ _ h => h) (yieldsIf_load_mid (by rfl) _ _ rfl _ _ rfl LX _ (fun _ hw => hw.2.1) Try.underlying42 rfl qX.sz) hT (fun _ => trivial) ?_
  simp only [Act.put, List.getElem_toArray, List.getElem_cons_zero, List.getElem_cons_succ, List.setIfInBounds_toArray, List.set_cons_zero, List.set_cons_succ]
  refine anyT_takeT (i := 5) rfl (by kernel_rfl) (by kernel_rfl) (by kernel_rfl) (by kernel_rfl) (fun _ _ _ h => h) (yieldsIf_load_mid (by rfl) _ _ rfl _ _ rfl Lbet _ (fun _ hw => hw.2.2) Try.underlying42 rfl qbet.sz) hT (fun _ => trivial) ?_
  simp only [Act.put, List.getElem_toArray, List.getElem_cons_zero, List.getElem_cons_succ, List.setIfInBounds_toArray, List.set_cons_zero, List.set_cons_succ]
  refine anyT_takeT (i := 6) rfl (by kernel_rfl) (by kernel_rfl) (by kernel_rfl) (by kernel_rfl) (fun _ _ _ h => h) (yieldsIf_load_mid (by rfl) _ _ rfl _ _ rfl Lbet _ (fun _ hw => hw.2.2) Try.underlying42 rfl qbet.sz) hT (fun _ => trivial) ?_
  simp only [Act.put, List.getElem_toArray, List.getElem_cons_zero, List.getElem_cons_succ, List.setIfInBounds_toArray, List.set_cons_zero, List.set_cons_succ]
  refine anyT_one (i := 2) (by kernel_rfl) rfl (fun K hK => ?_)
  go_simp
  refine (CT5 _).mono ?_
  rintro e wc23 ⟨rfl, bc⟩
  clear hT
  replace rl := rl.below bc
  replace rr := rr.below bc
  replace raa := raa.below bc
  replace rbb := rbb.below bc
  replace re := re.below bc
  replace rboth := rboth.below bc
  replace rbet := rbet.below bc
  replace bel := below_on bel bc
  have hT := (show wc23.rangeAt Gboth 0 Lboth ∧ wc23.rangeAt w.heap.size 0 LX ∧ wc23.rangeAt Gbet 0 Lbet from ⟨rboth.all, (lad_x rl ), rbet.all⟩)
  go_wp2_with (fail)
  refine hK.out _ _ hT (fun _ => trivial) ?_
  clear hK K bc
  refine anyT_one (i := 7) (by kernel_rfl) rfl (fun K hK => ?_)
  go_simp
  refine (CT6 _).mono ?_
  rintro e wc24 ⟨rfl, bc⟩
  clear hT
  replace rl := rl.below bc
  replace rr := rr.below bc
  replace raa := raa.below bc
  replace rbb := rbb.below bc
  replace re := re.below bc
  replace rboth := rboth.below bc
  replace rbet := rbet.below bc
  replace bel := below_on bel bc
  have hT := (show wc24.rangeAt Gboth 0 Lboth ∧ wc24.rangeAt w.heap.size 0 LX ∧ wc24.rangeAt Gbet 0 Lbet from ⟨rboth.all, (lad_x rl ), rbet.all⟩)
  go_wp2_with (fail)
  refine hK.out _ _ hT (fun _ => trivial) ?_
  clear hK K bc
  refine anyT_one (i := 8) (by kernel_rfl) rfl (fun K hK => ?_)
  go_simp
  refine (CT7 _).mono ?_
  rintro e wc25 ⟨rfl, bc⟩
  clear hT
  replace rl := rl.below bc
  replace rr := rr.below bc
  replace raa := raa.below bc
  replace rbb := rbb.below bc
  replace re := re.below bc
  replace rboth := rboth.below bc
  replace rbet := rbet.below bc
  replace bel := below_on bel bc
  have hT := (show wc25.rangeAt Gboth 0 Lboth ∧ wc25.rangeAt w.heap.size 0 LX ∧ wc25.rangeAt Gbet 0 Lbet from ⟨rboth.all, (lad_x rl ), rbet.all⟩)
  go_wp2_with (fail)
  refine hK.out _ _ hT (fun _ => trivial) ?_
  clear hK K bc
  refine anyT_takeT (i := 9) rfl (by kernel_rfl) (by kernel_rfl) (by kernel_rfl) (by kernel_rfl) (fun _ _ _ h => h) (yieldsIf_build (by rfl) 60 #[(0, .tmp 65), (1, .tmp 71)] rfl #[(0, .agg LnB.toArray), (1, .agg LnD.toArray)] (by simp [Act.eval]) (fun X => b_rat qnB qnD X)) hT (fun _ => trivial) ?_
  simp only [Act.put, List.getElem_toArray, List.getElem_cons_zero, List.getElem_cons_succ, List.setIfInBounds_toArray, List.set_cons_zero, List.set_cons_succ]
  refine anyT_takeT (i := 10) (v := .pointer (some ⟨w.heap.size, 12, none⟩)) rfl (by kernel_rfl) (by kernel_rfl) (by kernel_rfl) (by kernel_rfl) (fun _ _ _ h => h) (Or.inl ⟨by rfl, fun X hSw => by ((try dsimp only at hSw); go_simp)⟩) hT (fun _ => trivial) ?_
  simp only [Act.put, List.getElem_toArray, List.getElem_cons_zero, List.getElem_cons_succ, List.setIfInBounds_toArray, List.set_cons_zero, List.set_cons_succ]
  clear hT
  have th := rl.there (o := 12) (m := (LnB ++ LnD).toArray.size) (by simp [qnB.len, qnD.len])
  have pp := lad_put_bd rl qX qA qC qB qD qnB qnD
  have lt_rl := rl.lt
  have lt_rr := rr.lt
  have lt_raa := raa.lt
  have lt_rbb := rbb.lt
  have lt_re := re.lt
  have lt_rboth := rboth.lt
  have lt_rbet := rbet.lt
  replace rr := rr.kept pp.2 (by omega)
  replace raa := raa.kept pp.2 (by omega)
  replace rbb := rbb.kept pp.2 (by omega)
  replace re := re.kept pp.2 (by omega)
  replace rboth := rboth.kept pp.2 (by omega)
  replace rbet := rbet.kept pp.2 (by omega)
  replace bel := bel.grown pp.2 bel.size (fun k hk => by cases hk; omega)
  clear rl
  have rl := pp.1
  clear pp lt_rl lt_rr lt_raa lt_rbb lt_re lt_rboth lt_rbet
  refine anyT_one (i := 11) (by kernel_rfl) rfl (fun K hK => ?_)
  refine wp_store_mid 60 _ _ rfl w.heap.size 12 (LnB ++ LnD).toArray rfl rfl th (szRat2 (rat_length qnB qnD)) (all_oneCell_toArray (rat_one qnB qnD)) ?_
  (try dsimp only)
  refine hK.out _ _ ⟨rboth.all, (lad_x rl ), rbet.all⟩ (fun _ => trivial) ?_
  clear hK K th
  refine anyT_done (by kernel_rfl) ?_ _
  refine NoPanic.normal ?_
  generalize wc25.setCells w.heap.size 12 (LnB ++ LnD) = wq26 at rl rr raa rbb re rboth rbet bel ⊢
  clear rboth rbet
  go_wp2_with (fail)
  have hd0 : Below wq26.heap.size wq26 wq26.drew := (Below.refl _ _).drew
  refine wp_region_noPanic ?_
  refine wp_region_T 99 (fun X => X.rangeAt Gaa 0 Laa ∧ X.rangeAt Gbb 0 Lbb ∧ X.rangeAt Ge 0 Le) (fun _ => True) (by kernel_rfl) ?_
  generalize wq26.drew = W27 at hd0 ⊢
  replace rl := rl.below hd0
  replace rr := rr.below hd0
  replace raa := raa.below hd0
  replace rbb := rbb.below hd0
  replace re := re.below hd0
  replace bel := below_on bel hd0
  clear hd0
  have hT : W27.rangeAt Gaa 0 Laa ∧ W27.rangeAt Gbb 0 Lbb ∧ W27.rangeAt Ge 0 Le := ⟨raa.all, rbb.all, re.all⟩
  refine anyT_takeT (i := 0) rfl (by kernel_rfl) (by kernel_rfl) (by kernel_rfl) (by kernel_rfl) (fun _ _ _ h => h) (yieldsIf_load_mid (by rfl) _ _ rfl _ _ rfl Laa _ (fun _ hw => hw.1) Try.underlying42 rfl qaa.sz) hT (fun _ => trivial) ?_
  simp only [Act.put, List.getElem_toArray, List.getElem_cons_zero, List.setIfInBounds_toArray]
  refine anyT_takeT (i := 1) rfl (by kernel_rfl) (by kernel_rfl) (by kernel_rfl) (by kernel_rfl) (fun _ _ _ h => h) (yieldsIf_load_mid (by rfl) _ _ rfl _ _ rfl Lbb _ (fun _ hw => hw.2.1) Try.underlying42 rfl qbb.sz) hT (fun _ => trivial) ?_
  simp only [Act.put, List.getElem_toArray, List.getElem_cons_zero, List.getElem_cons_succ, List.setIfInBounds_toArray, List.set_cons_zero, List.set_cons_succ]
  refine anyT_takeT (i := 3) rfl (by kernel_rfl) (by kernel_rfl) (by kernel_rfl) (by kernel_rfl) (fun _ _ _ h => h) (yieldsIf_load_mid (by rfl) _ _ rfl _ _ rfl Le _ (fun _ hw => hw.2.2) Try.underlying42 rfl qe.sz) hT (fun _ => trivial) ?_
  simp only [Act.put, List.getElem_toArray, List.getElem_cons_zero, List.getElem_cons_succ, List.setIfInBounds_toArray, List.set_cons_zero, List.set_cons_succ]
  refine anyT_takeT (i := 4) rfl (by kernel_rfl) (by kernel_rfl) (by kernel_rfl) (by kernel_rfl) (fun _ _ _ h => h) (yieldsIf_load_mid (by rfl) _ _ rfl _ _ rfl Laa _ (fun _ hw => hw.1) Try.underlying42 rfl qaa.sz) hT (fun _ => trivial) ?_
  simp only [Act.put, List.getElem_toArray, List.getElem_cons_zero, List.getElem_cons_succ, List.setIfInBounds_toArray, List.set_cons_zero, List.set_cons_succ]
  refine anyT_takeT (i := 5) rfl (by kernel_rfl) (by kernel_rfl) (by kernel_rfl) (by kernel_rfl) (fun _ _ _ h => h) (yieldsIf_load_mid (by rfl) _ _ rfl _ _ rfl Le _ (fun _ hw => hw.2.2) Try.underlying42 rfl qe.sz) hT (fun _ => trivial) ?_
  simp only [Act.put, List.getElem_toArray, List.getElem_cons_zero, List.getElem_cons_succ, List.setIfInBounds_toArray, List.set_cons_zero, List.set_cons_succ]
  refine anyT_takeT (i := 6) rfl (by kernel_rfl) (by kernel_rfl) (by kernel_rfl) (by kernel_rfl) (fun _ _ _ h => h) (yieldsIf_build (by rfl) 42 #[(0, .const (.int .u64 121665))] rfl #[(0, .int .u64 121665)] (by simp [Act.eval]) (fun X => BK X)) hT (fun _ => trivial) ?_
  simp only [Act.put, List.getElem_toArray, List.getElem_cons_zero, List.getElem_cons_succ, List.setIfInBounds_toArray, List.set_cons_zero, List.set_cons_succ]
  refine anyT_one (i := 2) (by kernel_rfl) rfl (fun K hK => ?_)
  go_simp
  refine (CT8 _).mono ?_
  rintro e wc28 ⟨rfl, bc⟩
  clear hT
  replace rl := rl.below bc
  replace rr := rr.below bc
  replace raa := raa.below bc
  replace rbb := rbb.below bc
  replace re := re.below bc
  replace bel := below_on bel bc
  have hT := (show wc28.rangeAt Gaa 0 Laa ∧ wc28.rangeAt Gbb 0 Lbb ∧ wc28.rangeAt Ge 0 Le from ⟨raa.all, rbb.all, re.all⟩)
  go_wp2_with (fail)
  refine hK.out _ _ hT (fun _ => trivial) ?_
  clear hK K bc
  refine anyT_one (i := 7) (by kernel_rfl) rfl (fun K hK => ?_)
  go_simp
  refine (CT9 _).mono ?_
  rintro e wc29 ⟨rfl, bc⟩
  clear hT
  replace rl := rl.below bc
  replace rr := rr.below bc
  replace raa := raa.below bc
  replace rbb := rbb.below bc
  replace re := re.below bc
  replace bel := below_on bel bc
  have hT := (show wc29.rangeAt Gaa 0 Laa ∧ wc29.rangeAt Gbb 0 Lbb ∧ wc29.rangeAt Ge 0 Le from ⟨raa.all, rbb.all, re.all⟩)
  go_wp2_with (fail)
  refine hK.out _ _ hT (fun _ => trivial) ?_
  clear hK K bc
  refine anyT_one (i := 8) (by kernel_rfl) rfl (fun K hK => ?_)
  go_simp
  refine (CP4 _).mono ?_
  rintro e wc30 ⟨rfl, bc⟩
  clear hT
  replace rl := rl.below bc
  replace rr := rr.below bc
  replace raa := raa.below bc
  replace rbb := rbb.below bc
  replace re := re.below bc
  replace bel := below_on bel bc
  have hT := (show wc30.rangeAt Gaa 0 Laa ∧ wc30.rangeAt Gbb 0 Lbb ∧ wc30.rangeAt Ge 0 Le from ⟨raa.all, rbb.all, re.all⟩)
  go_wp2_with (fail)
  refine hK.out _ _ hT (fun _ => trivial) ?_
  clear hK K bc
  refine anyT_one (i := 9) (by kernel_rfl) rfl (fun K hK => ?_)
  go_simp
  refine (CT10 _).mono ?_
  rintro e wc31 ⟨rfl, bc⟩
  clear hT
  replace rl := rl.below bc
  replace rr := rr.below bc
  replace raa := raa.below bc
  replace rbb := rbb.below bc
  replace re := re.below bc
  replace bel := below_on bel bc
  have hT := (show wc31.rangeAt Gaa 0 Laa ∧ wc31.rangeAt Gbb 0 Lbb ∧ wc31.rangeAt Ge 0 Le from ⟨raa.all, rbb.all, re.all⟩)
  go_wp2_with (fail)
  refine hK.out _ _ hT (fun _ => trivial) ?_
  clear hK K bc
  refine anyT_takeT (i := 10) rfl (by kernel_rfl) (by kernel_rfl) (by kernel_rfl) (by kernel_rfl) (fun _ _ _ h => h) (yieldsIf_build (by rfl) 60 #[(0, .tmp 76), (1, .tmp 83)] rfl #[(0, .agg LnA.toArray), (1, .agg LnC.toArray)] (by simp [Act.eval]) (fun X => b_rat qnA qnC X)) hT (fun _ => trivial) ?_
  simp only [Act.put, List.getElem_toArray, List.getElem_cons_zero, List.getElem_cons_succ, List.setIfInBounds_toArray, List.set_cons_zero, List.set_cons_succ]
  refine anyT_takeT (i := 11) (v := .pointer (some ⟨w.heap.size, 4, none⟩)) rfl (by kernel_rfl) (by kernel_rfl) (by kernel_rfl) (by kernel_rfl) (fun _ _ _ h => h) (Or.inl ⟨by rfl, fun X hSw => by ((try dsimp only at hSw); go_simp)⟩) hT (fun _ => trivial) ?_
  simp only [Act.put, List.getElem_toArray, List.getElem_cons_zero, List.getElem_cons_succ, List.setIfInBounds_toArray, List.set_cons_zero, List.set_cons_succ]
  clear hT
  have th := rl.there (o := 4) (m := (LnA ++ LnC).toArray.size) (by simp [qnA.len, qnC.len])
  have pp := lad_put_ac rl qX qA qC qnA qnC
  have lt_rl := rl.lt
  have lt_rr := rr.lt
  have lt_raa := raa.lt
  have lt_rbb := rbb.lt
  have lt_re := re.lt
  replace rr := rr.kept pp.2 (by omega)
  replace raa := raa.kept pp.2 (by omega)
  replace rbb := rbb.kept pp.2 (by omega)
  replace re := re.kept pp.2 (by omega)
  replace bel := bel.grown pp.2 bel.size (fun k hk => by cases hk; omega)
  clear rl
  have rl := pp.1
  clear pp lt_rl lt_rr lt_raa lt_rbb lt_re
  refine anyT_one (i := 12) (by kernel_rfl) rfl (fun K hK => ?_)
  refine wp_store_mid 60 _ _ rfl w.heap.size 4 (LnA ++ LnC).toArray rfl rfl th (szRat2 (rat_length qnA qnC)) (all_oneCell_toArray (rat_one qnA qnC)) ?_
  (try dsimp only)
  refine hK.out _ _ ⟨raa.all, rbb.all, re.all⟩ (fun _ => trivial) ?_
  clear hK K th
  refine anyT_done (by kernel_rfl) ?_ _
  refine NoPanic.normal ?_
  generalize wc31.setCells w.heap.size 4 (LnA ++ LnC) = wq32 at rl rr raa rbb re bel ⊢
  have hlen := LadV_length qX qnA qnC qnB qnD
  have hone := LadV_one qX qnA qnC qnB qnD
  rw [← hR.out] at rl hlen hone
  have q3 := rl.all
  have t3 := rr.there (o := 0) (m := LR.toArray.size) (by simp [hlen])
  have p3 := rr.putAll (B := LR) (by rw [hlen, uV_length])
  replace bel := bel.grown p3.2 bel.size (fun k hk => by cases hk; omega)
  have hld := run_loadVar_mid (P := Try.prog) _ _ 0 62 _ _ p3.1.all Try.underlying62 rfl (szLad hlen)
  have z3 := szLad hlen
  have z4 := szLad2 hlen
  clear rl rr p3 hR raa rbb re
  go_wp2_with (first | (with_reducible refine wpList_load_mid rfl 62 _ rfl w.heap.size 0 rfl LR _ q3 Try.underlying62 rfl z3 ?_) | (with_reducible refine wpList_store_mid rfl 62 _ _ rfl Gr 0 LR.toArray rfl rfl t3 z4 (all_oneCell_toArray hone) ?_; (try dsimp only)))
  (try simp only [Exit.inBlock, Exit.then])
  refine bodyPost_ret (v := .agg LR.toArray) ?_ rfl ⟨rfl, bel⟩
  simp [results, asAddr, Act.put, hld]

end Go.Proofs.Ytghoibggmddkmac

namespace Go.Proofs.Ytghoibggmddkmac
open Go.RowKit

def numV (z : Int) : List Value := uV (numU z) 4
theorem numV_q4 (z : Int) : Q4 (numV z) := q4 z
def ladC (x : Int) (s : Lad) : List Value := LadV (numV x) (numV s.a) (numV s.c) (numV s.b) (numV s.d)
theorem ladC_length (x : Int) (s : Lad) : (ladC x s).length = 20 := LadV_length (q4 _) (q4 _) (q4 _) (q4 _) (q4 _)
theorem ladC_one (x : Int) (s : Lad) : ∀ v ∈ ladC x s, v.oneCell' = true := LadV_one (q4 _) (q4 _) (q4 _) (q4 _) (q4 _)
def modL (s : Lad) : Lad := ⟨s.a % fldP, s.b % fldP, s.c % fldP, s.d % fldP⟩
def inP (x : Int) : Prop := 0 ≤ x ∧ x < fldP
theorem inP_mod (x : Int) : inP (x % fldP) := modP_range x
theorem inP.b4 {x : Int} (h : inP x) : 0 ≤ x ∧ x < bU ^ 4 := by have := b4U; have := h.1; have := h.2; have := fldP_pos; omega
def inL (s : Lad) : Prop := inP s.a ∧ inP s.b ∧ inP s.c ∧ inP s.d
theorem inL_mod (s : Lad) : inL (modL s) := ⟨inP_mod _, inP_mod _, inP_mod _, inP_mod _⟩
theorem inL.ladIf {s : Lad} (h : inL s) (t : Bool) : inL (ladIf t s) := by
  cases t
  · exact h
  · exact ⟨h.2.1, h.1, h.2.2.2, h.2.2.1⟩
theorem modL_like (s : Lad) : likeL (modL s) s := ⟨likeP_mod _, likeP_mod _, likeP_mod _, likeP_mod _⟩
theorem likeL.modL {s t : Lad} (h : likeL s t) : modL s = modL t := by
  unfold Go.Proofs.Ytghoibggmddkmac.modL
  rw [h.1.mod, h.2.1.mod, h.2.2.1.mod, h.2.2.2.mod]

theorem ladderAt_any (x : Int) (w : World) : Calls Try.prog 63 #[.agg (numV x).toArray] w fun e w' => e = .returned (.agg (ladC x ⟨1, x, 0, 1⟩).toArray) ∧ Below w.heap.size w w' :=
  ladderAt_sym (numV x) (numV 1) (numV 0) w (q4 _) rfl rfl

theorem changed_any (x : Int) (s : Lad) (t : Bool) (w : World) : Calls Try.prog 79 #[.agg (ladC x s).toArray, .bool t] w fun e w' => e = .returned (.agg (ladC x (ladIf t s)).toArray) ∧ Below w.heap.size w w' := by
  cases t
  · exact changed_false _ _ _ _ _ w (q4 _) (q4 _) (q4 _) (q4 _) (q4 _)
  · exact changed_true _ _ _ _ _ w (q4 _) (q4 _) (q4 _) (q4 _) (q4 _)

theorem cplus {x y : Int} (hx : inP x) (hy : inP y) (X : World) : Calls Try.prog 45 #[.agg (numV x).toArray, .agg (numV y).toArray] X fun e w' => e = .returned (.agg (numV ((x + y) % fldP)).toArray) ∧ Below X.heap.size X w' :=
  plus_any x y X hx.1 hy.1 (by have := b4U; have := hx.2; have := hy.2; omega)
theorem cminus {x y : Int} (hx : inP x) (hy : inP y) (X : World) : Calls Try.prog 46 #[.agg (numV x).toArray, .agg (numV y).toArray] X fun e w' => e = .returned (.agg (numV ((x - y) % fldP)).toArray) ∧ Below X.heap.size X w' :=
  minus_any x y X hx.1 hx.2 hy.1 hy.2
theorem ctimes {x y : Int} (hx : inP x) (hy : inP y) (X : World) : Calls Try.prog 44 #[.agg (numV x).toArray, .agg (numV y).toArray] X fun e w' => e = .returned (.agg (numV (x * y % fldP)).toArray) ∧ Below X.heap.size X w' :=
  times_any x y X hx.b4.1 hx.b4.2 hy.b4.1 hy.b4.2

theorem step_any (x : Int) (s : Lad) (w : World) (hx : inP x) (hs : inL s) : Calls Try.prog 80 #[.agg (ladC x s).toArray] w fun e w' => e = .returned (.agg (ladC x (modL (ladStep x s))).toArray) ∧ Below w.heap.size w w' := by
  obtain ⟨a, ha⟩ : ∃ a, a = (s.a + s.c) % fldP := ⟨_, rfl⟩
  obtain ⟨b, hb⟩ : ∃ a, a = (s.a - s.c) % fldP := ⟨_, rfl⟩
  obtain ⟨c, hc⟩ : ∃ a, a = (s.b + s.d) % fldP := ⟨_, rfl⟩
  obtain ⟨d, hd⟩ : ∃ a, a = (s.b - s.d) % fldP := ⟨_, rfl⟩
  have la : likeP a (s.a + s.c) := by rw [ha]; exact likeP_mod _
  have lb : likeP b (s.a - s.c) := by rw [hb]; exact likeP_mod _
  have lc : likeP c (s.b + s.d) := by rw [hc]; exact likeP_mod _
  have ld : likeP d (s.b - s.d) := by rw [hd]; exact likeP_mod _
  have ia : inP a := by rw [ha]; exact inP_mod _
  have ib : inP b := by rw [hb]; exact inP_mod _
  have ic : inP c := by rw [hc]; exact inP_mod _
  have id' : inP d := by rw [hd]; exact inP_mod _
  have laa : likeP (a * a % fldP) (ladEE s) := (likeP_mod _).trans (la.mul la)
  have lbb : likeP (b * b % fldP) (ladFF s) := (likeP_mod _).trans (lb.mul lb)
  have lda : likeP (d * a % fldP) (ladHE s) := (likeP_mod _).trans (ld.mul la)
  have lcb : likeP (c * b % fldP) (ladGF s) := (likeP_mod _).trans (lc.mul lb)
  have le : likeP ((a * a % fldP - b * b % fldP) % fldP) (ladEE s - ladFF s) := (likeP_mod _).trans (laa.sub lbb)
  have lbo : likeP ((d * a % fldP + c * b % fldP) % fldP) (ladHE s + ladGF s) := (likeP_mod _).trans (lda.add lcb)
  have lbe : likeP ((d * a % fldP - c * b % fldP) % fldP) (ladHE s - ladGF s) := (likeP_mod _).trans (lda.sub lcb)
  have h := step_sym (numV x) (numV s.a) (numV s.c) (numV s.b) (numV s.d) (numV 121665) (numV a) (numV b) (numV (a * a % fldP)) (numV (b * b % fldP)) (numV ((a * a % fldP - b * b % fldP) % fldP)) (numV c) (numV d) (numV (d * a % fldP)) (numV (c * b % fldP))
    (numV ((d * a % fldP + c * b % fldP) % fldP)) (numV ((d * a % fldP - c * b % fldP) % fldP))
    (numV ((d * a % fldP + c * b % fldP) % fldP * ((d * a % fldP + c * b % fldP) % fldP) % fldP)) (numV ((d * a % fldP - c * b % fldP) % fldP * ((d * a % fldP - c * b % fldP) % fldP) % fldP))
    (numV (x * ((d * a % fldP - c * b % fldP) % fldP * ((d * a % fldP - c * b % fldP) % fldP) % fldP) % fldP))
    (numV (a * a % fldP * (b * b % fldP) % fldP)) (numV ((a * a % fldP - b * b % fldP) % fldP * 121665 % fldP)) (numV ((a * a % fldP + (a * a % fldP - b * b % fldP) % fldP * 121665 % fldP) % fldP))
    (numV ((a * a % fldP - b * b % fldP) % fldP * ((a * a % fldP + (a * a % fldP - b * b % fldP) % fldP * 121665 % fldP) % fldP) % fldP))
    w rfl (q4 _) (q4 _) (q4 _) (q4 _) (q4 _) (q4 _) (q4 _) (q4 _) (q4 _) (q4 _) (q4 _) (q4 _) (q4 _) (q4 _) (q4 _) (q4 _) (q4 _) (q4 _) (q4 _) (q4 _)
    (by have h := cplus hs.1 hs.2.2.1; rw [← ha] at h; exact h) (by have h := cminus hs.1 hs.2.2.1; rw [← hb] at h; exact h) (ctimes ia ia) (ctimes ib ib) (cminus (inP_mod _) (inP_mod _))
    (by have h := cplus hs.2.1 hs.2.2.2; rw [← hc] at h; exact h) (by have h := cminus hs.2.1 hs.2.2.2; rw [← hd] at h; exact h) (ctimes id' ia) (ctimes ic ib) (cplus (inP_mod _) (inP_mod _)) (cminus (inP_mod _) (inP_mod _))
    (ctimes (inP_mod _) (inP_mod _)) (ctimes (inP_mod _) (inP_mod _)) (ctimes hx (inP_mod _))
    (ctimes (inP_mod _) (inP_mod _)) (ctimes (inP_mod _) ⟨by decide, by decide⟩) (cplus (inP_mod _) (inP_mod _)) (ctimes (inP_mod _) (inP_mod _))
  have eA : a * a % fldP * (b * b % fldP) % fldP = (ladStep x s).a % fldP := (laa.mul lbb).mod
  have eB : (d * a % fldP + c * b % fldP) % fldP * ((d * a % fldP + c * b % fldP) % fldP) % fldP = (ladStep x s).b % fldP := (lbo.mul lbo).mod
  have eD : x * ((d * a % fldP - c * b % fldP) % fldP * ((d * a % fldP - c * b % fldP) % fldP) % fldP) % fldP = (ladStep x s).d % fldP := (((likeP_mod _).trans (lbe.mul lbe)).mulL x).mod
  have eC : (a * a % fldP - b * b % fldP) % fldP * ((a * a % fldP + (a * a % fldP - b * b % fldP) % fldP * 121665 % fldP) % fldP) % fldP = (ladStep x s).c % fldP :=
    (le.mul ((likeP_mod _).trans (laa.add ((likeP_mod _).trans (le.mulR _))))).mod
  rw [eA, eB, eC, eD] at h
  exact h

end Go.Proofs.Ytghoibggmddkmac
