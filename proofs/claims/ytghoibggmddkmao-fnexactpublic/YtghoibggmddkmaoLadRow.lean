/-
  The program's ladder as one row of twenty words of 64 bits: its parts, read and written. Conditions: each law's own.
-/
import Derived.Test.YtghoibggmddkmaoRegionP
import Derived.Test.YtghoibggmddkmaoFieldF
import Derived.Test.YtghoibggmddkmaoLadMath
namespace Go.Proofs.Ytghoibggmddkmao
open Go.RowKit

/-- Four words, each of one cell. -/
structure Q4 (L : List Value) : Prop where
  len : L.length = 4
  one : ∀ v ∈ L, v.oneCell' = true
theorem q4 (z : Int) : Q4 (uV (numU z) 4) := ⟨uV_length _ _, uV_one _ _⟩
theorem Q4.sz {L : List Value} (h : Q4 L) : (Try.prog.info? 38).map (·.size) = some L.length := by rw [h.len]; exact (zero_of_info infoU4).2
theorem Q4.sz2 {L : List Value} (h : Q4 L) : (Try.prog.info? 38).map (·.size) = some L.toArray.size := by
  have : L.toArray.size = 4 := by simp [h.len]
  rw [this]; exact (zero_of_info infoU4).2
def RowL (ty n : Nat) (w : World) (lo g : Nat) (L : List Value) : Prop := w.ownsRow lo ty 1 (.slice (some ⟨g, 0, none⟩) n n) n L
def putV (xs : List Value) (o : Nat) : List Value → List Value
  | [] => xs
  | v :: r => putV (xs.set o v) (o + 1) r
theorem ownsV_put {lo e g n c : Nat} (vs : List Value) : ∀ (o : Nat) (w : World) (xs : List Value), w.ownsRow lo e 1 (.slice (some ⟨g, 0, none⟩) n c) n xs →
    (w.setCells g o vs).ownsRow lo e 1 (.slice (some ⟨g, 0, none⟩) n c) n (putV xs o vs) ∧ w.grownBy (w.setCells g o vs) (some g) := by
  induction vs with
  | nil => intro o w xs h; exact ⟨h, World.grownBy.refl _ _⟩
  | cons v r ih =>
    intro o w xs h
    have h1 := h.stored o v
    have h2 := ih (o + 1) _ _ h1.1
    exact ⟨h2.1, grown_trans h1.2 h2.2⟩
theorem putV_mid (A B C : List Value) : ∀ (B' : List Value), B'.length = B.length → putV (A ++ (B ++ C)) A.length B' = A ++ (B' ++ C) := by
  intro B'
  induction B' generalizing A B with
  | nil =>
    intro h
    obtain rfl : B = [] := List.eq_nil_of_length_eq_zero h.symm
    rfl
  | cons v r ih =>
    intro h
    cases B with
    | nil => simp at h
    | cons b B =>
      have := ih (A ++ [v]) B (by simpa using h)
      simp only [putV]
      rw [List.set_append_right _ _ (Nat.le_refl _), Nat.sub_self]
      simpa using this
section
variable {ty n : Nat} {w w' : World} {lo g : Nat} {L : List Value}
theorem RowL.lt (h : RowL ty n w lo g L) : lo ≤ g ∧ g < w.heap.size := World.ownsRow.lt h g rfl
theorem RowL.below (h : RowL ty n w lo g L) (hb : Below w.heap.size w w') : RowL ty n w' lo g L := owns_below h hb
theorem RowL.drew (h : RowL ty n w lo g L) : RowL ty n w.drew lo g L := h.below (Below.refl _ _).drew
theorem RowL.kept {r : Nat} (h : RowL ty n w lo g L) (hg : w.grownBy w' (some r)) (hne : g ≠ r) : RowL ty n w' lo g L := World.ownsRow.kept h hg (.inr (by simp [Value.ownBlock]; exact fun e => hne e))
theorem RowL.length (h : RowL ty n w lo g L) : L.length = n := by simpa using (show w.ownsRow lo ty 1 (.slice (some ⟨g, 0, none⟩) n n) n L from h).1
theorem RowL.mid {A B C : List Value} {o : Nat} (h : RowL ty n w lo g (A ++ (B ++ C))) (ho : A.length = o) : w.rangeAt g o B := by
  intro j v hv
  have hj : j < B.length := (List.getElem?_eq_some_iff.1 hv).1
  have hl := h.length
  have e : (A ++ (B ++ C))[o + j]? = some v := by
    rw [List.getElem?_append_right (by omega), show o + j - A.length = j by omega, List.getElem?_append_left hj, hv]
  have h' : w.ownsRow lo ty 1 (.slice (some ⟨g, 0, none⟩) n n) n (A ++ (B ++ C)) := h
  rw [h'.cellAt (o + j) (by have := (List.getElem?_eq_some_iff.1 e).1; omega), e]
theorem RowL.all (h : RowL ty n w lo g L) : w.rangeAt g 0 L := by
  have h' : RowL ty n w lo g ([] ++ (L ++ [])) := by simpa using h
  exact h'.mid rfl
theorem RowL.there (h : RowL ty n w lo g L) {o m : Nat} (hm : o + m ≤ n) : w.there g o m := by
  intro j hj
  have hl := h.length
  have h' : w.ownsRow lo ty 1 (.slice (some ⟨g, 0, none⟩) n n) n L := h
  rw [h'.cellAt (o + j) (by omega), List.getElem?_eq_getElem (by omega)]
  exact ⟨rfl, World.ownsRow.frozenAt h (o + j)⟩
theorem RowL.putMid {A B B' C : List Value} {o : Nat} (h : RowL ty n w lo g (A ++ (B ++ C))) (ho : A.length = o) (hB : B'.length = B.length) :
    RowL ty n (w.setCells g o B') lo g (A ++ (B' ++ C)) ∧ w.grownBy (w.setCells g o B') (some g) := by
  have k := ownsV_put B' o w _ h
  rw [← ho, putV_mid A B C B' hB, ho] at k
  exact k
theorem RowL.putAll {B : List Value} (h : RowL ty n w lo g L) (hB : B.length = L.length) : RowL ty n (w.setCells g 0 B) lo g B ∧ w.grownBy (w.setCells g 0 B) (some g) := by
  have h' : RowL ty n w lo g ([] ++ (L ++ [])) := by simpa using h
  simpa using h'.putMid (B' := B) rfl hB
theorem RowL.made (w : World) (ty n lo : Nat) (hL : L.length = n) (hn : n ≤ 1000) (hlo : lo ≤ w.heap.size) : RowL ty n (w.alloc (.cells L.toArray ty)) lo w.heap.size L := by
  refine ⟨by simp [hL], .inr ⟨w.heap.size, n, _, rfl, hlo, heap_alloc_new w _, Nat.le_refl _, by unfold maxLen; omega, by simp [hL], ?_⟩⟩
  rw [List.take_of_length_le (by simp [hL])]
end
theorem RowU.rowL {ty n : Nat} {w : World} {lo g : Nat} {f : Nat → Int} (h : RowU ty n w lo g f) : RowL ty n w lo g (uV f n) := h

/-- A ladder: x1, and two points, each as x and z. -/
def LadV (X A C B D : List Value) : List Value := X ++ (A ++ (C ++ (B ++ D)))
theorem LadV_length {X A C B D : List Value} (hX : Q4 X) (hA : Q4 A) (hC : Q4 C) (hB : Q4 B) (hD : Q4 D) : (LadV X A C B D).length = 20 := by
  simp [LadV, hX.len, hA.len, hC.len, hB.len, hD.len]
theorem LadV_one {X A C B D : List Value} (hX : Q4 X) (hA : Q4 A) (hC : Q4 C) (hB : Q4 B) (hD : Q4 D) : ∀ v ∈ LadV X A C B D, v.oneCell' = true := by
  intro v hv
  simp only [LadV, List.mem_append] at hv
  rcases hv with h | h | h | h | h
  · exact hX.one v h
  · exact hA.one v h
  · exact hC.one v h
  · exact hB.one v h
  · exact hD.one v h

theorem infoLad : (Try.prog.info? 44).map (fun i => (i.zero, i.size)) = some (some (.agg (uV (fun _ => 0) 20).toArray), 20) := by kernel_rfl

theorem infoRat : (Try.prog.info? 42).map (fun i => (i.zero, i.size)) = some (some (.agg (uV (fun _ => 0) 8).toArray), 8) := by kernel_rfl

section
variable {w : World} {lo g : Nat} {X A C B D : List Value}
theorem lad_x (h : RowL 44 20 w lo g (LadV X A C B D)) : w.rangeAt g 0 X := RowL.mid (A := []) (B := X) (C := A ++ (C ++ (B ++ D))) (o := 0) h rfl
theorem lad_a (h : RowL 44 20 w lo g (LadV X A C B D)) (hX : Q4 X) : w.rangeAt g 4 A := RowL.mid (A := X) (B := A) (C := C ++ (B ++ D)) h hX.len
theorem lad_c (h : RowL 44 20 w lo g (LadV X A C B D)) (hX : Q4 X) (hA : Q4 A) : w.rangeAt g 8 C := by
  have h' : RowL 44 20 w lo g ((X ++ A) ++ (C ++ (B ++ D))) := by rw [List.append_assoc]; exact h
  exact h'.mid (by simp [hX.len, hA.len])
theorem lad_b (h : RowL 44 20 w lo g (LadV X A C B D)) (hX : Q4 X) (hA : Q4 A) (hC : Q4 C) : w.rangeAt g 12 B := by
  have h' : RowL 44 20 w lo g ((X ++ (A ++ C)) ++ (B ++ D)) := by rw [List.append_assoc, List.append_assoc]; exact h
  exact h'.mid (by simp [hX.len, hA.len, hC.len])
theorem lad_d (h : RowL 44 20 w lo g (LadV X A C B D)) (hX : Q4 X) (hA : Q4 A) (hC : Q4 C) (hB : Q4 B) : w.rangeAt g 16 D := by
  have h' : RowL 44 20 w lo g ((X ++ (A ++ (C ++ B))) ++ (D ++ [])) := by rw [List.append_nil, List.append_assoc, List.append_assoc, List.append_assoc]; exact h
  exact h'.mid (by simp [hX.len, hA.len, hC.len, hB.len])
theorem lad_ac (h : RowL 44 20 w lo g (LadV X A C B D)) (hX : Q4 X) : w.rangeAt g 4 (A ++ C) := by
  have h' : RowL 44 20 w lo g (X ++ ((A ++ C) ++ (B ++ D))) := by rw [List.append_assoc]; exact h
  exact h'.mid hX.len
theorem lad_bd (h : RowL 44 20 w lo g (LadV X A C B D)) (hX : Q4 X) (hA : Q4 A) (hC : Q4 C) : w.rangeAt g 12 (B ++ D) := by
  have h' : RowL 44 20 w lo g ((X ++ (A ++ C)) ++ ((B ++ D) ++ [])) := by rw [List.append_nil, List.append_assoc, List.append_assoc]; exact h
  exact h'.mid (by simp [hX.len, hA.len, hC.len])
theorem lad_put_ac {A' C' : List Value} (h : RowL 44 20 w lo g (LadV X A C B D)) (hX : Q4 X) (hA : Q4 A) (hC : Q4 C) (hA' : Q4 A') (hC' : Q4 C') :
    RowL 44 20 (w.setCells g 4 (A' ++ C')) lo g (LadV X A' C' B D) ∧ w.grownBy (w.setCells g 4 (A' ++ C')) (some g) := by
  have h' : RowL 44 20 w lo g (X ++ ((A ++ C) ++ (B ++ D))) := by rw [List.append_assoc]; exact h
  have k := h'.putMid (B' := A' ++ C') hX.len (by simp [hA.len, hC.len, hA'.len, hC'.len])
  rw [List.append_assoc] at k
  exact k
theorem lad_put_bd {B' D' : List Value} (h : RowL 44 20 w lo g (LadV X A C B D)) (hX : Q4 X) (hA : Q4 A) (hC : Q4 C) (hB : Q4 B) (hD : Q4 D) (hB' : Q4 B') (hD' : Q4 D') :
    RowL 44 20 (w.setCells g 12 (B' ++ D')) lo g (LadV X A C B' D') ∧ w.grownBy (w.setCells g 12 (B' ++ D')) (some g) := by
  have h' : RowL 44 20 w lo g ((X ++ (A ++ C)) ++ ((B ++ D) ++ [])) := by rw [List.append_nil, List.append_assoc, List.append_assoc]; exact h
  have k := h'.putMid (o := 12) (B' := B' ++ D') (by simp [hX.len, hA.len, hC.len]) (by simp [hB.len, hD.len, hB'.len, hD'.len])
  rw [List.append_nil, List.append_assoc, List.append_assoc] at k
  exact k
end
theorem szLad {L : List Value} (h : L.length = 20) : (Try.prog.info? 44).map (·.size) = some L.length := by rw [h]; exact (zero_of_info infoLad).2
theorem szLad2 {L : List Value} (h : L.length = 20) : (Try.prog.info? 44).map (·.size) = some L.toArray.size := by
  have : L.toArray.size = 20 := by simp [h]
  rw [this]; exact (zero_of_info infoLad).2
theorem szRat {L : List Value} (h : L.length = 8) : (Try.prog.info? 42).map (·.size) = some L.length := by rw [h]; exact (zero_of_info infoRat).2
theorem szRat2 {L : List Value} (h : L.length = 8) : (Try.prog.info? 42).map (·.size) = some L.toArray.size := by
  have : L.toArray.size = 8 := by simp [h]
  rw [this]; exact (zero_of_info infoRat).2
theorem rat_length {A C : List Value} (hA : Q4 A) (hC : Q4 C) : (A ++ C).length = 8 := by simp [hA.len, hC.len]
theorem rat_one {A C : List Value} (hA : Q4 A) (hC : Q4 C) : ∀ v ∈ A ++ C, v.oneCell' = true := by
  intro v hv
  rcases List.mem_append.1 hv with h | h
  · exact hA.one v h
  · exact hC.one v h
/-- A ladder's row, and behind it one of noughts for the result. -/
theorem ladRows (w : World) {L : List Value} (hL : L.length = 20) {ty n : Nat} {A Z : Array Value} (hn : n ≤ 1000) (hA : A = L.toArray) (hZ : Z = (uV (fun _ => 0) n).toArray) :
    RowL 44 20 ((w.alloc (.cells A 44)).alloc (.cells Z ty)) w.heap.size w.heap.size L ∧ RowL ty n ((w.alloc (.cells A 44)).alloc (.cells Z ty)) w.heap.size (w.heap.size + 1) (uV (fun _ => 0) n) ∧ Below w.heap.size w ((w.alloc (.cells A 44)).alloc (.cells Z ty)) ∧ ((w.alloc (.cells A 44)).alloc (.cells Z ty)).heap.size = w.heap.size + 1 + 1 := by
  subst hA hZ
  have m0 := RowL.made (L := L) w 44 20 w.heap.size hL (by decide) (Nat.le_refl _)
  obtain ⟨wa, hwa⟩ : ∃ wa, wa = w.alloc (.cells L.toArray 44) := ⟨_, rfl⟩
  rw [← hwa] at m0 ⊢
  have sa : wa.heap.size = w.heap.size + 1 := by rw [hwa]; simp
  have ba : Below w.heap.size w wa := by rw [hwa]; exact (Below.refl _ _).alloc (Nat.le_refl _) _
  have m1 := RowL.made (L := uV (fun _ => 0) n) wa ty n w.heap.size (uV_length _ _) hn (by omega)
  have b1 : Below wa.heap.size wa (wa.alloc (.cells (uV (fun _ => 0) n).toArray ty)) := (Below.refl _ _).alloc (Nat.le_refl _) _
  rw [sa] at m1
  exact ⟨m0.below b1, m1, below_on ba b1, by simp [sa]⟩

end Go.Proofs.Ytghoibggmddkmao
