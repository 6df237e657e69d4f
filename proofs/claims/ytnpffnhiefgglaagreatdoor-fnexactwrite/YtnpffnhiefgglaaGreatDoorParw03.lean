/-
  A part of the proof.
-/
import Derived.Test.YtnpffnhiefgglaaGreatDoorParw02
import Derived.RunT
namespace Go.Proofs.YtnpffnhiefgglaaGreatDoor
open Go
set_option maxRecDepth 100000
theorem frozen_of {w : World} {b i : Nat} {c : Array Value} {e : TypeId} {lo hi : Nat} (h : w.heap[b]? = some (.cells c e (lo, hi))) (s : Option Nat) : w.frozen? ⟨b, i, s⟩ = (decide (lo ≤ i) && decide (i < hi)) := by
  simp [World.frozen?, h]
theorem cell_of {w : World} {b i : Nat} {c : Array Value} {e : TypeId} {fz : Nat × Nat} (h : w.heap[b]? = some (.cells c e fz)) (s : Option Nat) : w.cell? ⟨b, i, s⟩ = if s.isSome then none else c[i]? := by
  simp [World.cell?, h]
theorem noCell_of {w : World} {ρ : Ren} {l : Nat} {o o' : Obj} {a : Addr} (h : w.heap[a.block]? = some o) (ho : RelO ρ l o o') (m : String) : w.noCell a m = .stuck m := by
  cases ho <;> simp [World.noCell, h]
theorem RelW.cell {L : Nat} {Sh : Nat → Prop} {ρ : Ren} {w w' : World} (h : RelW L Sh ρ w w') {a a' : Addr} (ha : RelA ρ a a') : (∀ v, w.cell? a = some v → ∃ v', w'.cell? a' = some v' ∧ RelV ρ v v') ∧ (w.cell? a = none → ∀ p m, (∃ x, w.farLoad p a m = .error x ∧ tame x = true) ∧ ∀ v, ∃ x, w.farStore p a v m = .error x ∧ tame x = true) := by
  obtain ⟨o, o', h1, h2, ho⟩ := h.obj _ _ ha.1
  obtain ⟨b, i, s⟩ := a
  obtain ⟨b', i', s'⟩ := a'
  obtain ⟨hb, rfl, rfl, _, hlo⟩ := ha
  simp only at h1 h2 hlo
  have ho' := ho
  cases ho with
  | number l _ hn =>
    refine ⟨fun v hv => ?_, fun _ p m => ⟨⟨_, by simp only [World.farLoad, h1]; rfl, by rw [noCell_of h1 ho']; rfl⟩, fun v => ⟨_, by simp only [World.farStore, h1]; rfl, by rw [noCell_of h1 ho']; rfl⟩⟩⟩
    simp [World.cell?, h1] at hv
  | @part c c' e' hi fz hl hh hr =>
    refine ⟨fun v hv => ?_, fun _ p m => ⟨⟨_, by simp only [World.farLoad, h1]; rfl, by rw [noCell_of h1 ho']; rfl⟩, fun v => ⟨_, by simp only [World.farStore, h1]; rfl, by rw [noCell_of h1 ho']; rfl⟩⟩⟩
    rw [cell_of h1] at hv
    rw [cell_of h2]
    split at hv
    · cases hv
    · rename_i hs
      rw [if_neg hs]
      exact hr i' v hlo hv
  | @cells c c' e lo hi lo' hi' _ hr hf =>
    refine ⟨fun v hv => ?_, fun _ p m => ⟨⟨_, by simp only [World.farLoad, h1]; rfl, by rw [noCell_of h1 ho']; rfl⟩, fun v => ⟨_, by simp only [World.farStore, h1]; rfl, by rw [noCell_of h1 ho']; rfl⟩⟩⟩
    rw [cell_of h1] at hv
    rw [cell_of h2]
    split at hv
    · cases hv
    · rename_i hs
      rw [if_neg hs]
      have hi : i' < c.size := by
        rcases Nat.lt_or_ge i' c.size with hlt | hge
        · exact hlt
        · rw [Array.getElem?_eq_none hge] at hv; cases hv
      have hi2 : i' < c'.size := by rw [← hr.1]; exact hi
      exact ⟨c'[i'], Array.getElem?_eq_getElem hi2, hr.2 i' v _ hv (Array.getElem?_eq_getElem hi2)⟩
theorem RelW.frozen {L : Nat} {Sh : Nat → Prop} {ρ : Ren} {w w' : World} (h : RelW L Sh ρ w w') {a a' : Addr} (ha : RelA ρ a a') (hc : ∃ v0, w.cell? a = some v0) (hf : w.frozen? a = false) : w'.frozen? a' = false ∧ ¬ Sh a.block := by
  obtain ⟨o, o', h1, h2, ho⟩ := h.obj _ _ ha.1
  obtain ⟨b, i, s⟩ := a
  obtain ⟨b', i', s'⟩ := a'
  have hsh := fun hs : Sh b => h.shared b b' hs ha.1
  obtain ⟨hb, rfl, rfl, _⟩ := ha
  simp only at h1 h2
  cases ho with
  | @part c c' e' hi fz hl hh hr =>
    exfalso
    rw [frozen_of h1] at hf
    obtain ⟨v0, hv0⟩ := hc
    rw [cell_of h1] at hv0
    split at hv0
    · cases hv0
    · have hlt : i' < c.size := by
        rcases Nat.lt_or_ge i' c.size with hlt | hge
        · exact hlt
        · rw [Array.getElem?_eq_none hge] at hv0; cases hv0
      simp at hf
      omega
  | number l _ hn =>
    refine ⟨by simp [World.frozen?, h2], fun hs => ?_⟩
    obtain ⟨c, e, hi, hx, _⟩ := hsh hs
    rw [h1] at hx
    cases hx
  | @cells c c' e lo hi lo' hi' _ hr hfz =>
    rw [frozen_of h1] at hf
    refine ⟨?_, fun hs => ?_⟩
    · rw [frozen_of h2]
      cases hx : (decide (lo' ≤ i') && decide (i' < hi')) with
      | false => rfl
      | true =>
        simp only [Bool.and_eq_true, decide_eq_true_eq] at hx
        have := hfz i' hx.1 hx.2
        simp [this.1, this.2] at hf
    · obtain ⟨c1, e1, hi1, hx, hle⟩ := hsh hs
      rw [h1] at hx
      cases hx
      obtain ⟨v0, hv0⟩ := hc
      rw [cell_of h1] at hv0
      split at hv0
      · cases hv0
      · have hlt : i' < c.size := by
          rcases Nat.lt_or_ge i' c.size with hlt | hge
          · exact hlt
          · rw [Array.getElem?_eq_none hge] at hv0; cases hv0
        simp at hf
        omega
theorem heap_setCell (w : World) (a : Addr) (v : Value) (b : Nat) : (w.setCell a v).heap[b]? = if a.block = b then (w.heap[b]?).map (fun o => match o with | .cells c elem frozen => .cells (if a.spot.isSome then c else c.setIfInBounds a.off v) elem frozen | o => o) else w.heap[b]? := by
  simp only [World.setCell, Array.getElem?_modify]
  split
  · cases w.heap[b]? with
    | none => rfl
    | some o => cases o <;> rfl
  · rfl
theorem RelR.set {ρ : Ren} {c c' : Array Value} (h : RelR ρ c c') (i : Nat) {v v' : Value} (hv : RelV ρ v v') : RelR ρ (c.setIfInBounds i v) (c'.setIfInBounds i v') := by
  refine ⟨by simpa using h.1, fun j x x' h1 h2 => ?_⟩
  rw [Array.getElem?_setIfInBounds] at h1 h2
  by_cases e : i = j
  · subst e
    by_cases hs : i < c.size
    · have hs' : i < c'.size := by rw [← h.1]; exact hs
      simp [hs] at h1
      simp [hs'] at h2
      subst h1 h2
      exact hv
    · simp [hs] at h1
  · simp only [e, if_false] at h1 h2
    exact h.2 j x x' h1 h2
theorem RelW.store {L : Nat} {Sh : Nat → Prop} {ρ : Ren} {w w' : World} (h : RelW L Sh ρ w w') {a a' : Addr} (ha : RelA ρ a a') {v v' : Value} (hv : RelV ρ v v') (hc : ∃ v0, w.cell? a = some v0) (hfz : w.frozen? a = false) : RelW L Sh ρ (w.setCell a v) (w'.setCell a' v') ∧ Frm Sh ρ ρ w (w.setCell a v) w' (w'.setCell a' v') := by
  have hnsh := (h.frozen ha hc hfz).2
  have e2 : a'.off = a.off := ha.2.1
  have e3 : a'.spot = a.spot := ha.2.2.1
  refine ⟨⟨fun b b' hb => ?_, h.fn, h.inj, fun b hb => h.low0 b (by simpa [World.setCell] using hb), h.tape, fun b b' hs hb => ?_⟩, ⟨.refl _, fun _ _ k => .inl k, by simp [World.setCell], by simp [World.setCell], by simp [World.setCell]; omega, ⟨Nat.le_refl _, Nat.add_comm _ _⟩, fun b' h1 h2 => absurd h2 (by simp [World.setCell]; omega), fun b' hb hno => ?_, rfl, rfl, rfl, rfl, fun b b' hs hb => ?_⟩⟩
  · obtain ⟨o, o', h1, h2, ho⟩ := h.obj b b' hb
    rw [heap_setCell, heap_setCell, h1, h2]
    by_cases hab : a.block = b
    · have hab' : a'.block = b' := h.fn b _ _ (hab ▸ ha.1) hb
      rw [if_pos hab, if_pos hab']
      cases ho with
      | number l hl hn => exact ⟨_, _, rfl, rfl, .number l hl hn⟩
      | @part c c' e' hi fz hl hh hr =>
        exfalso
        obtain ⟨b0, i0, s0⟩ := a
        simp only at hab
        subst hab
        rw [frozen_of h1] at hfz
        obtain ⟨v0, hv0⟩ := hc
        rw [cell_of h1] at hv0
        split at hv0
        · cases hv0
        · have hlt : i0 < c.size := by
            rcases Nat.lt_or_ge i0 c.size with hlt | hge
            · exact hlt
            · rw [Array.getElem?_eq_none hge] at hv0; cases hv0
          simp at hfz
          omega
      | cells e hl hr hf =>
        refine ⟨_, _, rfl, rfl, .cells e hl ?_ hf⟩
        rw [e3, e2]
        split
        · exact hr
        · exact hr.set _ hv
    · have hab' : a'.block ≠ b' := fun e => (h.inj _ _ b' (e ▸ ha.1) hb).elim hab fun x => hnsh x.1
      rw [if_neg hab, if_neg hab']
      exact ⟨o, o', rfl, rfl, ho⟩
  · obtain ⟨c, e, hi, h1, hle⟩ := h.shared b b' hs hb
    rw [heap_setCell, h1]
    by_cases hab : a.block = b
    · rw [if_pos hab]
      exact ⟨_, e, hi, rfl, by split <;> simpa using hle⟩
    · rw [if_neg hab]
      exact ⟨c, e, hi, rfl, hle⟩
  · rw [heap_setCell, if_neg]
    intro e
    exact hno a.block (e ▸ ha.1)
  · rw [heap_setCell, if_neg]
    intro e
    rcases h.inj a.block b b' (e ▸ ha.1) hb with x | x
    · exact hnsh (by rw [x]; exact hs)
    · exact hnsh x.1
def renNew (ρ : Ren) (n n' : Nat) : Ren := ⟨fun b b' => ρ b b' ∨ (b = n ∧ b' = n'), ρ.G, ρ.A, ρ.lo, ρ.glo, ρ.Bg, ρ.D⟩
theorem RelW.new {L : Nat} {Sh : Nat → Prop} {ρ : Ren} {w w' : World} (h : RelW L Sh ρ w w') (hSh : ∀ b, Sh b → b < w.heap.size) {o o' : Obj} (ho : RelO ρ 0 o o') :
    RelW L Sh (renNew ρ w.heap.size w'.heap.size) { w with heap := w.heap.push o } { w' with heap := w'.heap.push o' } ∧ Frm Sh ρ (renNew ρ w.heap.size w'.heap.size) w { w with heap := w.heap.push o } w' { w' with heap := w'.heap.push o' } := by
  have hle : ρ.le (renNew ρ w.heap.size w'.heap.size) := ⟨rfl, rfl, fun _ _ k => .inl k, rfl, rfl, rfl⟩
  refine ⟨⟨fun b b' hb => ?_, fun b b' c' h1 h2 => ?_, fun b c b' h1 h2 => ?_, fun b hb => h.low0 b (by simp at hb; omega), h.tape, fun b b' hs hb => ?_⟩, ⟨hle, fun b b' k => ?_, by simp, by simp, by simp; omega, ⟨Nat.le_refl _, Nat.add_comm _ _⟩, fun b' h1 h2 => ?_, fun b' hb _ => ?_, rfl, rfl, rfl, rfl, fun b b' hs hb => ?_⟩⟩
  · rcases hb with hb | ⟨rfl, rfl⟩
    · obtain ⟨x, x', h1, h2, hx⟩ := h.obj b b' hb
      have l := h.lt hb
      exact ⟨x, x', by simp [Array.getElem?_push, Nat.ne_of_lt l.1, h1], by simp [Array.getElem?_push, Nat.ne_of_lt l.2, h2], hx.mono hle⟩
    · refine ⟨o, o', by simp, by simp, ?_⟩
      have e0 : (renNew ρ w.heap.size w'.heap.size).lo w.heap.size = 0 := h.low0 _ (Nat.le_refl _)
      rw [e0]
      exact ho.mono hle
  · rcases h1 with h1 | ⟨rfl, rfl⟩
    · rcases h2 with h2 | ⟨rfl, rfl⟩
      · exact h.fn _ _ _ h1 h2
      · exact absurd (h.lt h1).1 (Nat.lt_irrefl _)
    · rcases h2 with h2 | ⟨_, rfl⟩
      · exact absurd (h.lt h2).1 (Nat.lt_irrefl _)
      · rfl
  · rcases h1 with h1 | ⟨rfl, rfl⟩
    · rcases h2 with h2 | ⟨rfl, rfl⟩
      · exact h.inj _ _ _ h1 h2
      · exact absurd (h.lt h1).2 (Nat.lt_irrefl _)
    · rcases h2 with h2 | ⟨rfl, _⟩
      · exact absurd (h.lt h2).2 (Nat.lt_irrefl _)
      · exact .inl rfl
  · rcases hb with hb | ⟨rfl, rfl⟩
    · have l := h.lt hb
      obtain ⟨c, e, hi, hx, hle⟩ := h.shared b b' hs hb
      exact ⟨c, e, hi, by simpa [Array.getElem?_push, Nat.ne_of_lt l.1] using hx, hle⟩
    · exact absurd (hSh _ hs) (Nat.lt_irrefl _)
  · rcases k with k | ⟨rfl, rfl⟩
    · exact .inl k
    · exact .inr ⟨0, rfl, rfl⟩
  · simp at h2
    exact ⟨w.heap.size, .inr ⟨rfl, by omega⟩⟩
  · simp [Array.getElem?_push, Nat.ne_of_lt hb]
  · simp [Array.getElem?_push, Nat.ne_of_lt (h.lt hb).2]
theorem RelW.shapes {L : Nat} {Sh : Nat → Prop} {ρ : Ren} {w w' : World} (h : RelW L Sh ρ w w') {r r' : Nat} (hr : ρ r r') : ShapeR ρ (ρ.lo r) (w.shape? r) (w'.shape? r') := by
  obtain ⟨o, o', h1, h2, ho⟩ := h.obj _ _ hr
  cases ho with
  | number l hl hn => exact .inl ⟨hl, by simp [World.shape?, h1, h2]⟩
  | cells e hl hc hf => exact .inl ⟨hl, by simp [World.shape?, h1, h2, hc.1]⟩
  | part hl hh hc => exact .inr ⟨hl, _, _, _, by simp only [World.shape?, h1]; rfl, by simp only [World.shape?, h2]; rfl⟩
theorem RelW.drew {L : Nat} {Sh : Nat → Prop} {ρ : Ren} {w w' : World} (h : RelW L Sh ρ w w') : RelW L Sh ρ { w with drawn := w.drawn + 1 } { w' with drawn := w'.drawn + 1 } ∧ Frm Sh ρ ρ w { w with drawn := w.drawn + 1 } w' { w' with drawn := w'.drawn + 1 } := by
  refine ⟨⟨h.obj, h.fn, h.inj, h.low0, fun i q hi => ?_, h.shared⟩, ⟨.refl _, fun _ _ k => .inl k, Nat.le_refl _, Nat.le_refl _, Nat.add_comm _ _, ⟨by show w.drawn ≤ w.drawn + 1; omega, by show w.drawn + 1 + w'.drawn = w'.drawn + 1 + w.drawn; omega⟩, fun b' h1 h2 => absurd h2 (by show ¬ b' < w'.heap.size; omega), fun _ _ _ => rfl, rfl, rfl, rfl, rfl, fun _ _ _ _ => rfl⟩⟩
  have := h.tape (1 + i) q (by have : w.drawn + 1 + i < L := hi; omega)
  simpa [Nat.add_assoc] using this
theorem SimS.grows {α β : Type} {Q : Ren → α → β → Prop} {L : Nat} {Sh : Nat → Prop} {p p' : Program} [Kin p p'] {ρ : Ren} {s : Sem α} {s' : Sem β} (h : SimS p p' Q ρ s s') : ∀ {w w' w1 : World} {es es1 : Array Event} {a : α}, RelW L Sh ρ w w' → (∀ b, Sh b → b < w.heap.size) → ρ.G ≤ w.heap.size → s.runT p w es = (.ok a w1, es1) → w.drawn ≤ w1.drawn := by
  induction h with
  | dead h =>
    intro w w' w1 es es1 a hw hsh hG hr
    exact absurd (by rw [← Sem.runT_fst p _ w es, hr]) (h.1 w a w1)
  | pure h =>
    intro w w' w1 es es1 a hw hsh hG hr
    simp only [Sem.runT, Prod.mk.injEq, Result.ok.injEq] at hr
    obtain ⟨⟨rfl, rfl⟩, rfl⟩ := hr
    exact Nat.le_refl _
  | load ha h ih =>
    intro w w' w1 es es1 x hw hsh hG hr
    have hc := hw.cell ha
    simp only [Sem.runT] at hr
    split at hr
    · rename_i v hv
      obtain ⟨v', hv', hrel⟩ := hc.1 v hv
      exact ih v v' hrel hw hsh hG hr
    · rename_i hn
      obtain ⟨y, hy, _⟩ := (hc.2 hn p (Mode.plain == .atomic)).1
      rw [hy] at hr
      cases hr
  | @store ρ a a' v v' k k' ha hv h ih =>
    intro w w' w1 es es1 x hw hsh hG hr
    have hc := hw.cell ha
    have hst := fun hx hy => hw.store ha hv hx hy
    cases v <;> simp only [Sem.runT] at hr
    all_goals first
      | (cases hr; done)
      | (split at hr
         · rename_i v0 hv0
           split at hr
           · cases hr
           · rename_i hfz
             have q := ih (hst ⟨v0, hv0⟩ (by simpa using hfz)).1 (fun b hb => by simpa [World.setCell] using hsh b hb) (by simpa [World.setCell] using hG) hr
             exact q
         · rename_i hn
           obtain ⟨y, hy, _⟩ := (hc.2 hn p (Mode.plain == .atomic)).2 _
           rw [hy] at hr
           cases hr)
  | @new ρ o o' k k' ho h ih =>
    intro w w' w1 es es1 x hw hsh hG hr
    have hn := hw.new hsh ho
    have q := ih _ w.heap.size w'.heap.size hn.2.le (.inr ⟨rfl, rfl⟩) hG (hw.low0 _ (Nat.le_refl _)) hn.1 (fun b hb => by have := hsh b hb; simp; omega) (by show ρ.G ≤ _; simp; omega) hr
    exact q
  | shape hr' h ih => intro w w' w1 es es1 x hw hsh hG hr; exact ih _ _ (hw.shapes hr') hw hsh hG hr
  | @getObj ρ r r' k k' hr' h ih =>
    intro w w' w1 es es1 x hw hsh hG hr
    obtain ⟨o, o', h1, h2, ho⟩ := hw.obj _ _ hr'
    cases ho with
    | cells e _ hc hf =>
      simp only [Sem.runT, h1] at hr
      cases hr
    | part hl hh hc =>
      simp only [Sem.runT, h1] at hr
      cases hr
    | @number a a' l _ hn =>
      simp only [Sem.runT, h1] at hr
      exact ih a a' l hn hw hsh hG hr
  | choose q h ih =>
    intro w w' w1 es es1 x hw hsh hG hr
    simp only [Sem.runT] at hr
    by_cases hq : q.forced = true
    · rw [if_pos hq] at hr
      exact ih _ hw hsh hG hr
    · rw [if_neg hq] at hr
      have := ih _ hw.drew.1 hsh hG hr
      exact Nat.le_trans (Nat.le_succ _) this
  | program h ih => intro w w' w1 es es1 x hw hsh hG hr; exact ih hw hsh hG hr
  | room h ih => intro w w' w1 es es1 x hw hsh hG hr; exact ih hw hsh hG hr
theorem SimS.runs {α β : Type} {Q : Ren → α → β → Prop} {L : Nat} {Sh : Nat → Prop} {p p' : Program} [Kin p p'] {ρ : Ren} {s : Sem α} {s' : Sem β} (h : SimS p p' Q ρ s s') : ∀ {w w' w1 : World} {es es1 : Array Event} {a : α} (es' : Array Event), RelW L Sh ρ w w' → (∀ b, Sh b → b < w.heap.size) → ρ.G ≤ w.heap.size → s.runT p w es = (.ok a w1, es1) → w1.drawn ≤ L →
    ∃ ρ1 b w1' more, s'.runT p' w' es' = (.ok b w1', es' ++ more) ∧ Q ρ1 a b ∧ RelW L Sh ρ1 w1 w1' ∧ Frm Sh ρ ρ1 w w1 w' w1' ∧ ∀ e ∈ more, EvR Sh ρ1 e := by
  induction h with
  | dead h =>
    intro w w' w1 es es1 a es' hw hsh hG hr hL
    exact absurd (by rw [← Sem.runT_fst p _ w es, hr]) (h.1 w a w1)
  | pure h =>
    intro w w' w1 es es1 a es' hw hsh hG hr hL
    simp only [Sem.runT, Prod.mk.injEq, Result.ok.injEq] at hr
    obtain ⟨⟨rfl, rfl⟩, rfl⟩ := hr
    exact ⟨_, _, w', #[], by simp [Sem.runT], h, hw, .refl _ _ _, by simp⟩
  | @load ρ a a' k k' ha h ih =>
    intro w w' w1 es es1 x es' hw hsh hG hr hL
    have hc := hw.cell ha
    simp only [Sem.runT] at hr
    split at hr
    · rename_i v hv
      obtain ⟨v', hv', hrel⟩ := hc.1 v hv
      obtain ⟨ρ1, b, w1', more, h1, h2, h3, h4, h5⟩ := ih v v' hrel (es'.push ⟨.cell a', false, false⟩) hw hsh hG hr hL
      refine ⟨ρ1, b, w1', #[⟨.cell a', false, false⟩] ++ more, ?_, h2, h3, h4, fun e he => ?_⟩
      · simp only [Sem.runT, hv']
        rw [← Array.append_assoc]
        exact h1
      · rcases Array.mem_append.1 he with he | he
        · simp only [Array.mem_singleton] at he
          subst he
          exact .inl ⟨_, _, rfl, rfl, h4.le.app ha.1, fun k => by cases k⟩
        · exact h5 e he
    · rename_i hn
      obtain ⟨y, hy, _⟩ := (hc.2 hn p (Mode.plain == .atomic)).1
      rw [hy] at hr
      cases hr
  | @store ρ a a' v v' k k' ha hv h ih =>
    intro w w' w1 es es1 x es' hw hsh hG hr hL
    have hc := hw.cell ha
    have hst := fun hx hy => hw.store ha hv hx hy
    have key : ∀ (y : Value) (hy : v = y) (hone : (∀ c, y ≠ .agg c) ∧ ∀ c, y ≠ .tuple c), ∃ v0, w.cell? a = some v0 ∧ w.frozen? a = false ∧ k.runT p (w.setCell a v) (es.push ⟨.cell a, true, false⟩) = (.ok x w1, es1) := by
      rintro y rfl hone
      cases v <;> first
        | exact absurd rfl (hone.1 _)
        | exact absurd rfl (hone.2 _)
        | (simp only [Sem.runT] at hr
           split at hr
           · rename_i v0 hv0
             split at hr
             · cases hr
             · rename_i hfz
               exact ⟨v0, hv0, by simpa using hfz, hr⟩
           · rename_i hn
             obtain ⟨y, hy, _⟩ := (hc.2 hn p (Mode.plain == .atomic)).2 _
             rw [hy] at hr
             cases hr)
    have hone : (∀ c, v ≠ .agg c) ∧ ∀ c, v ≠ .tuple c := by
      refine ⟨fun c e => ?_, fun c e => ?_⟩ <;> · subst e; simp [Sem.runT] at hr
    obtain ⟨v0, hv0, hfz, hrun⟩ := key v rfl hone
    obtain ⟨v0', hv0', _⟩ := hc.1 v0 hv0
    obtain ⟨hfz', hnsh⟩ := hw.frozen ha ⟨v0, hv0⟩ hfz
    obtain ⟨ρ1, b, w1', more, h1, h2, h3, h4, h5⟩ := ih (es'.push ⟨.cell a', true, false⟩) (hst ⟨v0, hv0⟩ hfz).1 (fun b hb => by simpa [World.setCell] using hsh b hb) (by simpa [World.setCell] using hG) hrun hL
    refine ⟨ρ1, b, w1', #[⟨.cell a', true, false⟩] ++ more, ?_, h2, h3, (hst ⟨v0, hv0⟩ hfz).2.trans h4, fun e he => ?_⟩
    · rw [← Array.append_assoc]
      have hone' : (∀ c, v' ≠ .agg c) ∧ ∀ c, v' ≠ .tuple c := by
        refine ⟨fun c e => ?_, fun c e => ?_⟩ <;> · subst e; cases hv; first | exact hone.1 _ rfl | exact hone.2 _ rfl
      cases v' <;> first
        | exact absurd rfl (hone'.1 _)
        | exact absurd rfl (hone'.2 _)
        | (simp only [Sem.runT, hv0', hfz']; exact h1)
    · rcases Array.mem_append.1 he with he | he
      · simp only [Array.mem_singleton] at he
        subst he
        exact .inl ⟨_, _, rfl, rfl, h4.le.app ha.1, fun _ => hnsh⟩
      · exact h5 e he
  | @new ρ o o' k k' ho h ih =>
    intro w w' w1 es es1 x es' hw hsh hG hr hL
    have hn := hw.new hsh ho
    obtain ⟨ρ1, b, w1', more, h1, h2, h3, h4, h5⟩ := ih _ w.heap.size w'.heap.size hn.2.le (.inr ⟨rfl, rfl⟩) hG (hw.low0 _ (Nat.le_refl _)) es' hn.1 (fun b hb => by have := hsh b hb; simp; omega) (by show ρ.G ≤ _; simp; omega) hr hL
    exact ⟨ρ1, b, w1', more, h1, h2, h3, hn.2.trans h4, h5⟩
  | @shape ρ r r' k k' hr' h ih =>
    intro w w' w1 es es1 x es' hw hsh hG hr hL
    obtain ⟨ρ1, b, w1', more, h1, h2, h3, h4, h5⟩ := ih _ _ (hw.shapes hr') es' hw hsh hG hr hL
    exact ⟨ρ1, b, w1', more, by simp only [Sem.runT]; exact h1, h2, h3, h4, h5⟩
  | @getObj ρ r r' k k' hr' h ih =>
    intro w w' w1 es es1 x es' hw hsh hG hr hL
    obtain ⟨o, o', h1, h2, ho⟩ := hw.obj _ _ hr'
    cases ho with
    | cells e _ hc hf =>
      simp only [Sem.runT, h1] at hr
      cases hr
    | part hl hh hc =>
      simp only [Sem.runT, h1] at hr
      cases hr
    | @number a a' l _ hn =>
      simp only [Sem.runT, h1] at hr
      obtain ⟨ρ1, b, w1', more, g1, g2, g3, g4, g5⟩ := ih a a' l hn (es'.push ⟨.obj r', false, false⟩) hw hsh hG hr hL
      refine ⟨ρ1, b, w1', #[⟨.obj r', false, false⟩] ++ more, ?_, g2, g3, g4, fun e he => ?_⟩
      · simp only [Sem.runT, h2]
        rw [← Array.append_assoc]
        exact g1
      · rcases Array.mem_append.1 he with he | he
        · simp only [Array.mem_singleton] at he
          subst he
          exact .inr (.inl ⟨_, _, rfl, rfl, rfl, g4.le.app hr'⟩)
        · exact g5 e he
  | choose q h ih =>
    intro w w' w1 es es1 x es' hw hsh hG hr hL
    simp only [Sem.runT] at hr ⊢
    by_cases hq : q.forced = true
    · rw [if_pos hq] at hr
      obtain ⟨ρ1, b, w1', more, h1, h2, h3, h4, h5⟩ := ih _ es' hw hsh hG hr hL
      exact ⟨ρ1, b, w1', more, by rw [if_pos hq]; exact h1, h2, h3, h4, h5⟩
    · rw [if_neg hq] at hr
      have hd := hw.drew
      have hgr := (h _).grows hd.1 hsh hG hr
      obtain ⟨ρ1, b, w1', more, h1, h2, h3, h4, h5⟩ := ih _ es' hd.1 hsh hG hr hL
      have ht : w'.tape w'.drawn q = w.tape w.drawn q := by have := hw.tape 0 q (by have : w.drawn + 1 ≤ w1.drawn := hgr; omega); simpa using this.symm
      exact ⟨ρ1, b, w1', more, by rw [if_neg hq, ht]; exact h1, h2, h3, hd.2.trans h4, h5⟩
  | program h ih =>
    intro w w' w1 es es1 x es' hw hsh hG hr hL
    obtain ⟨ρ1, b, w1', more, h1, h2, h3, h4, h5⟩ := ih es' hw hsh hG hr hL
    exact ⟨ρ1, b, w1', more, h1, h2, h3, h4, h5⟩
  | room h ih =>
    intro w w' w1 es es1 x es' hw hsh hG hr hL
    obtain ⟨ρ1, b, w1', more, h1, h2, h3, h4, h5⟩ := ih (es'.push ⟨.mark .noRoom, false, true⟩) hw hsh hG hr hL
    refine ⟨ρ1, b, w1', #[⟨.mark .noRoom, false, true⟩] ++ more, by rw [← Array.append_assoc]; exact h1, h2, h3, h4, fun e he => ?_⟩
    rcases Array.mem_append.1 he with he | he
    · simp only [Array.mem_singleton] at he
      subst he
      exact .inr (.inr rfl)
    · exact h5 e he
theorem SimS.halts {α β : Type} {Q : Ren → α → β → Prop} {L : Nat} {Sh : Nat → Prop} {p p' : Program} [Kin p p'] {ρ : Ren} {s : Sem α} {s' : Sem β} (h : SimS p p' Q ρ s s') : ∀ {w w' w1 : World} {x : Halt}, RelW L Sh ρ w w' → (∀ b, Sh b → b < w.heap.size) → ρ.G ≤ w.heap.size → s.run p w = .halt x w1 → tame x = true := by
  induction h with
  | dead h => intro w w' w1 x hw hsh hG hr; exact h.2 w x w1 hr
  | pure h => intro w w' w1 x hw hsh hG hr; cases hr
  | load ha h ih =>
    intro w w' w1 x hw hsh hG hr
    have hc := hw.cell ha
    simp only [Sem.run] at hr
    split at hr
    · rename_i v hv
      obtain ⟨v', hv', hrel⟩ := hc.1 v hv
      exact ih v v' hrel hw hsh hG hr
    · rename_i hn
      obtain ⟨y, hy, ht⟩ := (hc.2 hn p (Mode.plain == .atomic)).1
      rw [hy] at hr
      cases hr
      exact ht
  | @store ρ a a' v v' k k' ha hv h ih =>
    intro w w' w1 x hw hsh hG hr
    have hc := hw.cell ha
    have hst := fun hx hy => hw.store ha hv hx hy
    cases v <;> simp only [Sem.run] at hr
    all_goals first
      | (cases hr; rfl)
      | (split at hr
         · rename_i v0 hv0
           split at hr
           · cases hr; rfl
           · rename_i hfz
             exact ih (hst ⟨v0, hv0⟩ (by simpa using hfz)).1 (fun b hb => by simpa [World.setCell] using hsh b hb) (by simpa [World.setCell] using hG) hr
         · rename_i hn
           obtain ⟨y, hy, ht⟩ := (hc.2 hn p (Mode.plain == .atomic)).2 _
           rw [hy] at hr
           cases hr
           exact ht)
  | @new ρ o o' k k' ho h ih =>
    intro w w' w1 x hw hsh hG hr
    have hn := hw.new hsh ho
    exact ih _ w.heap.size w'.heap.size hn.2.le (.inr ⟨rfl, rfl⟩) hG (hw.low0 _ (Nat.le_refl _)) hn.1 (fun b hb => by have := hsh b hb; simp; omega) (by show ρ.G ≤ _; simp; omega) hr
  | shape hr' h ih => intro w w' w1 x hw hsh hG hr; exact ih _ _ (hw.shapes hr') hw hsh hG hr
  | @getObj ρ r r' k k' hr' h ih =>
    intro w w' w1 x hw hsh hG hr
    obtain ⟨o, o', h1, h2, ho⟩ := hw.obj _ _ hr'
    cases ho with
    | cells e _ hc hf =>
      simp only [Sem.run, h1] at hr
      cases hr
      rfl
    | part hl hh hc =>
      simp only [Sem.run, h1] at hr
      cases hr
      rfl
    | @number a a' l _ hn =>
      simp only [Sem.run, h1] at hr
      exact ih a a' l hn hw hsh hG hr
  | choose q h ih =>
    intro w w' w1 x hw hsh hG hr
    simp only [Sem.run] at hr
    by_cases hq : q.forced = true
    · rw [if_pos hq] at hr
      exact ih _ hw hsh hG hr
    · rw [if_neg hq] at hr
      exact ih _ hw.drew.1 hsh hG hr
  | program h ih => intro w w' w1 x hw hsh hG hr; exact ih hw hsh hG hr
  | room h ih => intro w w' w1 x hw hsh hG hr; exact ih hw hsh hG hr
def flatC : Value → Bool
  | .bool _ | .int _ _ | .string _ | .pointer none | .slice none 0 0 | .map none | .chan none | .nilFunc | .nilIface => true
  | .tuple x => x.isEmpty
  | .agg x => x.isEmpty
  | _ => false
def flatZ (v : Value) : Bool := match v with
  | .agg x => x.all flatC
  | v => flatC v
def okZero (P : Program) (t : TypeId) : Bool := match P.info? t with
  | some i => (match i.zero with | some z => flatZ z | none => true)
  | none => true
def okElem (P : Program) (t : TypeId) : Bool := match P.underlying t with
  | some (.slice e) => okZero P e
  | _ => true
section
variable {Pg P : Program} [Kin Pg P] {α β γ δ : Type} {ρ : Ren}
/-! ### small words -/
theorem SimS.dd {Q : Ren → α → β → Prop} {s : Sem α} {s' : Sem β} (h : Dead Pg s) : SimS Pg P Q ρ s s' := .dead h
theorem dead_halt (h : Halt) (ht : tame h = true) : Dead Pg (.halt h : Sem α) := ⟨fun w a w1 e => (by cases e), fun w x w1 e => (by cases e; exact ht)⟩
theorem dead_stuck (m : String) : Dead Pg (stuck m : Sem α) := dead_halt _ rfl
theorem dead_unsupported (u : Unsupported) (h : tame (.unsupported u) = true := by rfl) : Dead Pg (unsupported u : Sem α) := dead_halt _ h
theorem dead_goPanic (v : Value) : Dead Pg (goPanic v : Sem α) := dead_halt _ rfl
theorem run_bind_two {p : Program} {s : Sem α} {f : α → Sem γ} {w w1 : World} {c : γ} (h : (s.bind f).run p w = .ok c w1) : ∃ a w0, s.run p w = .ok a w0 ∧ (f a).run p w0 = .ok c w1 := by
  induction s generalizing w with
  | pure a => exact ⟨a, w, rfl, h⟩
  | load m a k ih =>
    simp only [Sem.bind, Sem.run] at h ⊢
    split at h
    · exact ih _ h
    · split at h
      · exact ih _ h
      · cases h
  | store m a v k ih =>
    cases v <;> simp only [Sem.bind, Sem.run] at h ⊢
    all_goals first
      | (cases h; done)
      | (split at h
         · split at h
           · cases h
           · rename_i h1; simp only [h1]; exact ih h
         · split at h
           · exact ih h
           · cases h)
  | new o k ih => exact ih _ h
  | shape r k ih => exact ih _ h
  | freeze a n k ih => exact ih h
  | frozen a k ih => exact ih _ h
  | getObj r k ih =>
    simp only [Sem.bind, Sem.run] at h ⊢
    split at h
    · cases h
    · exact ih _ h
    · cases h
  | setObj r o k ih =>
    simp only [Sem.bind, Sem.run] at h ⊢
    split at h
    · cases h
    · exact ih h
    · cases h
  | choose q k ih =>
    simp only [Sem.bind, Sem.run] at h ⊢
    by_cases hq : q.forced = true
    · rw [if_pos hq] at h ⊢
      exact ih _ h
    · rw [if_neg hq] at h ⊢
      exact ih _ h
  | sys c k ih => exact ih _ h
  | program k ih => exact ih _ h
  | mark m k ih => exact ih h
  | halt x => cases h
theorem tame_bind {s : Sem α} {f : α → Sem γ} (hs : TameS Pg s) (h : ∀ a, TameS Pg (f a)) : TameS Pg (s >>= f) := fun w x w1 e => by
  rcases run_bind_halt (show (s.bind f).run Pg w = .halt x w1 from e) with hx | ⟨a, w0, _, h2⟩
  · exact hs w x w1 hx
  · exact h a w0 x w1 h2
theorem dead_bind {s : Sem α} {f : α → Sem γ} (hs : TameS Pg s) (h : ∀ a, Dead Pg (f a)) : Dead Pg (s >>= f) := by
  refine ⟨fun w c w1 e => ?_, tame_bind hs fun a => (h a).2⟩
  obtain ⟨a, w0, _, h2⟩ := run_bind_two (show (s.bind f).run Pg w = .ok c w1 from e)
  exact (h a).1 w0 c w1 h2
theorem dead_left {s : Sem α} {f : α → Sem γ} (h : Dead Pg s) : Dead Pg (s >>= f) := by
  refine ⟨fun w c w1 e => ?_, fun w x w1 e => ?_⟩
  · obtain ⟨a, w0, h1, _⟩ := run_bind_two (show (s.bind f).run Pg w = .ok c w1 from e)
    exact h.1 w a w0 h1
  · rcases run_bind_halt (show (s.bind f).run Pg w = .halt x w1 from e) with hx | ⟨a, w0, h1, _⟩
    · exact h.2 w x w1 hx
    · exact absurd h1 (h.1 w a w0)
theorem tame_pure (a : α) : TameS Pg (Pure.pure a : Sem α) := fun w x w1 e => by cases e
theorem tame_program : TameS Pg (program : Sem Program) := fun w x w1 e => by cases e
theorem tame_new (o : Obj) : TameS Pg (newObj o) := fun w x w1 e => by cases e
theorem tame_shape (r : Nat) : TameS Pg (shape r) := fun w x w1 e => by cases e
theorem tame_frozen (a : Addr) : TameS Pg (frozen a) := fun w x w1 e => by cases e
theorem tame_mark (m : Mark) : TameS Pg (mark m) := fun w x w1 e => by cases e
theorem tame_choose (q : Question) : TameS Pg (choose q) := fun w x w1 e => by
  simp only [choose, Sem.run] at e
  split at e <;> cases e
theorem tame_typeInfo (t : TypeId) : TameS Pg (typeInfo t) := tame_bind tame_program fun p => by
  split
  · exact tame_pure _
  · exact (dead_stuck _).2
theorem tame_underlying (t : TypeId) : TameS Pg (underlying t) := tame_bind tame_program fun p => by
  split
  · exact tame_pure _
  · exact (dead_stuck _).2
theorem tame_elemOf (t : TypeId) : TameS Pg (elemOf t) := tame_bind (tame_underlying t) fun d => by
  cases d <;> first | exact tame_pure _ | exact (dead_stuck _).2
theorem tame_newVar (t : TypeId) (v : Value) : TameS Pg (newVar t v) := tame_bind (tame_new _) fun _ => tame_pure _
theorem dead_runtimePanic (e : RuntimeError) : Dead Pg (runtimePanic e : Sem α) := by
  unfold runtimePanic
  refine dead_bind tame_program fun p => ?_
  cases e
  all_goals first
    | exact dead_goPanic _
    | exact dead_bind (tame_elemOf _) fun _ => dead_bind (tame_newVar _ _) fun _ => dead_goPanic _
theorem dead_boundsPanic (k : IntKind) (x y : Int) (c : BoundsCode) : Dead Pg (boundsPanic k x y c : Sem α) := by
  unfold boundsPanic
  dsimp only
  split
  · exact dead_bind (tame_bind (tame_choose _) fun _ => tame_pure _) fun _ => dead_runtimePanic _
  · exact dead_bind (tame_pure _) fun _ => dead_runtimePanic _
theorem SimS.bd {Q : Ren → α → β → Prop} {Q' : Ren → γ → δ → Prop} {s : Sem α} {s' : Sem β} {f : α → Sem γ} {f' : β → Sem δ} (h : SimS Pg P Q ρ s s') (hf : ∀ ρ' a b, ρ.le ρ' → Q ρ' a b → SimS Pg P Q' ρ' (f a) (f' b)) : SimS Pg P Q' ρ (s >>= f) (s' >>= f') := SimS.bind h hf
theorem SimS.pr {Q : Ren → α → β → Prop} {a : α} {b : β} (h : Q ρ a b) : SimS Pg P Q ρ (Pure.pure a) (Pure.pure b) := .pure h
/-! ### rows of values -/
theorem RelR.empty : RelR ρ #[] #[] := ⟨rfl, fun i v v' h => by simp at h⟩
theorem RelR.push {x x' : Array Value} {v v' : Value} (h : RelR ρ x x') (hv : RelV ρ v v') : RelR ρ (x.push v) (x'.push v') := by
  refine ⟨by simp [h.1], fun i a b h1 h2 => ?_⟩
  rw [Array.getElem?_push] at h1 h2
  rw [← h.1] at h2
  by_cases e : i = x.size
  · rw [if_pos e] at h1 h2
    cases h1; cases h2
    exact hv
  · rw [if_neg e] at h1 h2
    exact h.2 i a b h1 h2
theorem RelR.append {x x' y y' : Array Value} (h : RelR ρ x x') (k : RelR ρ y y') : RelR ρ (x ++ y) (x' ++ y') := by
  refine ⟨by simp [h.1, k.1], fun i a b h1 h2 => ?_⟩
  rw [Array.getElem?_append] at h1 h2
  rw [← h.1] at h2
  by_cases e : i < x.size
  · rw [if_pos e] at h1 h2
    exact h.2 i a b h1 h2
  · rw [if_neg e] at h1 h2
    exact k.2 _ a b h1 h2
theorem RelR.one {v v' : Value} (hv : RelV ρ v v') : RelR ρ #[v] #[v'] := RelR.push (x := #[]) (x' := #[]) .empty hv
theorem RelR.extract {x x' : Array Value} (h : RelR ρ x x') (a b : Nat) : RelR ρ (x.extract a b) (x'.extract a b) := by
  refine ⟨by simp [h.1], fun i u v h1 h2 => ?_⟩
  rw [Array.getElem?_extract] at h1 h2
  split at h1
  · split at h2
    · exact h.2 _ u v h1 h2
    · cases h2
  · cases h1
theorem RelR.get {x x' : Array Value} (h : RelR ρ x x') (i : Nat) : (x[i]? = none ∧ x'[i]? = none) ∨ ∃ v v', x[i]? = some v ∧ x'[i]? = some v' ∧ RelV ρ v v' := by
  by_cases hi : i < x.size
  · have hi' : i < x'.size := by rw [← h.1]; exact hi
    exact .inr ⟨x[i], x'[i], Array.getElem?_eq_getElem hi, Array.getElem?_eq_getElem hi', h.2 i _ _ (Array.getElem?_eq_getElem hi) (Array.getElem?_eq_getElem hi')⟩
  · exact .inl ⟨Array.getElem?_eq_none (by omega), Array.getElem?_eq_none (by rw [← h.1]; omega)⟩
theorem RelR.agg {x x' : Array Value} (h : RelR ρ x x') : RelV ρ (.agg x) (.agg x') := .agg h.1 h.2
theorem RelR.tuple {x x' : Array Value} (h : RelR ρ x x') : RelV ρ (.tuple x) (.tuple x') := .tuple h.1 h.2
theorem flatC_rel {v : Value} (h : flatC v = true) : RelV ρ v v := by
  cases v with
  | bool b => exact .bool b
  | int k n => exact .int k n
  | string s => exact .string s
  | pointer a => cases a with
    | none => exact .ptrNil
    | some a => cases h
  | slice a n c => cases a with
    | none =>
      have e : n = 0 ∧ c = 0 := by cases n <;> cases c <;> simp_all [flatC]
      obtain ⟨rfl, rfl⟩ := e
      exact .sliceNil
    | some a => cases h
  | map r => cases r with
    | none => exact .mapNil
    | some a => cases h
  | chan r => cases r with
    | none => exact .chanNil
    | some a => cases h
  | nilFunc => exact .nilFunc
  | nilIface => exact .nilIface
  | tuple x =>
    obtain rfl : x = #[] := by simpa [flatC] using h
    exact RelR.tuple .empty
  | agg x =>
    obtain rfl : x = #[] := by simpa [flatC] using h
    exact RelR.agg .empty
  | _ => cases h
theorem flatZ_rel {v : Value} (h : flatZ v = true) : RelV ρ v v := by
  unfold flatZ at h
  split at h
  · rename_i x
    refine RelR.agg ⟨rfl, fun i a b h1 h2 => ?_⟩
    rw [h1] at h2
    cases h2
    exact flatC_rel (Array.all_eq_true'.1 h a (Array.mem_of_getElem? h1))
  · exact flatC_rel h
/-! ### what asks the program alone -/
def Same : Ren → α → α → Prop := fun _ a b => a = b
theorem kin_info (t : TypeId) : Pg.info? t = P.info? t := by
  obtain ⟨Tg, fg⟩ := Pg
  obtain ⟨T, f⟩ := P
  obtain rfl : Tg = T := ‹Kin _ _›.tables
  rfl
theorem kin_underlying (t : TypeId) : Pg.underlying t = P.underlying t := by
  obtain ⟨Tg, fg⟩ := Pg
  obtain ⟨T, f⟩ := P
  obtain rfl : Tg = T := ‹Kin _ _›.tables
  rfl
theorem sim_program : SimS Pg P (fun _ p q => p.toTables = q.toTables) ρ (program : Sem Program) program := .program (.pure ‹Kin Pg P›.tables)
theorem sim_typeInfo (t : TypeId) : SimS Pg P (fun _ a b => a = b ∧ P.info? t = some a) ρ (typeInfo t) (typeInfo t) := by
  refine .program ?_
  show SimS Pg P _ ρ (match Pg.info? t with | some i => Pure.pure i | none => stuck "no such type") (match P.info? t with | some i => Pure.pure i | none => stuck "no such type")
  rw [kin_info (Pg := Pg) (P := P) t]
  cases h : P.info? t with
  | none => exact .dd (dead_stuck _)
  | some i => exact .pr ⟨rfl, rfl⟩
theorem sim_underlying (t : TypeId) : SimS Pg P Same ρ (underlying t) (underlying t) := by
  refine .program ?_
  show SimS Pg P _ ρ (match Pg.underlying t with | some i => Pure.pure i | none => stuck "no such type") (match P.underlying t with | some i => Pure.pure i | none => stuck "no such type")
  rw [kin_underlying (Pg := Pg) (P := P) t]
  cases h : P.underlying t with
  | none => exact .dd (dead_stuck _)
  | some i => exact .pr rfl
theorem sim_sizeOf (t : TypeId) : SimS Pg P Same ρ (sizeOf t) (sizeOf t) := (sim_typeInfo t).bd fun _ a b _ h => by
  rw [h.1]
  exact .pr rfl
theorem sim_zeroValue {t : TypeId} (hz : okZero P t = true) : SimS Pg P RelV ρ (zeroValue t) (zeroValue t) := (sim_typeInfo t).bd fun ρ' a b _ h => by
  obtain ⟨rfl, hi⟩ := h
  cases hz' : a.zero with
  | none => exact .dd (dead_unsupported _)
  | some z =>
    simp only [okZero, hi, hz'] at hz
    exact .pr (flatZ_rel hz)
theorem sim_isAgg (t : TypeId) : SimS Pg P Same ρ (isAgg t) (isAgg t) := (sim_underlying t).bd fun _ a b _ h => by
  obtain rfl : a = b := h
  cases a <;> exact .pr rfl
theorem RelV.cells {v v' : Value} (h : RelV ρ v v') : RelR ρ v.cells v'.cells := by
  cases h with
  | agg hx h => exact ⟨hx, h⟩
  | bool b => exact .one (.bool b)
  | int k n => exact .one (.int k n)
  | string s => exact .one (.string s)
  | ptrNil => exact .one .ptrNil
  | ptr h => exact .one (.ptr h)
  | sliceNil => exact .one .sliceNil
  | slice n c h => exact .one (.slice n c h)
  | mapNil => exact .one .mapNil
  | chanNil => exact .one .chanNil
  | func f hA hx h1 hy h2 => exact .one (.func f hA hx h1 hy h2)
  | nilFunc => exact .one .nilFunc
  | iface t h => exact .one (.iface t h)
  | nilIface => exact .one .nilIface
  | tuple hx h => exact .one (.tuple hx h)
theorem RelA.add {a a' : Addr} (h : RelA ρ a a') (n : Nat) : RelA ρ (a.add n) (a'.add n) := by
  unfold Addr.add
  split
  · exact h
  · exact ⟨h.1, by simp [h.2.1], rfl, h.2.2.2.1, by have := h.2.2.2.2; show ρ.lo a.block ≤ a.off + n + 1; omega⟩
/-! ### memory -/
theorem sim_load {a a' : Addr} (h : RelA ρ a a') : SimS Pg P RelV ρ (load a) (load a') := .load h fun _ _ hv => .pure hv
theorem sim_store {a a' : Addr} {v v' : Value} (h : RelA ρ a a') (hv : RelV ρ v v') : SimS Pg P Same ρ (store a v) (store a' v') := .store h hv (.pure rfl)
theorem sim_loadCellsFrom {a a' : Addr} (n : Nat) : ∀ {ρ : Ren} (_ : RelA ρ a a') (i : Nat) {x x' : Array Value}, RelR ρ x x' → SimS Pg P RelR ρ (loadCellsFrom a i n x) (loadCellsFrom a' i n x') := by
  induction n with
  | zero => intro ρ h i x x' hx; exact .pr hx
  | succ n ih =>
    intro ρ h i x x' hx
    exact (sim_load (h.add i)).bd fun ρ' v v' hle hv => ih (h.mono hle) (i + 1) ((hx.mono hle).push hv)
theorem sim_loadCells {a a' : Addr} (h : RelA ρ a a') (n : Nat) : SimS Pg P RelR ρ (loadCells a n) (loadCells a' n) := sim_loadCellsFrom n h 0 .empty
theorem sim_storeCells {a a' : Addr} (l : List Value) : ∀ {ρ : Ren} (_ : RelA ρ a a') (l' : List Value) (i : Nat), RelR ρ l.toArray l'.toArray → SimS Pg P Same ρ (storeCells a l i) (storeCells a' l' i) := by
  induction l with
  | nil =>
    intro ρ h l' i hl
    cases l' with
    | nil => exact .pr rfl
    | cons v r => simp [RelR] at hl
  | cons v r ih =>
    intro ρ h l' i hl
    cases l' with
    | nil => simp [RelR] at hl
    | cons v' r' =>
      refine (sim_store (h.add i) (hl.2 0 v v' (by simp) (by simp))).bd fun ρ' _ _ hle _ => ih (h.mono hle) r' (i + 1) ?_
      refine RelR.mono hle ⟨by have := hl.1; simpa using this, fun j a b h1 h2 => hl.2 (j + 1) a b (by simpa using h1) (by simpa using h2)⟩
theorem sim_loadVar {a a' : Addr} (h : RelA ρ a a') (t : TypeId) : SimS Pg P RelV ρ (loadVar t a) (loadVar t a') := by
  refine (sim_isAgg t).bd fun ρ1 b b' hle hb => ?_
  obtain rfl : b = b' := hb
  cases b
  · exact sim_load (h.mono hle)
  · refine (sim_sizeOf t).bd fun ρ2 n n' hle2 hn => ?_
    obtain rfl : n = n' := hn
    exact (sim_loadCells ((h.mono hle).mono hle2) n).bd fun ρ3 x x' _ hx => .pr hx.agg
theorem sim_storeVar {a a' : Addr} {v v' : Value} (h : RelA ρ a a') (hv : RelV ρ v v') (t : TypeId) : SimS Pg P Same ρ (storeVar t a v) (storeVar t a' v') := by
  refine (sim_sizeOf t).bd fun ρ1 n n' hle hn => ?_
  obtain rfl : n = n' := hn
  have hc := (hv.mono hle).cells
  rw [← hc.1]
  by_cases hs : v.cells.size ≠ n
  · rw [if_pos hs]
    exact .dd (dead_left (dead_stuck _))
  · rw [if_neg hs, if_neg hs]
    exact sim_storeCells _ (h.mono hle) _ 0 (by simpa using hc)
theorem relO_cells {x x' : Array Value} (e : TypeId) (h : RelR ρ x x') : RelO ρ 0 (.cells x e) (.cells x' e) := .cells e rfl h fun i _ k => by omega
theorem sim_newRow {x x' : Array Value} (e : TypeId) (h : RelR ρ x x') : SimS Pg P RelA ρ (newRow e x) (newRow e x') := .new (relO_cells e h) fun _ _ _ _ hr hG h0 => .pure ⟨hr, rfl, rfl, fun (k : _ < _) => absurd k (Nat.not_lt.2 hG), by simp only [h0]; omega⟩
theorem sim_newVar {v v' : Value} (e : TypeId) (h : RelV ρ v v') : SimS Pg P RelA ρ (newVar e v) (newVar e v') := sim_newRow e h.cells
/-! ### values that are asked for -/
theorem sim_asIntOf {v v' : Value} (h : RelV ρ v v') : SimS Pg P Same ρ (asIntOf v) (asIntOf v') := by
  cases h <;> first | exact .pr rfl | exact .dd (dead_stuck _) | exact .dd (dead_unsupported _)
theorem sim_asInt {v v' : Value} (h : RelV ρ v v') : SimS Pg P Same ρ (asInt v) (asInt v') := (sim_asIntOf h).bd fun _ a b _ hab => by
  obtain rfl : a = b := hab
  exact .pr rfl
theorem sim_asBool {v v' : Value} (h : RelV ρ v v') : SimS Pg P Same ρ (asBool v) (asBool v') := by
  cases h <;> first | exact .pr rfl | exact .dd (dead_stuck _)
theorem sim_sureAddr {v v' : Value} (h : RelV ρ v v') : SimS Pg P RelA ρ (Instr.sureAddr v) (Instr.sureAddr v') := by
  cases h with
  | ptr h => exact .pr h
  | _ => exact .dd (dead_stuck _)
theorem sim_asAddr {v v' : Value} (h : RelV ρ v v') : SimS Pg P RelA ρ (asAddr v) (asAddr v') := by
  cases h with
  | ptr h => exact .pr h
  | ptrNil => exact .dd (show Dead Pg (runtimePanic .nilDeref) from dead_runtimePanic _)
  | _ => exact .dd (dead_stuck _)
end
/-! ### what hangs on the tables alone -/
theorem kin_cells (T : Tables) (f f' : Array Func) (e : TypeId) : Program.cellsOf ⟨T, f⟩ e = Program.cellsOf ⟨T, f'⟩ e := rfl
theorem kin_bytes (T : Tables) (f f' : Array Func) (e : TypeId) : Program.bytesOf ⟨T, f⟩ e = Program.bytesOf ⟨T, f'⟩ e := rfl
theorem kin_depth (T : Tables) (f f' : Array Func) : Program.depth ⟨T, f⟩ = Program.depth ⟨T, f'⟩ := rfl
theorem kin_byteOfCell (T : Tables) (f f' : Array Func) (d : Nat) : byteOfCell ⟨T, f⟩ d = byteOfCell ⟨T, f'⟩ d := by
  induction d with
  | zero => rfl
  | succ d ih =>
    funext t off
    unfold byteOfCell
    rw [ih]
    rfl
theorem kin_cellOfByte (T : Tables) (f f' : Array Func) (d : Nat) : cellOfByte ⟨T, f⟩ d = cellOfByte ⟨T, f'⟩ d := by
  induction d with
  | zero => rfl
  | succ d ih =>
    funext t off
    unfold cellOfByte
    rw [ih]
    rfl
theorem kin_cellAtBytes (T : Tables) (f f' : Array Func) (d : Nat) : cellAtBytes ⟨T, f⟩ d = cellAtBytes ⟨T, f'⟩ d := by
  funext e count off bytes
  unfold cellAtBytes
  rw [kin_byteOfCell T f f', kin_cellOfByte T f f']
  rfl
section
variable {Pg P : Program} [Kin Pg P] {ρ : Ren}
/-! ### addresses as numbers (nobody here does so; but who adds could) -/
theorem sim_shape {r r' : Nat} (h : ρ r r') : SimS Pg P (fun ρ' s s' => ρ.le ρ' ∧ ShapeR ρ (ρ.lo r) s s') ρ (shape r) (shape r') := .shape h fun _ _ hs => .pure ⟨.refl _, hs⟩
theorem sim_viewAt {r r' : Nat} (h : ρ r r') : SimS Pg P (fun _ a b => a = none ∧ b = none) ρ (viewAt r) (viewAt r') := by
  refine (sim_shape h).bd fun ρ1 s s' hle hs => ?_
  rcases hs.2 with ⟨_, rfl⟩ | ⟨hl, m, e', m', rfl, rfl⟩
  case inr => exact .pr ⟨rfl, rfl⟩
  cases s with
  | some x => exact .pr ⟨rfl, rfl⟩
  | none => exact .getObj (hle.app h) fun a a' l _ => .pure ⟨rfl, rfl⟩
theorem sim_numberAt {r r' : Nat} (h : ρ r r') : SimS Pg P (fun ρ a b => (a = none ∧ b = none) ∨ ∃ x x' l, a = some (x, l) ∧ b = some (x', l) ∧ RelA ρ x x') ρ (numberAt r) (numberAt r') := by
  refine (sim_shape h).bd fun ρ1 s s' hle hs => ?_
  rcases hs.2 with ⟨_, rfl⟩ | ⟨hl, m, e', m', rfl, rfl⟩
  case inr => exact .pr (.inl ⟨rfl, rfl⟩)
  cases s with
  | some x => exact .pr (.inl ⟨rfl, rfl⟩)
  | none => exact .getObj (hle.app h) fun a a' l ha => .pure (.inr ⟨a, a', l, rfl, rfl, ha⟩)
theorem sim_behindNumber {a a' : Addr} (h : RelA ρ a a') : SimS Pg P (fun ρ x y => RelA ρ x.1 y.1 ∧ x.2 = y.2) ρ (behindNumber a) (behindNumber a') := by
  refine (sim_numberAt h.1).bd fun ρ1 s s' hle hs => ?_
  rcases hs with ⟨rfl, rfl⟩ | ⟨x, x', l, rfl, rfl, hx⟩
  · exact .pr ⟨h.mono hle, rfl⟩
  · exact .pr ⟨hx, rfl⟩
theorem dead_noType {t : TypeId} (h : P.info? t = none) : Dead Pg (typeInfo t) := by
  have e : ∀ w, (typeInfo t).run Pg w = .halt (.stuck "no such type") w := fun w => by
    show (match Pg.info? t with | some i => (Pure.pure i : Sem TypeInfo) | none => stuck "no such type").run Pg w = _
    rw [kin_info (P := P), h]
    rfl
  exact ⟨fun w a w1 hx => (by rw [e] at hx; cases hx), fun w x w1 hx => (by rw [e] at hx; cases hx; rfl)⟩
theorem dead_bind2 {α : Type} {f : Program → Sem α} (e : ∀ w, ((program : Sem Program) >>= f).run Pg w = (f Pg).run Pg w) (h : Dead Pg (f Pg)) : Dead Pg ((program : Sem Program) >>= f) := ⟨fun w a w1 hx => h.1 w a w1 ((e w).symm.trans hx), fun w x w1 hx => h.2 w x w1 ((e w).symm.trans hx)⟩
theorem sim_asNumber {a a' : Addr} (h : RelA ρ a a') (l : Bool) : SimS Pg P RelV ρ (asNumber a l) (asNumber a' l) := .new (.number l rfl h) fun _ _ _ _ hr hG h0 => .pure (.ptr ⟨hr, rfl, rfl, fun (k : _ < _) => absurd k (Nat.not_lt.2 hG), by simp only [h0]; omega⟩)
theorem sim_noView {a a' : Addr} (h : RelA ρ a a') : SimS Pg P Same ρ (noView a) (noView a') := (sim_viewAt h.1).bd fun _ _ _ _ hs => by
  obtain ⟨rfl, rfl⟩ := hs
  exact .pr rfl
theorem sim_byteOf {a a' : Addr} (h : RelA ρ a a') (h0 : ρ.lo a.block = 0) : SimS Pg P Same ρ (byteOf a) (byteOf a') := by
  obtain ⟨b, o, s⟩ := a
  obtain ⟨b', o', s'⟩ := a'
  have h' := h
  obtain ⟨hb, rfl, rfl, _⟩ := h'
  unfold byteOf
  cases s' with
  | some x => exact .pr rfl
  | none =>
    refine sim_program.bd fun ρ1 p p' hle hp => ?_
    obtain ⟨pt, pf⟩ := p
    obtain ⟨pt', pf'⟩ := p'
    obtain rfl : pt = pt' := hp
    refine (sim_noView (h.mono hle)).bd fun ρ2 _ _ hle2 _ => ?_
    refine (sim_shape (hle2.app (hle.app hb))).bd fun ρ3 s s' _ hs => ?_
    have h02 : ρ2.lo b = 0 := by rw [hle2.lo, hle.lo]; exact h0
    rcases hs.2 with ⟨_, rfl⟩ | ⟨hl, m, e', m', rfl, rfl⟩
    case inr => exact absurd h02 hl
    cases s with
    | none => exact .dd (dead_stuck _)
    | some x =>
      obtain ⟨e, n⟩ := x
      dsimp only
      simp only [kin_cells pt pf' pf, kin_bytes pt pf' pf, kin_depth pt pf' pf, kin_byteOfCell pt pf' pf]
      split
      · exact .pr rfl
      · split
        · exact .pr rfl
        · exact .dd (dead_stuck _)
theorem sim_unsafeAdd (hG : Fits P ρ) {x x' y y' : Value} (hx : RelV ρ x x') (hy : RelV ρ y y') (t : TypeId) : SimS Pg P RelV ρ (Builtin.unsafeAdd_ #[] t #[x, y]) (Builtin.unsafeAdd_ #[] t #[x', y']) := by
  unfold Builtin.unsafeAdd_
  cases hx with
  | ptrNil =>
    refine (sim_asInt hy).bd fun ρ1 n n' hle hn => ?_
    obtain rfl : n = n' := hn
    dsimp only
    split
    · exact .dd (dead_unsupported _)
    · split
      · exact .dd (dead_left (dead_unsupported _))
      · exact .dd (dead_unsupported _)
  | @ptr a a' h =>
    refine (sim_asInt hy).bd fun ρ1 n n' hle hn => ?_
    obtain rfl : n = n' := hn
    dsimp only
    split
    · refine (sim_viewAt (hle.app h.1)).bd fun ρ2 s s' hle2 hs => ?_
      obtain ⟨rfl, rfl⟩ := hs
      exact .pr (.ptr ((h.mono hle).mono hle2))
    · split
      · exact .dd (dead_left (dead_unsupported _))
      · refine (sim_shape (hle.app h.1)).bd fun ρ2 s s' hle2 hs => ?_
        rcases hs.2 with ⟨h0, rfl⟩ | ⟨hl, m, e', m', rfl, rfl⟩
        case inr =>
          refine .dd (dead_bind2 (fun w => rfl) ?_)
          have hb : Pg.cellsOf ρ1.Bg = 0 := by
            unfold Program.cellsOf
            rw [kin_info (P := P), (hG.mono hle).bog]
            rfl
          have hn : cellAtBytes Pg Pg.depth ρ1.Bg (m / Pg.cellsOf ρ1.Bg) a.off n = none := by
            unfold cellAtBytes
            simp [hb]
          rw [hn]
          exact dead_unsupported _
        cases s with
        | none => exact .dd (dead_unsupported _)
        | some e =>
          obtain ⟨e, cells⟩ := e
          refine sim_program.bd fun ρ3 p p' hle3 hp => ?_
          obtain ⟨pt, pf⟩ := p
          obtain ⟨pt', pf'⟩ := p'
          obtain rfl : pt = pt' := hp
          simp only [kin_cells pt pf' pf, kin_depth pt pf' pf, kin_cellAtBytes pt pf' pf]
          rw [h.2.1]
          split
          · exact .pr (.ptr (((h.mono hle).mono hle2).mono hle3 |> fun k => ⟨k.1, rfl, k.2.2.1, k.2.2.2.1, by rw [hle3.lo, hle2.lo, h0]; omega⟩))
          · exact .dd (dead_unsupported _)
  | _ => exact .dd (dead_stuck _)
theorem sim_movedNumber (hG : Fits P ρ) {x x' y y' : Value} (hx : RelV ρ x x') (hy : RelV ρ y y') (t : TypeId) : SimS Pg P RelV ρ (movedNumber t x y) (movedNumber t x' y') := by
  unfold movedNumber
  refine (sim_underlying t).bd fun ρ1 d d' hle hd => ?_
  obtain rfl : d = d' := hd
  replace hx := hx.mono hle
  replace hy := hy.mono hle
  dsimp only
  split
  · exact .dd (dead_left (dead_unsupported _))
  · cases hx with
    | @ptr a a' h =>
      refine (sim_behindNumber h).bd fun ρ2 n n' hle2 hn => ?_
      obtain ⟨n1, n2⟩ := n
      obtain ⟨m1, m2⟩ := n'
      obtain ⟨hn1, hn2⟩ := hn
      simp only at hn1 hn2
      subst hn2
      refine (sim_unsafeAdd (hG.mono (hle.trans hle2)) (.ptr hn1) (hy.mono hle2) t).bd fun ρ3 v v' hle3 hv => ?_
      cases hv with
      | ptr k => exact sim_asNumber k _
      | ptrNil => exact .pr .ptrNil
      | bool b => exact .pr (.bool b)
      | int k n => exact .pr (.int k n)
      | string s => exact .pr (.string s)
      | sliceNil => exact .pr .sliceNil
      | slice n c h => exact .pr (.slice n c h)
      | mapNil => exact .pr .mapNil
      | chanNil => exact .pr .chanNil
      | func f hA hx h1 hy h2 => exact .pr (.func f hA hx h1 hy h2)
      | nilFunc => exact .pr .nilFunc
      | iface t h => exact .pr (.iface t h)
      | nilIface => exact .pr .nilIface
      | agg hx h => exact .pr (.agg hx h)
      | tuple hx h => exact .pr (.tuple hx h)
    | ptrNil => exact sim_unsafeAdd (hG.mono hle) .ptrNil hy t
    | bool b => exact sim_unsafeAdd (hG.mono hle) (.bool b) hy t
    | int k n => exact sim_unsafeAdd (hG.mono hle) (.int k n) hy t
    | string s => exact sim_unsafeAdd (hG.mono hle) (.string s) hy t
    | sliceNil => exact sim_unsafeAdd (hG.mono hle) .sliceNil hy t
    | slice n c h => exact sim_unsafeAdd (hG.mono hle) (.slice n c h) hy t
    | mapNil => exact sim_unsafeAdd (hG.mono hle) .mapNil hy t
    | chanNil => exact sim_unsafeAdd (hG.mono hle) .chanNil hy t
    | func f hA hx h1 hy' h2 => exact sim_unsafeAdd (hG.mono hle) (.func f hA hx h1 hy' h2) hy t
    | nilFunc => exact sim_unsafeAdd (hG.mono hle) .nilFunc hy t
    | iface t' h => exact sim_unsafeAdd (hG.mono hle) (.iface t' h) hy t
    | nilIface => exact sim_unsafeAdd (hG.mono hle) .nilIface hy t
    | agg hx h => exact sim_unsafeAdd (hG.mono hle) (.agg hx h) hy t
    | tuple hx h => exact sim_unsafeAdd (hG.mono hle) (.tuple hx h) hy t
theorem sim_movedPointer (hG : Fits P ρ) {x x' y y' : Value} (hx : RelV ρ x x') (hy : RelV ρ y y') (t : TypeId) : SimS Pg P RelV ρ (movedPointer t x y) (movedPointer t x' y') := by
  have k : ∀ {ρ1 : Ren}, ρ.le ρ1 → SimS Pg P RelV ρ1 (Builtin.unsafeAdd_ #[] t #[x, y]) (Builtin.unsafeAdd_ #[] t #[x', y']) := fun hle => sim_unsafeAdd (hG.mono hle) (hx.mono hle) (hy.mono hle) t
  unfold movedPointer
  cases hx with
  | @ptr a a' h =>
    refine (sim_numberAt h.1).bd fun ρ1 s s' hle hs => ?_
    rcases hs with ⟨rfl, rfl⟩ | ⟨x, x', l, rfl, rfl, hx⟩
    · exact k hle
    · exact .dd (dead_left (dead_unsupported _))
  | _ => exact k (.refl _)
theorem sim_twoPlaces (hG : Fits P ρ) {a a' b b' : Addr} (h : RelA ρ a a') (k : RelA ρ b b') : SimS Pg P Same ρ (Op.twoPlaces a b) (Op.twoPlaces a' b') := by
  unfold Op.twoPlaces
  refine SimS.bind (Q := fun _ p q => p.globals.size = P.globals.size ∧ q = P) (.program (.pure ⟨by rw [‹Kin Pg P›.tables], rfl⟩)) fun ρ1 p p' hle hp => ?_
  obtain ⟨h1, h2⟩ := hp
  rw [h1, h2]
  by_cases hc : (a.block != b.block || decide (a.block ≥ P.globals.size)) = true
  · rw [if_pos hc]
    exact .dd (dead_left (dead_unsupported _))
  · rw [if_neg hc]
    simp only [Bool.or_eq_true, bne_iff_ne, ne_eq, decide_eq_true_eq, not_or, Decidable.not_not, Nat.not_le] at hc
    have e1 := h.2.2.2.1 (by rw [hG.size]; exact hc.2)
    have e2 := k.2.2.2.1 (by rw [hG.size, ← hc.1]; exact hc.2)
    have l1 : ρ.lo a.block = 0 := ρ.glo _ (by rw [hG.size]; exact hc.2)
    have l2 : ρ.lo b.block = 0 := ρ.glo _ (by rw [hG.size, ← hc.1]; exact hc.2)
    rw [if_neg (by simp only [Bool.or_eq_true, bne_iff_ne, ne_eq, decide_eq_true_eq, not_or, Decidable.not_not, Nat.not_le, e1, e2]; exact hc)]
    refine (sim_byteOf (h.mono hle) (by rw [hle.lo]; exact l1)).bd fun ρ2 x x' hle2 hx => ?_
    obtain rfl : x = x' := hx
    refine (sim_byteOf ((k.mono hle).mono hle2) (by rw [hle2.lo, hle.lo]; exact l2)).bd fun ρ3 y y' _ hy => ?_
    obtain rfl : y = y' := hy
    exact .pr rfl
theorem sim_addrSub (hG : Fits P ρ) (kd : IntKind) {a a' b b' : Addr} (h : RelA ρ a a') (k : RelA ρ b b') : SimS Pg P RelV ρ (Op.addrSub kd a b) (Op.addrSub kd a' b') := (sim_twoPlaces hG h k).bd fun ρ1 x x' _ hx => by
  obtain rfl : x = x' := hx
  exact .pr (.int _ _)
theorem sim_addrCmp (hG : Fits P ρ) (op : BinOp) {a a' b b' : Addr} (h : RelA ρ a a') (k : RelA ρ b b') : SimS Pg P RelV ρ (Op.addrCmp op a b) (Op.addrCmp op a' b') := (sim_twoPlaces hG h k).bd fun ρ1 x x' _ hx => by
  obtain rfl : x = x' := hx
  cases op <;> first | exact .pr (.bool _) | exact .dd (dead_unsupported _)
theorem sim_addrMod (hG : Fits P ρ) (kd : IntKind) (n : Int) {a a' : Addr} (h : RelA ρ a a') : SimS Pg P RelV ρ (Op.addrMod kd a n) (Op.addrMod kd a' n) := by
  unfold Op.addrMod
  refine (sim_shape h.1).bd fun ρ1 s s' hle hs => ?_
  rcases hs.2 with ⟨h0, rfl⟩ | ⟨hl, m, e', m', rfl, rfl⟩
  case inr => exact .dd (dead_left (dead_noType hG.bog))
  cases s with
  | none => exact .dd (dead_unsupported _)
  | some x =>
    obtain ⟨e, m⟩ := x
    refine (sim_typeInfo e).bd fun ρ2 i i' hle2 hi => ?_
    obtain ⟨rfl, _⟩ := hi
    dsimp only
    split
    · exact .dd (dead_left (dead_unsupported _))
    · refine (sim_byteOf ((h.mono hle).mono hle2) (by rw [hle2.lo, hle.lo]; exact h0)).bd fun ρ3 y y' _ hy => ?_
      obtain rfl : y = y' := hy
      exact .pr (.int _ _)
/-! ### operators -/
theorem sim_intArith (op : BinOp) (k : IntKind) (x y : Int) : SimS Pg P RelV ρ (Op.intArith op k x y) (Op.intArith op k x y) := by
  cases op <;> first | exact .pr (.int _ _) | exact .dd (dead_stuck _)
theorem sim_intDiv (op : BinOp) (k : IntKind) (x y : Int) : SimS Pg P RelV ρ (Op.intDiv op k x y) (Op.intDiv op k x y) := by
  unfold Op.intDiv
  split
  · exact .dd (dead_runtimePanic _)
  · cases op <;> first | exact .pr (.int _ _) | exact .dd (dead_stuck _)
theorem sim_intBits (op : BinOp) (k : IntKind) (x y : Int) : SimS Pg P RelV ρ (Op.intBits op k x y) (Op.intBits op k x y) := by
  cases op <;> first | exact .pr (.int _ _) | exact .dd (dead_stuck _)
theorem sim_intCmp (op : BinOp) (x y : Int) : SimS Pg P RelV ρ (Op.intCmp op x y) (Op.intCmp op x y) := by
  cases op <;> first | exact .pr (.bool _) | exact .dd (dead_stuck _)
theorem sim_shift (op : BinOp) (k k' : IntKind) (x y : Int) : SimS Pg P RelV ρ (Op.shift op k x k' y) (Op.shift op k x k' y) := by
  unfold Op.shift
  split
  · exact .dd (dead_runtimePanic _)
  · cases op <;> first | exact .pr (.int _ _) | exact .dd (dead_stuck _)
theorem sim_stringOp (op : BinOp) (x y : ByteArray) : SimS Pg P RelV ρ (Op.stringOp op x y) (Op.stringOp op x y) := by
  unfold Op.stringOp
  cases op <;> dsimp only <;> first
    | exact .pr (.bool _)
    | exact .dd (dead_stuck _)
    | (split
       · exact .dd (dead_unsupported _)
       · exact .pr (.string _))
theorem binOp_string (op : BinOp) (t : TypeId) (a b : ByteArray) : binOp op t (.string a) (.string b) = Op.stringOp op a b := by cases op <;> rfl
theorem binOp_shl (t : TypeId) (k k' : IntKind) (a b : Int) : binOp .shl t (.int k a) (.int k' b) = Op.shift .shl k a k' b := rfl
theorem binOp_shr (t : TypeId) (k k' : IntKind) (a b : Int) : binOp .shr t (.int k a) (.int k' b) = Op.shift .shr k a k' b := rfl
set_option maxHeartbeats 4000000 in
theorem sim_binOp (hG : Fits P ρ) (op : BinOp) (hop : op ≠ .eql ∧ op ≠ .neq) (t : TypeId) {x x' y y' : Value} (hx : RelV ρ x x') (hy : RelV ρ y y') : SimS Pg P RelV ρ (binOp op t x y) (binOp op t x' y') := by
  have hGl : ∀ {ρ' : Ren}, ρ.le ρ' → Fits P ρ' := fun hle => hG.mono hle
  cases hx with
  | int k a =>
    cases hy with
    | int k' b =>
      cases op
      all_goals first
        | (rw [binOp_shl]; exact sim_shift _ k k' a b)
        | (rw [binOp_shr]; exact sim_shift _ k k' a b)
        | (show SimS Pg P RelV ρ (if k ≠ k' then _ else _) (if k ≠ k' then _ else _)
           split
           · exact .dd (dead_stuck _)
           · first | exact sim_intArith _ k a b | exact sim_intDiv _ k a b | exact sim_intBits _ k a b | exact sim_intCmp _ a b)
    | @ptr b b' h =>
      cases op
      all_goals first
        | exact absurd rfl hop.1
        | exact absurd rfl hop.2
        | exact .dd (dead_stuck _)
        | exact .dd (dead_unsupported _)
        | exact sim_movedNumber hG (.ptr h) (.int k a) t
        | exact (sim_behindNumber h).bd fun ρ' x x' hle hx => sim_addrMod (hG.mono hle) k (a + 1) hx.1
    | ptrNil =>
      cases op
      all_goals first
        | exact absurd rfl hop.1
        | exact absurd rfl hop.2
        | exact .dd (dead_stuck _)
        | exact .dd (dead_unsupported _)
        | exact sim_movedNumber hG .ptrNil (.int k a) t
    | _ =>
      cases op
      all_goals first
        | exact absurd rfl hop.1
        | exact absurd rfl hop.2
        | exact .dd (dead_stuck _)
        | exact .dd (dead_unsupported _)
  | string a =>
    cases hy with
    | string b =>
      rw [binOp_string]
      exact sim_stringOp op a b
    | _ =>
      cases op
      all_goals first
        | exact absurd rfl hop.1
        | exact absurd rfl hop.2
        | exact .dd (dead_stuck _)
        | exact .dd (dead_unsupported _)
  | @ptr a a' h =>
    cases hy with
    | int k n =>
      cases op
      all_goals first
        | exact absurd rfl hop.1
        | exact absurd rfl hop.2
        | exact .dd (dead_stuck _)
        | exact .dd (dead_unsupported _)
        | exact sim_movedNumber hG (.ptr h) (.int k (-n)) t
        | exact (sim_behindNumber h).bd fun ρ' x x' hle hx => sim_addrMod (hG.mono hle) k n hx.1
        | exact (sim_behindNumber h).bd fun ρ' x x' hle hx => sim_addrMod (hG.mono hle) k (n + 1) hx.1
        | (refine (sim_underlying t).bd fun ρ' d d' hle hd => ?_
           obtain rfl : d = d' := hd
           split
           · exact sim_movedPointer (hG.mono hle) ((RelV.ptr h).mono hle) (.int k n) t
           · exact sim_movedNumber (hG.mono hle) ((RelV.ptr h).mono hle) (.int k n) t)
    | @ptr b b' h' =>
      cases op
      all_goals first
        | exact absurd rfl hop.1
        | exact absurd rfl hop.2
        | exact .dd (dead_stuck _)
        | exact .dd (dead_unsupported _)
        | exact (sim_behindNumber h).bd fun ρ' x x' hle hx => (sim_behindNumber (h'.mono hle)).bd fun ρ2 z z' hle2 hz => sim_addrSub (hGl (hle.trans hle2)) .u64 (hx.1.mono hle2) hz.1
        | exact (sim_behindNumber h).bd fun ρ' x x' hle hx => (sim_behindNumber (h'.mono hle)).bd fun ρ2 z z' hle2 hz => sim_addrCmp (hGl (hle.trans hle2)) _ (hx.1.mono hle2) hz.1
    | _ =>
      cases op
      all_goals first
        | exact absurd rfl hop.1
        | exact absurd rfl hop.2
        | exact .dd (dead_stuck _)
        | exact .dd (dead_unsupported _)
  | ptrNil =>
    cases hy with
    | int k n =>
      cases op
      all_goals first
        | exact absurd rfl hop.1
        | exact absurd rfl hop.2
        | exact .dd (dead_stuck _)
        | exact .dd (dead_unsupported _)
        | exact sim_movedNumber hG .ptrNil (.int k (-n)) t
        | (refine (sim_underlying t).bd fun ρ' d d' hle hd => ?_
           obtain rfl : d = d' := hd
           split
           · exact sim_movedPointer (hG.mono hle) .ptrNil (.int k n) t
           · exact sim_movedNumber (hG.mono hle) .ptrNil (.int k n) t)
    | _ =>
      cases op
      all_goals first
        | exact absurd rfl hop.1
        | exact absurd rfl hop.2
        | exact .dd (dead_stuck _)
        | exact .dd (dead_unsupported _)
  | _ =>
    cases hy <;> cases op
    all_goals first
      | exact absurd rfl hop.1
      | exact absurd rfl hop.2
      | exact .dd (dead_stuck _)
      | exact .dd (dead_unsupported _)
end
end Go.Proofs.YtnpffnhiefgglaaGreatDoor
