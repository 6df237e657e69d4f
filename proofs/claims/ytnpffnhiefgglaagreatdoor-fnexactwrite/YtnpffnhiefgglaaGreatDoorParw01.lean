/-
  A part of the proof.
-/
import Derived.Conc.Beside
import GoSem.Dispatch
namespace Go.Proofs.YtnpffnhiefgglaaGreatDoor
open Go Go.Conc
set_option maxRecDepth 100000
def atw (w : World) (τ : Nat → Question → Nat) (d : Nat) : World := { w with tape := τ, drawn := d }
section
variable (w : World) (τ : Nat → Question → Nat) (d : Nat)
theorem atw_cell (a : Addr) : (atw w τ d).cell? a = w.cell? a := rfl
theorem atw_set (a : Addr) (v : Value) : (atw w τ d).setCell a v = atw (w.setCell a v) τ d := rfl
theorem atw_freeze (a : Addr) (n : Nat) : (atw w τ d).freeze a n = atw (w.freeze a n) τ d := by
  unfold World.freeze
  split <;> rfl
theorem atw_seen (P : Program) (a : Addr) (u : TypeId) (k : Addr) (b : Bool) : (atw w τ d).seen P a u k b = w.seen P a u k b := by
  unfold World.seen
  rfl
theorem atw_farLoad (P : Program) (a : Addr) (b : Bool) : (atw w τ d).farLoad P a b = w.farLoad P a b := by
  have h : ∀ x u, (atw w τ d).viewLoad P x u a b = w.viewLoad P x u a b := fun x u => by
    unfold World.viewLoad
    rw [atw_seen]
  unfold World.farLoad
  simp only [h]
  rfl
theorem seen_cells {P : Program} {x : Addr} {u : TypeId} {k : Addr} {b : Bool} {r : Array Value × TypeId × (Nat × Nat) × Nat × Value × List (Nat × Nat × List UInt8)} (h : w.seen P x u k b = .ok r) : x.block < w.heap.size := by
  unfold World.seen at h
  cases hx : w.heap[x.block]? with
  | some o => exact (Array.getElem?_eq_some_iff.1 hx).1
  | none =>
    exfalso
    rw [hx] at h
    simp only [bind, Except.bind] at h
    repeat (first | cases h | split at h)
def Obj.row : Obj → Bool
  | .cells .. => true
  | _ => false
theorem viewStore_form (P : Program) (x : Addr) (u : TypeId) (a : Addr) (v : Value) (b : Bool) : (∃ y, w.viewStore P x u a v b = .error y ∧ ∀ τ d, (atw w τ d).viewStore P x u a v b = .error y) ∨ ∃ c o t, w.viewStore P x u a v b = .ok ({ w with heap := w.heap.setIfInBounds c o }, t) ∧ (∀ τ d, (atw w τ d).viewStore P x u a v b = .ok (atw { w with heap := w.heap.setIfInBounds c o } τ d, t)) ∧ c < w.heap.size ∧ (∀ z ∈ t, z.block = c) ∧ Obj.row o = true := by
  unfold World.viewStore
  simp only [atw_seen]
  by_cases ht : (!tight P P.depth u) = true
  · exact .inl ⟨_, by rw [if_pos ht]; rfl, fun τ d => by rw [if_pos ht]; rfl⟩
  simp only [if_neg ht, bind, Except.bind, pure, Except.pure]
  cases hs : w.seen P x u a b with
  | error y => exact .inl ⟨_, rfl, fun _ _ => rfl⟩
  | ok r =>
    obtain ⟨c, e, frozen, first, like, cells⟩ := r
    have hlt := seen_cells w hs
    simp only
    cases hv : v.bytes? with
    | none => exact .inl ⟨_, rfl, fun _ _ => rfl⟩
    | some bytes =>
      simp only
      by_cases hl : some bytes.length ≠ like.bytes?.map (·.length)
      · exact .inl ⟨_, by rw [if_pos hl]; rfl, fun τ d => by rw [if_pos hl]; rfl⟩
      simp only [if_neg hl]
      split
      · exact .inl ⟨_, rfl, fun _ _ => rfl⟩
      · refine .inr ⟨x.block, _, _, rfl, fun _ _ => rfl, hlt, fun z hz => ?_, rfl⟩
        obtain ⟨q, _, rfl⟩ := List.mem_map.1 hz
        rfl
theorem farStore_form (P : Program) (a : Addr) (v : Value) (b : Bool) : (∃ y, w.farStore P a v b = .error y ∧ ∀ τ d, (atw w τ d).farStore P a v b = .error y) ∨ ∃ c o t, w.farStore P a v b = .ok ({ w with heap := w.heap.setIfInBounds c o }, t) ∧ (∀ τ d, (atw w τ d).farStore P a v b = .ok (atw { w with heap := w.heap.setIfInBounds c o } τ d, t)) ∧ c < w.heap.size ∧ (∀ x ∈ t, x.block = c) ∧ Obj.row o = true := by
  unfold World.farStore
  have e : ∀ τ d, (atw w τ d).heap = w.heap := fun _ _ => rfl
  have e2 : ∀ τ d, (atw w τ d).noCell a "store: no such cell" = w.noCell a "store: no such cell" := fun _ _ => rfl
  simp only [e, e2]
  cases hx : w.heap[a.block]? with
  | none => exact .inl ⟨_, rfl, fun _ _ => rfl⟩
  | some x0 =>
    cases x0
    case view x u =>
      rcases viewStore_form w P x u a v b with ⟨y, h1, h2⟩ | ⟨c, o, t, h1, h2, h3⟩
      · exact .inl ⟨.unsupported (.unsafePointer y), by simp only [h1], fun τ d => by simp only [h2]⟩
      · exact .inr ⟨c, o, t, by simp only [h1], fun τ d => by simp only [h2], h3⟩
    all_goals exact .inl ⟨_, rfl, fun _ _ => rfl⟩
theorem farLoad_low {P : Program} {a : Addr} {b : Bool} {v : Value} {t : List Addr} (h : w.farLoad P a b = .ok (v, t)) : ∀ x ∈ t, x.block < w.heap.size := by
  unfold World.farLoad at h
  split at h
  · rename_i x u hx
    split at h
    · rename_i r hr
      cases h
      unfold World.viewLoad at hr
      cases hs : w.seen P x u a b with
      | error y => rw [hs] at hr; cases hr
      | ok r =>
        obtain ⟨c, e, frozen, first, like, cells⟩ := r
        rw [hs] at hr
        have hlt := seen_cells w hs
        simp only [bind, Except.bind, pure, Except.pure] at hr
        split at hr
        · cases hr
          intro z hz
          obtain ⟨q, _, rfl⟩ := List.mem_map.1 hz
          exact hlt
        · cases hr
    · cases h
  · cases h
end
/-! ### a run -/
def rworld {α : Type} : Result α → World
  | .ok _ w => w
  | .halt _ w => w
def ratw {α : Type} (r : Result α) (τ : Nat → Question → Nat) (d : Nat) : Result α := match r with
  | .ok a w => .ok a (Go.Proofs.YtnpffnhiefgglaaGreatDoor.atw w τ d)
  | .halt h w => .halt h (Go.Proofs.YtnpffnhiefgglaaGreatDoor.atw w τ d)
structure On (w w1 : World) : Prop where
  tape : w1.tape = w.tape
  drawn : w.drawn ≤ w1.drawn
  size : w.heap.size ≤ w1.heap.size
theorem On.refl (w : World) : On w w := ⟨rfl, Nat.le_refl _, Nat.le_refl _⟩
theorem On.trans {a b c : World} (h : On a b) (k : On b c) : On a c := ⟨k.tape.trans h.tape, Nat.le_trans h.drawn k.drawn, Nat.le_trans h.size k.size⟩
theorem On.ask {α : Type} (k : Ask α) : ∀ (w : World), On w (w.ask k).2 := by
  induction k with
  | done a => exact fun w => .refl w
  | ask what range k ih =>
    intro w
    simp only [World.ask]
    split
    · exact ih _ w
    · exact On.trans (⟨rfl, Nat.le_succ _, Nat.le_refl _⟩ : On w { w with drawn := w.drawn + 1 }) (ih _ _)
theorem On.sys (w : World) (c : Sys) : On w (w.sys c).2 := by
  unfold World.sys
  have h := On.ask (Kernel.perform c w.os) w
  split
  · exact .refl w
  · rename_i r os w' hr hx
    rw [hx] at h
    exact ⟨h.tape, h.drawn, h.size⟩
theorem On.run {α : Type} (P : Program) (s : Sem α) : ∀ (w : World) (es : Array Event), On w (rworld (s.runT P w es).1) := by
  induction s with
  | pure a => exact fun w es => .refl w
  | load m a k ih =>
    intro w es
    simp only [Sem.runT]
    split
    · exact ih _ _ _
    · split
      · exact ih _ _ _
      · exact .refl w
  | store m a v k ih =>
    intro w es
    have hset : On w (w.setCell a v) := ⟨rfl, Nat.le_refl _, by simp [World.setCell]⟩
    cases v <;> simp only [Sem.runT]
    all_goals first
      | exact .refl w
      | (split
         · split
           · exact .refl w
           · exact hset.trans (ih _ _)
         · split
           · rename_i w' t hw
             rcases farStore_form w P a _ (m == .atomic) with ⟨y, h1, _⟩ | ⟨c, o, t', h1, _⟩
             · rw [h1] at hw; cases hw
             · rw [h1] at hw
               cases hw
               exact On.trans (b := { w with heap := w.heap.setIfInBounds c o }) ⟨rfl, Nat.le_refl _, by simp⟩ (ih _ _)
           · exact .refl w)
  | new o k ih => exact fun w es => On.trans (b := { w with heap := w.heap.push o }) ⟨rfl, Nat.le_refl _, by simp⟩ (ih _ _ _)
  | shape r k ih => exact fun w es => ih _ _ _
  | freeze a n k ih =>
    intro w es
    refine On.trans (b := w.freeze a n) ?_ (ih _ _)
    unfold World.freeze
    split
    · exact .refl w
    · exact ⟨rfl, Nat.le_refl _, by simp⟩
  | frozen a k ih => exact fun w es => ih _ _ _
  | getObj r k ih =>
    intro w es
    simp only [Sem.runT]
    split
    · exact .refl w
    · exact ih _ _ _
    · exact .refl w
  | setObj r o k ih =>
    intro w es
    simp only [Sem.runT]
    split
    · exact .refl w
    · exact On.trans (b := { w with heap := w.heap.setIfInBounds r o }) ⟨rfl, Nat.le_refl _, by simp⟩ (ih _ _)
    · exact .refl w
  | choose q k ih =>
    intro w es
    simp only [Sem.runT]
    split
    · exact ih _ _ _
    · exact On.trans (b := { w with drawn := w.drawn + 1 }) ⟨rfl, Nat.le_succ _, Nat.le_refl _⟩ (ih _ _ _)
  | sys c k ih => exact fun w es => (On.sys w c).trans (ih _ _ _)
  | program k ih => exact fun w es => ih _ _ _
  | mark m k ih => exact fun w es => ih _ _
  | halt h => exact fun w es => .refl w
def okMark : Mark → Prop
  | .noRoom => True
  | .extern _ => True
  | _ => False
def okHalt : Halt → Bool
  | .panic _ => true
  | .stuck _ => true
  | .unsupported (.initOrder _) => false
  | .unsupported _ => true
  | _ => false
def Hush (P : Program) {α : Type} (Q : α → Prop) : Sem α → Prop
  | .pure a => Q a
  | .load _ _ k => ∀ v, Hush P Q (k v)
  | .store _ _ _ k => Hush P Q k
  | .new _ k => ∀ r, Hush P Q (k r)
  | .shape _ k => ∀ r, Hush P Q (k r)
  | .freeze _ _ k => Hush P Q k
  | .frozen _ k => ∀ b, Hush P Q (k b)
  | .getObj _ k => ∀ o, Hush P Q (k o)
  | .setObj _ _ k => Hush P Q k
  | .choose _ k => ∀ n, Hush P Q (k n)
  | .sys _ _ => False
  | .program k => Hush P Q (k P)
  | .mark m k => okMark m ∧ Hush P Q k
  | .halt y => okHalt y = true
theorem Hush.bind {P : Program} {α β : Type} {Q : α → Prop} {R : β → Prop} {s : Sem α} {f : α → Sem β} (h : Hush P Q s) (hf : ∀ a, Q a → Hush P R (f a)) : Hush P R (s.bind f) := by
  induction s with
  | pure a => exact hf a h
  | load m a k ih => exact fun v => ih v (h v)
  | store m a v k ih => exact ih h
  | new o k ih => exact fun v => ih v (h v)
  | shape r k ih => exact fun v => ih v (h v)
  | freeze a n k ih => exact ih h
  | frozen a k ih => exact fun v => ih v (h v)
  | getObj r k ih => exact fun v => ih v (h v)
  | setObj r o k ih => exact ih h
  | choose q k ih => exact fun v => ih v (h v)
  | sys c k ih => exact h.elim
  | program k ih => exact ih P h
  | mark m k ih => exact ⟨h.1, ih h.2⟩
  | halt y => exact h
theorem run_at {α : Type} (P : Program) {Q : α → Prop} (s : Sem α) : Hush P Q s → ∀ (w : World) (es : Array Event) (τ : Nat → Question → Nat) (d D : Nat), D + w.drawn = d + (rworld (s.runT P w es).1).drawn → (∀ i q, w.drawn + i < (rworld (s.runT P w es).1).drawn → τ (d + i) q = w.tape (w.drawn + i) q) →
    s.runT P (atw w τ d) es = (ratw (s.runT P w es).1 τ D, (s.runT P w es).2) := by
  have now : ∀ {w : World} {d D : Nat}, D + w.drawn = d + w.drawn → D = d := fun h => by omega
  induction s with
  | pure a =>
    intro _ w es τ d D hD _
    simp only [Sem.runT, rworld] at hD ⊢
    obtain rfl := now hD
    rfl
  | load m a k ih =>
    intro hs w es τ d D hD hτ
    simp only [Sem.runT, atw_cell, atw_farLoad] at hD hτ ⊢
    cases hc : w.cell? a with
    | some v =>
      simp only [hc] at hD hτ ⊢
      exact ih v (hs v) w _ τ d D hD hτ
    | none =>
      simp only [hc] at hD hτ ⊢
      cases hf : w.farLoad P a (m == .atomic) with
      | ok r =>
        simp only [hf] at hD hτ ⊢
        exact ih _ (hs _) w _ τ d D hD hτ
      | error y =>
        simp only [hf, rworld] at hD ⊢
        obtain rfl := now hD
        rfl
  | store m a v k ih =>
    intro hs w es τ d D hD hτ
    have hfar := farStore_form w P a v (m == .atomic)
    cases v <;> simp only [Sem.runT, atw_cell, atw_set] at hD hτ ⊢
    all_goals first
      | (simp only [rworld] at hD
         obtain rfl := now hD
         rfl)
      | (cases hc : w.cell? a with
         | some v0 =>
           simp only [hc] at hD hτ ⊢
           by_cases hz : w.frozen? a = true
           · have hz' : (atw w τ d).frozen? a = true := hz
             simp only [if_pos hz, if_pos hz', rworld] at hD ⊢
             obtain rfl := now hD
             rfl
           · have hz' : ¬ (atw w τ d).frozen? a = true := hz
             simp only [if_neg hz, if_neg hz'] at hD hτ ⊢
             exact ih hs (w.setCell a _) _ τ d D hD hτ
         | none =>
           simp only [hc] at hD hτ ⊢
           rcases hfar with ⟨y, h1, h2⟩ | ⟨c, o, t, h1, h2, _⟩
           · simp only [h1, h2, rworld] at hD ⊢
             obtain rfl := now hD
             rfl
           · simp only [h1, h2] at hD hτ ⊢
             exact ih hs { w with heap := w.heap.setIfInBounds c o } _ τ d D hD hτ)
  | new o k ih => exact fun hs w es τ d D hD hτ => ih _ (hs _) { w with heap := w.heap.push o } es τ d D hD hτ
  | shape r k ih => exact fun hs w es τ d D hD hτ => ih _ (hs _) w es τ d D hD hτ
  | freeze a n k ih =>
    intro hs w es τ d D hD hτ
    simp only [Sem.runT, atw_freeze] at hD hτ ⊢
    have e : (w.freeze a n).drawn = w.drawn := by unfold World.freeze; split <;> rfl
    have e2 : (w.freeze a n).tape = w.tape := by unfold World.freeze; split <;> rfl
    exact ih hs (w.freeze a n) es τ d D (by rw [e]; exact hD) (by rw [e, e2]; exact hτ)
  | frozen a k ih => exact fun hs w es τ d D hD hτ => ih _ (hs _) w es τ d D hD hτ
  | getObj r k ih =>
    intro hs w es τ d D hD hτ
    have e : (atw w τ d).heap = w.heap := rfl
    simp only [Sem.runT, e] at hD hτ ⊢
    cases ho : w.heap[r]? with
    | none =>
      simp only [ho, rworld] at hD ⊢
      obtain rfl := now hD
      rfl
    | some o =>
      simp only [ho] at hD hτ ⊢
      cases o <;> simp only at hD hτ ⊢
      all_goals first
        | exact ih _ (hs _) w _ τ d D hD hτ
        | (simp only [rworld] at hD
           obtain rfl := now hD
           rfl)
  | setObj r o k ih =>
    intro hs w es τ d D hD hτ
    have e : (atw w τ d).heap = w.heap := rfl
    simp only [Sem.runT, e] at hD hτ ⊢
    cases ho : w.heap[r]? with
    | none =>
      simp only [ho, rworld] at hD ⊢
      obtain rfl := now hD
      rfl
    | some o' =>
      simp only [ho] at hD hτ ⊢
      cases o' <;> simp only at hD hτ ⊢
      all_goals first
        | exact ih hs { w with heap := w.heap.setIfInBounds r o } _ τ d D hD hτ
        | (simp only [rworld] at hD
           obtain rfl := now hD
           rfl)
  | choose q k ih =>
    intro hs w es τ d D hD hτ
    simp only [Sem.runT] at hD hτ ⊢
    by_cases hf : q.forced = true
    · simp only [if_pos hf] at hD hτ ⊢
      exact ih _ (hs _) w es τ d D hD hτ
    · simp only [if_neg hf] at hD hτ ⊢
      have hlt := (On.run P (k (q.cut (w.tape w.drawn q))) { w with drawn := w.drawn + 1 } es).drawn
      have h0 : (atw w τ d).tape (atw w τ d).drawn q = w.tape w.drawn q := hτ 0 _ (Nat.lt_of_lt_of_le (Nat.lt_succ_self _) hlt)
      rw [h0]
      exact ih _ (hs _) { w with drawn := w.drawn + 1 } es τ (d + 1) D (by show D + (w.drawn + 1) = _; omega) fun i q hi => by
        have := hτ (i + 1) q (by have : w.drawn + 1 + i < _ := hi; omega)
        show τ (d + 1 + i) q = w.tape (w.drawn + 1 + i) q
        rwa [show d + 1 + i = d + (i + 1) by omega, show w.drawn + 1 + i = w.drawn + (i + 1) by omega]
  | sys c k ih => exact fun hs => hs.elim
  | program k ih => exact fun hs w es τ d D hD hτ => ih _ hs w es τ d D hD hτ
  | mark m k ih => exact fun hs w es τ d D hD hτ => ih hs.2 w _ τ d D hD hτ
  | halt y =>
    intro _ w es τ d D hD _
    simp only [Sem.runT, rworld] at hD ⊢
    obtain rfl := now hD
    rfl
abbrev EvO (B : Nat) (e : Event) : Prop := EvL (fun _ => False) B e
theorem evO_cell {B : Nat} {a : Addr} {x y : Bool} (h : a.block < B) : EvO B ⟨.cell a, x, y⟩ := ⟨fun _ _ x => x.elim, fun h => (by cases h), fun h => (by cases h), h⟩
theorem evO_obj {B : Nat} {r : Nat} {x y : Bool} (h : r < B) : EvO B ⟨.obj r, x, y⟩ := ⟨fun _ _ x => x.elim, fun h => (by cases h), fun h => (by cases h), by cases x <;> cases y <;> exact h⟩
theorem evO_mark {B : Nat} {m : Mark} {x y : Bool} (h : okMark m) : EvO B ⟨.mark m, x, y⟩ := by
  cases m
  case noRoom => exact ⟨fun _ _ x => x.elim, fun h => (by cases h), fun h => (by cases h), trivial⟩
  case extern f => exact ⟨fun _ _ x => x.elim, fun h => (by cases h), fun h => (by cases h), trivial⟩
  all_goals exact h.elim
theorem cell_low {w : World} {a : Addr} {v : Value} (h : w.cell? a = some v) : a.block < w.heap.size := by
  unfold World.cell? at h
  cases hx : w.heap[a.block]? with
  | some o => exact (Array.getElem?_eq_some_iff.1 hx).1
  | none => rw [hx] at h; cases h
theorem run_low {α : Type} (P : Program) {Q : α → Prop} (s : Sem α) : Hush P Q s → ∀ (w : World) (es : Array Event), ∀ e ∈ (s.runT P w es).2, e ∈ es ∨ EvO (rworld (s.runT P w es).1).heap.size e := by
  have push : ∀ {es : Array Event} {x e : Event} {B : Nat}, EvO B x → (e ∈ es.push x ∨ EvO B e) → e ∈ es ∨ EvO B e := fun hx h => by
    rcases h with h | h
    · rcases Array.mem_push.1 h with h | rfl
      · exact .inl h
      · exact .inr hx
    · exact .inr h
  have many : ∀ {es : Array Event} {t : List Addr} {f : Addr → Event} {e : Event} {B : Nat}, (∀ x ∈ t, EvO B (f x)) → (e ∈ es ++ t.toArray.map f ∨ EvO B e) → e ∈ es ∨ EvO B e := fun hx h => by
    rcases h with h | h
    · rcases Array.mem_append.1 h with h | h
      · exact .inl h
      · obtain ⟨x, hm, rfl⟩ := Array.mem_map.1 h
        exact .inr (hx x (by simpa using hm))
    · exact .inr h
  induction s with
  | pure a => exact fun _ w es e h => .inl h
  | load m a k ih =>
    intro hs w es e
    simp only [Sem.runT]
    cases hc : w.cell? a with
    | some v =>
      simp only
      exact fun h => push (evO_cell (Nat.lt_of_lt_of_le (cell_low hc) (On.run P (k v) w _).size)) (ih v (hs v) w _ e h)
    | none =>
      simp only
      cases hf : w.farLoad P a (m == .atomic) with
      | ok r =>
        obtain ⟨v, t⟩ := r
        simp only
        exact fun h => many (fun x hx => evO_cell (Nat.lt_of_lt_of_le (farLoad_low w hf x hx) (On.run P (k v) w _).size)) (ih v (hs v) w _ e h)
      | error y => exact fun h => .inl h
  | store m a v k ih =>
    intro hs w es e
    have hfar := farStore_form w P a v (m == .atomic)
    cases v <;> simp only [Sem.runT]
    all_goals first
      | exact fun h => .inl h
      | (cases hc : w.cell? a with
         | some v0 =>
           simp only
           by_cases hz : w.frozen? a = true
           · simp only [if_pos hz]
             exact fun h => .inl h
           · simp only [if_neg hz]
             exact fun h => push (evO_cell (Nat.lt_of_lt_of_le (by simpa [World.setCell] using cell_low hc) (On.run P k (w.setCell a _) _).size)) (ih hs (w.setCell a _) _ e h)
         | none =>
           simp only
           rcases hfar with ⟨y, h1, h2⟩ | ⟨c, o, t, h1, h2, h3, h4, _⟩
           · simp only [h1]
             exact fun h => .inl h
           · simp only [h1]
             exact fun h => many (fun x hx => evO_cell (Nat.lt_of_lt_of_le (by rw [h4 x hx]; simpa using h3) (On.run P k { w with heap := w.heap.setIfInBounds c o } _).size)) (ih hs { w with heap := w.heap.setIfInBounds c o } _ e h))
  | new o k ih => exact fun hs w es e h => ih _ (hs _) { w with heap := w.heap.push o } es e h
  | shape r k ih => exact fun hs w es e h => ih _ (hs _) w es e h
  | freeze a n k ih => exact fun hs w es e h => ih hs (w.freeze a n) es e h
  | frozen a k ih => exact fun hs w es e h => ih _ (hs _) w es e h
  | getObj r k ih =>
    intro hs w es e
    simp only [Sem.runT]
    cases ho : w.heap[r]? with
    | none => exact fun h => .inl h
    | some o =>
      have hlt : r < w.heap.size := (Array.getElem?_eq_some_iff.1 ho).1
      cases o <;> simp only
      all_goals first
        | exact fun h => push (evO_obj (Nat.lt_of_lt_of_le hlt (On.run P _ w _).size)) (ih _ (hs _) w _ e h)
        | exact fun h => .inl h
  | setObj r o k ih =>
    intro hs w es e
    simp only [Sem.runT]
    cases ho : w.heap[r]? with
    | none => exact fun h => .inl h
    | some o' =>
      have hlt : r < w.heap.size := (Array.getElem?_eq_some_iff.1 ho).1
      cases o' <;> simp only
      all_goals first
        | exact fun h => push (evO_obj (Nat.lt_of_lt_of_le (by simpa using hlt) (On.run P k { w with heap := w.heap.setIfInBounds r o } _).size)) (ih hs { w with heap := w.heap.setIfInBounds r o } _ e h)
        | exact fun h => .inl h
  | choose q k ih =>
    intro hs w es e
    simp only [Sem.runT]
    split
    · exact fun h => ih _ (hs _) w es e h
    · exact fun h => ih _ (hs _) { w with drawn := w.drawn + 1 } es e h
  | sys c k ih => exact fun hs => hs.elim
  | program k ih => exact fun hs w es e h => ih _ hs w es e h
  | mark m k ih => exact fun hs w es e h => push (evO_mark hs.1) (ih hs.2 w _ e h)
  | halt y => exact fun _ w es e h => .inl h
/-! ### rows of cells stay such; how a piece stops -/
def CellsTo (G : Nat) (w : World) : Prop := ∀ b, b < G → ∃ o, w.heap[b]? = some o ∧ Obj.row o = true
section
variable {G : Nat} {w : World}
theorem rows_modify (h : CellsTo G w) (i : Nat) (f : Obj → Obj) (hf : ∀ o, Obj.row o = true → Obj.row (f o) = true) : CellsTo G { w with heap := w.heap.modify i f } := fun b hb => by
  obtain ⟨o, h1, h2⟩ := h b hb
  show ∃ o, (w.heap.modify i f)[b]? = some o ∧ _
  rw [Array.getElem?_modify, h1]
  by_cases e : i = b
  · exact ⟨f o, by simp [e], hf o h2⟩
  · exact ⟨o, by simp [e], h2⟩
theorem rows_cell (h : CellsTo G w) (a : Addr) (v : Value) : CellsTo G (w.setCell a v) := rows_modify h _ _ fun o ho => by
  cases o <;> first | rfl | exact ho
theorem rows_freeze (h : CellsTo G w) (a : Addr) (n : Nat) : CellsTo G (w.freeze a n) := by
  unfold World.freeze
  split
  · exact h
  · exact rows_modify h _ _ fun o ho => by cases o <;> first | rfl | exact ho
theorem rows_push (h : CellsTo G w) (o : Obj) : CellsTo G { w with heap := w.heap.push o } := fun b hb => by
  obtain ⟨o', h1, h2⟩ := h b hb
  refine ⟨o', ?_, h2⟩
  have := (Array.getElem?_eq_some_iff.1 h1).1
  show (w.heap.push o)[b]? = _
  rw [Array.getElem?_push_lt this, ← h1]
  exact (Array.getElem?_eq_getElem this).symm
theorem rows_set (h : CellsTo G w) (c : Nat) (o : Obj) (hc : Obj.row o = true ∨ G ≤ c) : CellsTo G { w with heap := w.heap.setIfInBounds c o } := fun b hb => by
  obtain ⟨o', h1, h2⟩ := h b hb
  have hlt := (Array.getElem?_eq_some_iff.1 h1).1
  show ∃ o'', (w.heap.setIfInBounds c o)[b]? = some o'' ∧ _
  by_cases e : c = b
  · subst e
    exact ⟨o, by simp [hlt], hc.elim id fun x => absurd hb (by omega)⟩
  · exact ⟨o', by rw [Array.getElem?_setIfInBounds_ne e]; exact h1, h2⟩
theorem rows_low (h : CellsTo G w) {r : Nat} {o : Obj} (hr : w.heap[r]? = some o) (ho : ¬ Obj.row o = true) : G ≤ r := by
  refine Nat.le_of_not_lt fun hlt => ?_
  obtain ⟨o', h1, h2⟩ := h r hlt
  rw [hr] at h1
  cases h1
  exact ho h2
def StopOk (G : Nat) (y : Halt) : Prop := okHalt y = true ∨ ∃ g, y = .unsupported (.initOrder g) ∧ G ≤ g
theorem noCell_stop (h : CellsTo G w) (a : Addr) (m : String) : StopOk G (w.noCell a m) := by
  unfold World.noCell
  split
  · rename_i c e hx
    exact .inr ⟨_, rfl, rows_low h hx (by simp [Obj.row])⟩
  · exact .inl rfl
  · exact .inl rfl
theorem farLoad_stop {P : Program} (h : CellsTo G w) {a : Addr} {b : Bool} {y : Halt} (hy : w.farLoad P a b = .error y) : StopOk G y := by
  unfold World.farLoad at hy
  split at hy
  · split at hy
    · cases hy
    · cases hy
      exact .inl rfl
  · cases hy
    exact noCell_stop h _ _
theorem farStore_stop {P : Program} (h : CellsTo G w) {a : Addr} {v : Value} {b : Bool} {y : Halt} (hy : w.farStore P a v b = .error y) : StopOk G y := by
  unfold World.farStore at hy
  split at hy
  · split at hy
    · cases hy
    · cases hy
      exact .inl rfl
  · cases hy
    exact noCell_stop h _ _
end
def Comes1 {α : Type} (G : Nat) (Q : α → Prop) (r : Result α) : Prop := CellsTo G (Go.Proofs.YtnpffnhiefgglaaGreatDoor.rworld r) ∧ match r with
  | .ok a _ => Q a
  | .halt y _ => StopOk G y
theorem run_comes {α : Type} (P : Program) {Q : α → Prop} {G : Nat} (s : Sem α) : Hush P Q s → ∀ (w : World) (es : Array Event), CellsTo G w → Comes1 G Q (s.runT P w es).1 := by
  induction s with
  | pure a => exact fun h w es hw => ⟨hw, h⟩
  | load m a k ih =>
    intro hs w es hw
    simp only [Sem.runT]
    split
    · exact ih _ (hs _) _ _ hw
    · split
      · exact ih _ (hs _) _ _ hw
      · exact ⟨hw, farLoad_stop hw (by assumption)⟩
  | store m a v k ih =>
    intro hs w es hw
    cases v <;> simp only [Sem.runT]
    all_goals first
      | exact ⟨hw, .inl rfl⟩
      | (split
         · split
           · exact ⟨hw, .inl rfl⟩
           · exact ih hs _ _ (rows_cell hw _ _)
         · split
           · rename_i w' t hx
             rcases farStore_form w P a _ (m == .atomic) with ⟨y, h1, _⟩ | ⟨c, o, t', h1, _, _, _, h5⟩
             · rw [h1] at hx; cases hx
             · rw [h1] at hx
               cases hx
               exact ih hs _ _ (rows_set hw _ _ (.inl h5))
           · exact ⟨hw, farStore_stop hw (by assumption)⟩)
  | new o k ih => exact fun hs w es hw => ih _ (hs _) _ _ (rows_push hw o)
  | shape r k ih => exact fun hs w es hw => ih _ (hs _) _ _ hw
  | freeze a n k ih => exact fun hs w es hw => ih hs _ _ (rows_freeze hw a n)
  | frozen a k ih => exact fun hs w es hw => ih _ (hs _) _ _ hw
  | getObj r k ih =>
    intro hs w es hw
    simp only [Sem.runT]
    split
    · exact ⟨hw, .inl rfl⟩
    · exact ih _ (hs _) _ _ hw
    · exact ⟨hw, .inl rfl⟩
  | setObj r o k ih =>
    intro hs w es hw
    simp only [Sem.runT]
    split
    · exact ⟨hw, .inl rfl⟩
    · rename_i o' hne hx
      exact ih hs _ _ (rows_set hw _ _ (.inr (rows_low hw hx fun hr => by cases o' <;> first | exact hne _ _ _ rfl | cases hr)))
    · exact ⟨hw, .inl rfl⟩
  | choose q k ih =>
    intro hs w es hw
    simp only [Sem.runT]
    split
    · exact ih _ (hs _) _ _ hw
    · exact ih _ (hs _) _ _ hw
  | sys c k ih => exact fun hs => hs.elim
  | program k ih => exact fun hs w es hw => ih _ hs _ _ hw
  | mark m k ih => exact fun hs w es hw => ih hs.2 _ _ hw
  | halt y => exact fun h w es hw => ⟨hw, .inl h⟩
end Go.Proofs.YtnpffnhiefgglaaGreatDoor
namespace Go.Proofs.YtnpffnhiefgglaaGreatDoor
open Go
set_option maxRecDepth 100000
section
variable {P : Program} {α β : Type} {Q : α → Prop} {R : β → Prop}
abbrev Calm (P : Program) {α : Type} (s : Sem α) : Prop := Hush P (fun _ => True) s
theorem Hush.bd {s : Sem α} {f : α → Sem β} (h : Calm P s) (hf : ∀ a, Hush P R (f a)) : Hush P R (s >>= f) := Hush.bind h fun a _ => hf a
theorem Hush.mp {s : Sem α} {f : α → β} (h : Calm P s) (hf : ∀ a, R (f a)) : Hush P R (f <$> s) := Hush.bind h fun a _ => hf a
theorem hush_pure (a : α) (h : Q a) : Hush P Q (Pure.pure a : Sem α) := h
theorem hush_stuck (m : String) : Hush P Q (stuck m : Sem α) := rfl
theorem hush_panic (v : Value) : Hush P Q (goPanic v : Sem α) := rfl
theorem hush_choose (q : Question) : Calm P (choose q) := fun _ => trivial
theorem hush_load (a : Addr) (m : Mode) : Calm P (load a m) := fun _ => trivial
theorem hush_store (a : Addr) (v : Value) (m : Mode) : Calm P (store a v m) := trivial
theorem hush_new (o : Obj) : Calm P (newObj o) := fun _ => trivial
theorem hush_shape (r : Nat) : Calm P (shape r) := fun _ => trivial
theorem hush_freeze (a : Addr) (n : Nat) : Calm P (freeze a n) := trivial
theorem hush_noRoom : Calm P (mark .noRoom) := ⟨trivial, trivial⟩
theorem hush_prog {f : Program → Sem β} (hf : Hush P R (f P)) : Hush P R (program >>= f) := hf
theorem hush_prog0 : Calm P program := trivial
end
section
variable {P : Program} {α : Type} {Q : α → Prop}
theorem hush_typeInfo (t : TypeId) : Calm P (typeInfo t) := by
  unfold typeInfo
  repeat (first | exact trivial | rfl | assumption | exact hush_prog0 | exact hush_stuck _ | exact hush_panic _ | exact fun _ => trivial | exact ⟨trivial, trivial⟩ | (refine hush_prog ?_) | (refine Hush.bd ?_ fun _ => ?_) | (refine Hush.mp ?_ fun _ => ?_) | (intro _) | split | (dsimp only))
theorem hush_underlying (t : TypeId) : Calm P (underlying t) := by
  unfold underlying
  repeat (first | exact trivial | rfl | assumption | exact hush_prog0 | exact hush_stuck _ | exact hush_panic _ | exact fun _ => trivial | exact ⟨trivial, trivial⟩ | (refine hush_prog ?_) | (refine Hush.bd ?_ fun _ => ?_) | (refine Hush.mp ?_ fun _ => ?_) | (intro _) | split | (dsimp only))
theorem hush_zeroValue (t : TypeId) : Calm P (zeroValue t) := by
  unfold zeroValue
  repeat (first | exact trivial | rfl | assumption | exact hush_typeInfo _ | exact hush_stuck _ | exact hush_panic _ | exact fun _ => trivial | exact ⟨trivial, trivial⟩ | (refine hush_prog ?_) | (refine Hush.bd ?_ fun _ => ?_) | (refine Hush.mp ?_ fun _ => ?_) | (intro _) | split | (dsimp only))
theorem hush_sizeOf (t : TypeId) : Calm P (sizeOf t) := by
  unfold sizeOf
  repeat (first | exact trivial | rfl | assumption | exact hush_typeInfo _ | exact hush_stuck _ | exact hush_panic _ | exact fun _ => trivial | exact ⟨trivial, trivial⟩ | (refine hush_prog ?_) | (refine Hush.bd ?_ fun _ => ?_) | (refine Hush.mp ?_ fun _ => ?_) | (intro _) | split | (dsimp only))
theorem hush_isAgg (t : TypeId) : Calm P (isAgg t) := by
  unfold isAgg
  repeat (first | exact trivial | rfl | assumption | exact hush_underlying _ | exact hush_stuck _ | exact hush_panic _ | exact fun _ => trivial | exact ⟨trivial, trivial⟩ | (refine hush_prog ?_) | (refine Hush.bd ?_ fun _ => ?_) | (refine Hush.mp ?_ fun _ => ?_) | (intro _) | split | (dsimp only))
theorem hush_askRoom (n : Nat) : Calm P (askRoom n) := by
  unfold askRoom
  repeat (first | exact trivial | rfl | assumption | exact hush_noRoom | exact hush_stuck _ | exact hush_panic _ | exact fun _ => trivial | exact ⟨trivial, trivial⟩ | (refine hush_prog ?_) | (refine Hush.bd ?_ fun _ => ?_) | (refine Hush.mp ?_ fun _ => ?_) | (intro _) | split | (dsimp only))
theorem hush_loadCellsFrom (a : Addr) : ∀ (n i : Nat) (acc : Array Value), Calm P (loadCellsFrom a i n acc) := by
  intro n
  induction n with
  | zero => intro i acc; exact trivial
  | succ n ih => intro i acc; exact Hush.bd (hush_load _ _) fun v => ih _ _
theorem hush_loadCells (a : Addr) (n : Nat) : Calm P (loadCells a n) := hush_loadCellsFrom a n 0 #[]
theorem hush_storeCells (a : Addr) : ∀ (l : List Value) (i : Nat), Calm P (storeCells a l i) := by
  intro l
  induction l with
  | nil => intro i; exact trivial
  | cons v l ih => intro i; exact Hush.bd (hush_store _ _ _) fun _ => ih _
theorem hush_loadVar (t : TypeId) (a : Addr) : Calm P (loadVar t a) := by
  unfold loadVar
  repeat (first | exact trivial | rfl | assumption | exact hush_isAgg _ | exact hush_sizeOf _ | exact hush_loadCells _ _ | exact hush_stuck _ | exact hush_panic _ | exact fun _ => trivial | exact ⟨trivial, trivial⟩ | (refine hush_prog ?_) | (refine Hush.bd ?_ fun _ => ?_) | (refine Hush.mp ?_ fun _ => ?_) | (intro _) | split | (dsimp only))
theorem hush_storeVar (t : TypeId) (a : Addr) (v : Value) : Calm P (storeVar t a v) := by
  unfold storeVar
  repeat (first | exact trivial | rfl | assumption | exact hush_sizeOf _ | exact hush_storeCells _ _ _ | exact hush_stuck _ | exact hush_panic _ | exact fun _ => trivial | exact ⟨trivial, trivial⟩ | (refine hush_prog ?_) | (refine Hush.bd ?_ fun _ => ?_) | (refine Hush.mp ?_ fun _ => ?_) | (intro _) | split | (dsimp only))
theorem hush_newRow (t : TypeId) (c : Array Value) : Calm P (newRow t c) := by
  unfold newRow
  repeat (first | exact trivial | rfl | assumption | exact hush_new _ | exact hush_stuck _ | exact hush_panic _ | exact fun _ => trivial | exact ⟨trivial, trivial⟩ | (refine hush_prog ?_) | (refine Hush.bd ?_ fun _ => ?_) | (refine Hush.mp ?_ fun _ => ?_) | (intro _) | split | (dsimp only))
theorem hush_newVar (t : TypeId) (v : Value) : Calm P (newVar t v) := hush_newRow _ _
theorem hush_elemOf (t : TypeId) : Calm P (elemOf t) := by
  unfold elemOf
  repeat (first | exact trivial | rfl | assumption | exact hush_underlying _ | exact hush_stuck _ | exact hush_panic _ | exact fun _ => trivial | exact ⟨trivial, trivial⟩ | (refine hush_prog ?_) | (refine Hush.bd ?_ fun _ => ?_) | (refine Hush.mp ?_ fun _ => ?_) | (intro _) | split | (dsimp only))
theorem hush_part (t : TypeId) (cs : Array Value) (n : Nat) : Calm P (part t cs n) := by
  unfold part
  repeat (first | exact trivial | rfl | assumption | exact hush_isAgg _ | exact hush_sizeOf _ | exact hush_stuck _ | exact hush_panic _ | exact fun _ => trivial | exact ⟨trivial, trivial⟩ | (refine hush_prog ?_) | (refine Hush.bd ?_ fun _ => ?_) | (refine Hush.mp ?_ fun _ => ?_) | (intro _) | split | (dsimp only))
theorem hush_runtimePanic (e : RuntimeError) : Hush P Q (runtimePanic e : Sem α) := by
  unfold runtimePanic
  cases e <;> repeat (first | exact trivial | rfl | assumption | exact hush_newVar _ _ | exact hush_elemOf _ | exact hush_stuck _ | exact hush_panic _ | exact fun _ => trivial | exact ⟨trivial, trivial⟩ | (refine hush_prog ?_) | (refine Hush.bd ?_ fun _ => ?_) | (refine Hush.mp ?_ fun _ => ?_) | (intro _) | split | (dsimp only))
theorem hush_boundsPanic (k : IntKind) (x y : Int) (c : BoundsCode) : Hush P Q (boundsPanic k x y c : Sem α) := by
  unfold boundsPanic
  repeat (first | exact trivial | rfl | assumption | exact hush_runtimePanic _ | exact hush_stuck _ | exact hush_panic _ | exact fun _ => trivial | exact ⟨trivial, trivial⟩ | (refine hush_prog ?_) | (refine Hush.bd ?_ fun _ => ?_) | (refine Hush.mp ?_ fun _ => ?_) | (intro _) | split | (dsimp only))
theorem hush_asIntOf (v : Value) : Calm P (asIntOf v) := by
  unfold asIntOf
  repeat (first | exact trivial | rfl | assumption | exact hush_prog0 | exact hush_stuck _ | exact hush_panic _ | exact fun _ => trivial | exact ⟨trivial, trivial⟩ | (refine hush_prog ?_) | (refine Hush.bd ?_ fun _ => ?_) | (refine Hush.mp ?_ fun _ => ?_) | (intro _) | split | (dsimp only))
theorem hush_asInt (v : Value) : Calm P (asInt v) := by
  unfold asInt
  repeat (first | exact trivial | rfl | assumption | exact hush_asIntOf _ | exact hush_stuck _ | exact hush_panic _ | exact fun _ => trivial | exact ⟨trivial, trivial⟩ | (refine hush_prog ?_) | (refine Hush.bd ?_ fun _ => ?_) | (refine Hush.mp ?_ fun _ => ?_) | (intro _) | split | (dsimp only))
theorem hush_asBool (v : Value) : Calm P (asBool v) := by
  unfold asBool
  repeat (first | exact trivial | rfl | assumption | exact hush_prog0 | exact hush_stuck _ | exact hush_panic _ | exact fun _ => trivial | exact ⟨trivial, trivial⟩ | (refine hush_prog ?_) | (refine Hush.bd ?_ fun _ => ?_) | (refine Hush.mp ?_ fun _ => ?_) | (intro _) | split | (dsimp only))
theorem hush_asAgg (v : Value) : Calm P (asAgg v) := by
  unfold asAgg
  repeat (first | exact trivial | rfl | assumption | exact hush_prog0 | exact hush_stuck _ | exact hush_panic _ | exact fun _ => trivial | exact ⟨trivial, trivial⟩ | (refine hush_prog ?_) | (refine Hush.bd ?_ fun _ => ?_) | (refine Hush.mp ?_ fun _ => ?_) | (intro _) | split | (dsimp only))
theorem hush_asAddr (v : Value) : Calm P (asAddr v) := by
  unfold asAddr
  repeat (first | exact trivial | rfl | assumption | exact hush_runtimePanic _ | exact hush_stuck _ | exact hush_panic _ | exact fun _ => trivial | exact ⟨trivial, trivial⟩ | (refine hush_prog ?_) | (refine Hush.bd ?_ fun _ => ?_) | (refine Hush.mp ?_ fun _ => ?_) | (intro _) | split | (dsimp only))
theorem hush_sureAddr (v : Value) : Calm P (Instr.sureAddr v) := by
  unfold Instr.sureAddr
  repeat (first | exact trivial | rfl | assumption | exact hush_prog0 | exact hush_stuck _ | exact hush_panic _ | exact fun _ => trivial | exact ⟨trivial, trivial⟩ | (refine hush_prog ?_) | (refine Hush.bd ?_ fun _ => ?_) | (refine Hush.mp ?_ fun _ => ?_) | (intro _) | split | (dsimp only))
theorem hush_viewAt (r : Nat) : Calm P (viewAt r) := by
  unfold viewAt
  repeat (first | exact trivial | rfl | assumption | exact hush_shape _ | exact hush_stuck _ | exact hush_panic _ | exact fun _ => trivial | exact ⟨trivial, trivial⟩ | (refine hush_prog ?_) | (refine Hush.bd ?_ fun _ => ?_) | (refine Hush.mp ?_ fun _ => ?_) | (intro _) | split | (dsimp only))
theorem hush_numberAt (r : Nat) : Calm P (numberAt r) := by
  unfold numberAt
  repeat (first | exact trivial | rfl | assumption | exact hush_shape _ | exact hush_stuck _ | exact hush_panic _ | exact fun _ => trivial | exact ⟨trivial, trivial⟩ | (refine hush_prog ?_) | (refine Hush.bd ?_ fun _ => ?_) | (refine Hush.mp ?_ fun _ => ?_) | (intro _) | split | (dsimp only))
theorem hush_behindNumber (n : Addr) : Calm P (behindNumber n) := by
  unfold behindNumber
  repeat (first | exact trivial | rfl | assumption | exact hush_numberAt _ | exact hush_stuck _ | exact hush_panic _ | exact fun _ => trivial | exact ⟨trivial, trivial⟩ | (refine hush_prog ?_) | (refine Hush.bd ?_ fun _ => ?_) | (refine Hush.mp ?_ fun _ => ?_) | (intro _) | split | (dsimp only))
theorem hush_noView (a : Addr) : Calm P (noView a) := by
  unfold noView
  repeat (first | exact trivial | rfl | assumption | exact hush_viewAt _ | exact hush_stuck _ | exact hush_panic _ | exact fun _ => trivial | exact ⟨trivial, trivial⟩ | (refine hush_prog ?_) | (refine Hush.bd ?_ fun _ => ?_) | (refine Hush.mp ?_ fun _ => ?_) | (intro _) | split | (dsimp only))
theorem hush_stringish (a : Addr) : Calm P (stringish a) := by
  unfold stringish
  repeat (first | exact trivial | rfl | assumption | exact hush_shape _ | exact hush_stuck _ | exact hush_panic _ | exact fun _ => trivial | exact ⟨trivial, trivial⟩ | (refine hush_prog ?_) | (refine Hush.bd ?_ fun _ => ?_) | (refine Hush.mp ?_ fun _ => ?_) | (intro _) | split | (dsimp only))
theorem hush_mayBeOne (a b : Addr) : Calm P (mayBeOne a b) := by
  unfold mayBeOne
  repeat (first | exact trivial | rfl | assumption | exact hush_stringish _ | exact hush_stuck _ | exact hush_panic _ | exact fun _ => trivial | exact ⟨trivial, trivial⟩ | (refine hush_prog ?_) | (refine Hush.bd ?_ fun _ => ?_) | (refine Hush.mp ?_ fun _ => ?_) | (intro _) | split | (dsimp only))
theorem hush_sameAddr (a b : Addr) : Calm P (sameAddr a b) := by
  unfold sameAddr
  repeat (first | exact trivial | rfl | assumption | exact hush_noView _ | exact hush_mayBeOne _ _ | exact hush_stuck _ | exact hush_panic _ | exact fun _ => trivial | exact ⟨trivial, trivial⟩ | (refine hush_prog ?_) | (refine Hush.bd ?_ fun _ => ?_) | (refine Hush.mp ?_ fun _ => ?_) | (intro _) | split | (dsimp only))
theorem hush_byteOf (a : Addr) : Calm P (byteOf a) := by
  unfold byteOf
  repeat (first | exact trivial | rfl | assumption | exact hush_noView _ | exact hush_stuck _ | exact hush_panic _ | exact fun _ => trivial | exact ⟨trivial, trivial⟩ | (refine hush_prog ?_) | (refine Hush.bd ?_ fun _ => ?_) | (refine Hush.mp ?_ fun _ => ?_) | (intro _) | split | (dsimp only))
/-! ### the operations -/
theorem hush_alloc (t : TypeId) (h : Bool) (v : Value) : Calm P (Instr.alloc t h v) := by
  unfold Instr.alloc
  repeat (first | exact trivial | rfl | assumption | exact hush_zeroValue _ | exact hush_storeVar _ _ _ | exact hush_newVar _ _ | exact hush_stuck _ | exact hush_panic _ | exact fun _ => trivial | exact ⟨trivial, trivial⟩ | (refine hush_prog ?_) | (refine Hush.bd ?_ fun _ => ?_) | (refine Hush.mp ?_ fun _ => ?_) | (intro _) | split | (dsimp only))
theorem hush_box (t : TypeId) (v : Value) : Calm P (Instr.box t v) := by
  unfold Instr.box
  repeat (first | exact trivial | rfl | assumption | exact hush_newVar _ _ | exact hush_stuck _ | exact hush_panic _ | exact fun _ => trivial | exact ⟨trivial, trivial⟩ | (refine hush_prog ?_) | (refine Hush.bd ?_ fun _ => ?_) | (refine Hush.mp ?_ fun _ => ?_) | (intro _) | split | (dsimp only))
theorem hush_loadAt (t : TypeId) (v : Value) : Calm P (Instr.loadAt t v) := by
  unfold Instr.loadAt
  repeat (first | exact trivial | rfl | assumption | exact hush_sureAddr _ | exact hush_loadVar _ _ | exact hush_stuck _ | exact hush_panic _ | exact fun _ => trivial | exact ⟨trivial, trivial⟩ | (refine hush_prog ?_) | (refine Hush.bd ?_ fun _ => ?_) | (refine Hush.mp ?_ fun _ => ?_) | (intro _) | split | (dsimp only))
theorem hush_storeAt (t : TypeId) (v x : Value) : Calm P (Instr.storeAt t v x) := by
  unfold Instr.storeAt
  repeat (first | exact trivial | rfl | assumption | exact hush_sureAddr _ | exact hush_storeVar _ _ _ | exact hush_stuck _ | exact hush_panic _ | exact fun _ => trivial | exact ⟨trivial, trivial⟩ | (refine hush_prog ?_) | (refine Hush.bd ?_ fun _ => ?_) | (refine Hush.mp ?_ fun _ => ?_) | (intro _) | split | (dsimp only))
theorem hush_buildSlice (t : TypeId) (n : Nat) (p : Array (Nat × Value)) : Calm P (Instr.buildSlice t n p) := by
  unfold Instr.buildSlice
  repeat (first | exact trivial | rfl | assumption | exact hush_underlying _ | exact hush_sizeOf _ | exact hush_zeroValue _ | exact hush_newRow _ _ | exact hush_stuck _ | exact hush_panic _ | exact fun _ => trivial | exact ⟨trivial, trivial⟩ | (refine hush_prog ?_) | (refine Hush.bd ?_ fun _ => ?_) | (refine Hush.mp ?_ fun _ => ?_) | (intro _) | split | (dsimp only))
theorem hush_indexAt (t : TypeId) (x i : Value) : Calm P (Instr.indexAt t x i) := by
  unfold Instr.indexAt
  repeat (first | exact trivial | rfl | assumption | exact hush_underlying _ | exact hush_sizeOf _ | exact hush_asIntOf _ | exact hush_sureAddr _ | exact hush_boundsPanic _ _ _ _ | exact hush_stuck _ | exact hush_panic _ | exact fun _ => trivial | exact ⟨trivial, trivial⟩ | (refine hush_prog ?_) | (refine Hush.bd ?_ fun _ => ?_) | (refine Hush.mp ?_ fun _ => ?_) | (intro _) | split | (dsimp only))
theorem hush_sliceBound (x : Value) (y : Nat) (c : BoundsCode) : Calm P (Instr.sliceBound x y c) := by
  unfold Instr.sliceBound
  repeat (first | exact trivial | rfl | assumption | exact hush_asIntOf _ | exact hush_boundsPanic _ _ _ _ | exact hush_stuck _ | exact hush_panic _ | exact fun _ => trivial | exact ⟨trivial, trivial⟩ | (refine hush_prog ?_) | (refine Hush.bd ?_ fun _ => ?_) | (refine Hush.mp ?_ fun _ => ?_) | (intro _) | split | (dsimp only))
theorem hush_sliceBounds (b : Bool) (n c : Nat) (l h m : Option Value) : Calm P (Instr.sliceBounds b n c l h m) := by
  unfold Instr.sliceBounds
  repeat (first | exact trivial | rfl | assumption | exact hush_sliceBound _ _ _ | exact hush_stuck _ | exact hush_panic _ | exact fun _ => trivial | exact ⟨trivial, trivial⟩ | (refine hush_prog ?_) | (refine Hush.bd ?_ fun _ => ?_) | (refine Hush.mp ?_ fun _ => ?_) | (intro _) | split | (dsimp only))
theorem hush_slice (t : TypeId) (x : Value) (l h m : Option Value) : Calm P (Instr.slice t x l h m) := by
  unfold Instr.slice
  repeat (first | exact trivial | rfl | assumption | exact hush_underlying _ | exact hush_sliceBounds _ _ _ _ _ _ | exact hush_sizeOf _ | exact hush_asAddr _ | exact hush_stuck _ | exact hush_panic _ | exact fun _ => trivial | exact ⟨trivial, trivial⟩ | (refine hush_prog ?_) | (refine Hush.bd ?_ fun _ => ?_) | (refine Hush.mp ?_ fun _ => ?_) | (intro _) | split | (dsimp only))
theorem hush_sliceAt (t : TypeId) (x : Value) (l h m : Option Value) : Calm P (Instr.sliceAt t x l h m) := by
  unfold Instr.sliceAt
  repeat (first | exact trivial | rfl | assumption | exact hush_underlying _ | exact hush_sliceBounds _ _ _ _ _ _ | exact hush_sizeOf _ | exact hush_sureAddr _ | exact hush_slice _ _ _ _ _ | exact hush_stuck _ | exact hush_panic _ | exact fun _ => trivial | exact ⟨trivial, trivial⟩ | (refine hush_prog ?_) | (refine Hush.bd ?_ fun _ => ?_) | (refine Hush.mp ?_ fun _ => ?_) | (intro _) | split | (dsimp only))
theorem hush_arrayAt (t : TypeId) (x : Value) : Calm P (Instr.arrayAt t x) := by
  unfold Instr.arrayAt
  repeat (first | exact trivial | rfl | assumption | exact hush_underlying _ | exact hush_runtimePanic _ | exact hush_stuck _ | exact hush_panic _ | exact fun _ => trivial | exact ⟨trivial, trivial⟩ | (refine hush_prog ?_) | (refine Hush.bd ?_ fun _ => ?_) | (refine Hush.mp ?_ fun _ => ?_) | (intro _) | split | (dsimp only))
theorem hush_makeInterface (t : TypeId) (x : Value) : Calm P (Instr.makeInterface t x) := by
  unfold Instr.makeInterface
  repeat (first | exact trivial | rfl | assumption | exact hush_underlying _ | exact hush_stuck _ | exact hush_panic _ | exact fun _ => trivial | exact ⟨trivial, trivial⟩ | (refine hush_prog ?_) | (refine Hush.bd ?_ fun _ => ?_) | (refine Hush.mp ?_ fun _ => ?_) | (intro _) | split | (dsimp only))
theorem hush_makeSlice (t : TypeId) (l c : Value) : Calm P (Instr.makeSlice t l c) := by
  unfold Instr.makeSlice
  repeat (first | exact trivial | rfl | assumption | exact hush_underlying _ | exact hush_asInt _ | exact hush_typeInfo _ | exact hush_runtimePanic _ | exact hush_askRoom _ | exact hush_sizeOf _ | exact hush_zeroValue _ | exact hush_newRow _ _ | exact hush_stuck _ | exact hush_panic _ | exact fun _ => trivial | exact ⟨trivial, trivial⟩ | (refine hush_prog ?_) | (refine Hush.bd ?_ fun _ => ?_) | (refine Hush.mp ?_ fun _ => ?_) | (intro _) | split | (dsimp only))
theorem hush_index (t : TypeId) (x i : Value) : Calm P (Instr.index t x i) := by
  unfold Instr.index
  repeat (first | exact trivial | rfl | assumption | exact hush_underlying _ | exact hush_asIntOf _ | exact hush_sizeOf _ | exact hush_part _ _ _ | exact hush_boundsPanic _ _ _ _ | exact hush_stuck _ | exact hush_panic _ | exact fun _ => trivial | exact ⟨trivial, trivial⟩ | (refine hush_prog ?_) | (refine Hush.bd ?_ fun _ => ?_) | (refine Hush.mp ?_ fun _ => ?_) | (intro _) | split | (dsimp only))
theorem hush_field (t : TypeId) (x : Value) (n : Nat) : Calm P (Instr.field t x n) := by
  unfold Instr.field
  repeat (first | exact trivial | rfl | assumption | exact hush_underlying _ | exact hush_asAgg _ | exact hush_part _ _ _ | exact hush_stuck _ | exact hush_panic _ | exact fun _ => trivial | exact ⟨trivial, trivial⟩ | (refine hush_prog ?_) | (refine Hush.bd ?_ fun _ => ?_) | (refine Hush.mp ?_ fun _ => ?_) | (intro _) | split | (dsimp only))
theorem hush_extract (x : Value) (n : Nat) : Calm P (Instr.extract x n) := by
  unfold Instr.extract
  repeat (first | exact trivial | rfl | assumption | exact hush_prog0 | exact hush_stuck _ | exact hush_panic _ | exact fun _ => trivial | exact ⟨trivial, trivial⟩ | (refine hush_prog ?_) | (refine Hush.bd ?_ fun _ => ?_) | (refine Hush.mp ?_ fun _ => ?_) | (intro _) | split | (dsimp only))
end
theorem hush_und {P : Program} {β : Type} {R : β → Prop} {t : TypeId} {f : TypeDesc → Sem β} (h : ∀ d, P.underlying t = some d → Hush P R (f d)) : Hush P R (underlying t >>= f) := by
  unfold underlying
  show Hush P R ((match P.underlying t with | some d => Sem.pure d | none => stuck "no such type" : Sem TypeDesc).bind f)
  cases hu : P.underlying t with
  | none => exact rfl
  | some d => exact h d hu
theorem hush_ite {P : Program} {α : Type} {Q : α → Prop} {c : Prop} [Decidable c] {a b : Sem α} (ha : Hush P Q a) (hb : Hush P Q b) : Hush P Q (if c then a else b) := by
  by_cases h : c
  · rw [if_pos h]; exact ha
  · rw [if_neg h]; exact hb
section
variable {P : Program} {α β : Type} {Q : α → Prop}
theorem hush_listM {γ : Type} (f : γ → Sem β) (l : List γ) (h : ∀ x, Calm P (f x)) : Calm P (l.mapM f) := by
  induction l with
  | nil => exact trivial
  | cons x l ih =>
    rw [List.mapM_cons]
    exact Hush.bd (h x) fun _ => Hush.bd ih fun _ => trivial
theorem hush_arrayM {γ : Type} (f : γ → Sem β) (l : Array γ) (h : ∀ x, Calm P (f x)) : Calm P (l.mapM f) := by
  rw [Array.mapM_eq_mapM_toList]
  exact Hush.mp (hush_listM f _ h) fun _ => trivial
theorem hush_foldM {γ : Type} (f : β → γ → Sem β) (l : List γ) (h : ∀ b x, Calm P (f b x)) : ∀ b, Calm P (l.foldlM f b) := by
  induction l with
  | nil => exact fun b => trivial
  | cons x l ih =>
    intro b
    rw [List.foldlM_cons]
    exact Hush.bd (h b x) fun _ => ih _
theorem hush_partAt (a : Addr) (c b : Nat) : Calm P (partAt a c b) := by
  unfold partAt
  refine Hush.bd (hush_byteOf _) fun n => Hush.bd (hush_byteOf _) fun _ => trivial
theorem hush_fieldPlace (a : Addr) (f : Field) : Calm P (fieldPlace a f) := by
  unfold fieldPlace
  repeat (first | exact trivial | rfl | assumption | exact hush_sizeOf _ | exact hush_partAt _ _ _ | exact hush_stuck _ | exact hush_panic _ | exact fun _ => trivial | exact ⟨trivial, trivial⟩ | (refine hush_prog ?_) | (refine Hush.bd ?_ fun _ => ?_) | (refine Hush.mp ?_ fun _ => ?_) | (refine hush_ite ?_ ?_) | (intro _) | split | (dsimp only))
theorem hush_fieldAt (t : TypeId) (x : Value) (n : Nat) : Calm P (Instr.fieldAt t x n) := by
  unfold Instr.fieldAt
  repeat (first | exact trivial | rfl | assumption | exact hush_underlying _ | exact hush_sureAddr _ | exact hush_fieldPlace _ _ | exact hush_stuck _ | exact hush_panic _ | exact fun _ => trivial | exact ⟨trivial, trivial⟩ | (refine hush_prog ?_) | (refine Hush.bd ?_ fun _ => ?_) | (refine Hush.mp ?_ fun _ => ?_) | (refine hush_ite ?_ ?_) | (intro _) | split | (dsimp only))
theorem hush_build (t : TypeId) (p : Array (Nat × Value)) : Calm P (Instr.build t p) := by
  have h : ∀ f : Field, Calm P (do pure (f.offset, ← sizeOf f.type) : Sem (Nat × Nat)) := fun f => Hush.bd (hush_sizeOf _) fun _ => trivial
  unfold Instr.build
  repeat (first | exact trivial | rfl | assumption | exact hush_underlying _ | exact hush_zeroValue _ | exact hush_sizeOf _ | exact hush_arrayM _ _ h | exact hush_stuck _ | exact hush_panic _ | exact fun _ => trivial | exact ⟨trivial, trivial⟩ | (refine hush_prog ?_) | (refine Hush.bd ?_ fun _ => ?_) | (refine Hush.mp ?_ fun _ => ?_) | (refine hush_ite ?_ ?_) | (intro _) | split | (dsimp only))
/-! ### builtins -/
theorem hush_holdsCells (a : Addr) (n : Nat) : Calm P (Builtin.holdsCells a n) := by
  unfold Builtin.holdsCells
  repeat (first | exact trivial | rfl | assumption | exact hush_shape _ | exact hush_stuck _ | exact hush_panic _ | exact fun _ => trivial | exact ⟨trivial, trivial⟩ | (refine hush_prog ?_) | (refine Hush.bd ?_ fun _ => ?_) | (refine Hush.mp ?_ fun _ => ?_) | (refine hush_ite ?_ ?_) | (intro _) | split | (dsimp only))
theorem hush_mayShare (s l n : Nat) (b : Option Addr) (x : Value) : Calm P (Builtin.mayShare s l n b x) := by
  unfold Builtin.mayShare
  repeat (first | exact trivial | rfl | assumption | exact hush_holdsCells _ _ | exact hush_stuck _ | exact hush_panic _ | exact fun _ => trivial | exact ⟨trivial, trivial⟩ | (refine hush_prog ?_) | (refine Hush.bd ?_ fun _ => ?_) | (refine Hush.mp ?_ fun _ => ?_) | (refine hush_ite ?_ ?_) | (intro _) | split | (dsimp only))
theorem hush_lenOf (x : Value) : Calm P (Builtin.lenOf x) := by
  unfold Builtin.lenOf
  repeat (first | exact trivial | rfl | assumption | exact hush_prog0 | exact hush_stuck _ | exact hush_panic _ | exact fun _ => trivial | exact ⟨trivial, trivial⟩ | (refine hush_prog ?_) | (refine Hush.bd ?_ fun _ => ?_) | (refine Hush.mp ?_ fun _ => ?_) | (refine hush_ite ?_ ?_) | (intro _) | split | (dsimp only))
theorem hush_firstCells (s n : Nat) (x : Value) : Calm P (Builtin.firstCells s n x) := by
  unfold Builtin.firstCells
  repeat (first | exact trivial | rfl | assumption | exact hush_loadCells _ _ | exact hush_stuck _ | exact hush_panic _ | exact fun _ => trivial | exact ⟨trivial, trivial⟩ | (refine hush_prog ?_) | (refine Hush.bd ?_ fun _ => ?_) | (refine Hush.mp ?_ fun _ => ?_) | (refine hush_ite ?_ ?_) | (intro _) | split | (dsimp only))
theorem hush_len (a : Array TypeId) (t : TypeId) (x : Array Value) : Calm P (Builtin.len_ a t x) := by
  unfold Builtin.len_
  repeat (first | exact trivial | rfl | assumption | exact hush_underlying _ | exact hush_stuck _ | exact hush_panic _ | exact fun _ => trivial | exact ⟨trivial, trivial⟩ | (refine hush_prog ?_) | (refine Hush.bd ?_ fun _ => ?_) | (refine Hush.mp ?_ fun _ => ?_) | (refine hush_ite ?_ ?_) | (intro _) | split | (dsimp only))
theorem hush_cap (a : Array TypeId) (t : TypeId) (x : Array Value) : Calm P (Builtin.cap_ a t x) := by
  unfold Builtin.cap_
  repeat (first | exact trivial | rfl | assumption | exact hush_underlying _ | exact hush_stuck _ | exact hush_panic _ | exact fun _ => trivial | exact ⟨trivial, trivial⟩ | (refine hush_prog ?_) | (refine Hush.bd ?_ fun _ => ?_) | (refine Hush.mp ?_ fun _ => ?_) | (refine hush_ite ?_ ?_) | (intro _) | split | (dsimp only))
theorem hush_clear (a : Array TypeId) (t : TypeId) (x : Array Value) : Calm P (Builtin.clear_ a t x) := by
  unfold Builtin.clear_
  repeat (first | exact trivial | rfl | assumption | exact hush_underlying _ | exact hush_zeroValue _ | exact hush_storeCells _ _ _ | exact hush_stuck _ | exact hush_panic _ | exact fun _ => trivial | exact ⟨trivial, trivial⟩ | (refine hush_prog ?_) | (refine Hush.bd ?_ fun _ => ?_) | (refine Hush.mp ?_ fun _ => ?_) | (refine hush_ite ?_ ?_) | (intro _) | split | (dsimp only))
theorem hush_stringOp (op : BinOp) (x y : ByteArray) : Calm P (Op.stringOp op x y) := by
  unfold Op.stringOp
  cases op <;> repeat (first | exact trivial | rfl | assumption | exact hush_prog0 | exact hush_stuck _ | exact hush_panic _ | exact fun _ => trivial | exact ⟨trivial, trivial⟩ | (refine hush_prog ?_) | (refine Hush.bd ?_ fun _ => ?_) | (refine Hush.mp ?_ fun _ => ?_) | (refine hush_ite ?_ ?_) | (intro _) | split | (dsimp only))
theorem hush_min2 (x y : Value) : Calm P (Builtin.min2 x y) := by
  unfold Builtin.min2
  repeat (first | exact trivial | rfl | assumption | exact hush_stringOp _ _ _ | exact hush_asBool _ | exact hush_stuck _ | exact hush_panic _ | exact fun _ => trivial | exact ⟨trivial, trivial⟩ | (refine hush_prog ?_) | (refine Hush.bd ?_ fun _ => ?_) | (refine Hush.mp ?_ fun _ => ?_) | (refine hush_ite ?_ ?_) | (intro _) | split | (dsimp only))
theorem hush_min (a : Array TypeId) (t : TypeId) (x : Array Value) : Calm P (Builtin.min_ a t x) := by
  unfold Builtin.min_
  split
  · rfl
  · exact hush_foldM _ _ (fun b x => hush_min2 b x) _
theorem hush_max2 (x y : Value) : Calm P (Builtin.max2 x y) := by
  unfold Builtin.max2
  repeat (first | exact trivial | rfl | assumption | exact hush_stringOp _ _ _ | exact hush_asBool _ | exact hush_stuck _ | exact hush_panic _ | exact fun _ => trivial | exact ⟨trivial, trivial⟩ | (refine hush_prog ?_) | (refine Hush.bd ?_ fun _ => ?_) | (refine Hush.mp ?_ fun _ => ?_) | (refine hush_ite ?_ ?_) | (intro _) | split | (dsimp only))
theorem hush_max (a : Array TypeId) (t : TypeId) (x : Array Value) : Calm P (Builtin.max_ a t x) := by
  unfold Builtin.max_
  split
  · rfl
  · exact hush_foldM _ _ (fun b x => hush_max2 b x) _
theorem hush_copy (a : Array TypeId) (t : TypeId) (x : Array Value) : Calm P (Builtin.copy_ a t x) := by
  unfold Builtin.copy_
  repeat (first | exact trivial | rfl | assumption | exact hush_underlying _ | exact hush_lenOf _ | exact hush_sizeOf _ | exact hush_firstCells _ _ _ | exact hush_storeCells _ _ _ | exact hush_stuck _ | exact hush_panic _ | exact fun _ => trivial | exact ⟨trivial, trivial⟩ | (refine hush_prog ?_) | (refine Hush.bd ?_ fun _ => ?_) | (refine Hush.mp ?_ fun _ => ?_) | (refine hush_ite ?_ ?_) | (intro _) | split | (dsimp only))
/-! ### operators -/
theorem hush_intArith (op : BinOp) (k : IntKind) (x y : Int) : Calm P (Op.intArith op k x y) := by
  unfold Op.intArith
  cases op <;> repeat (first | exact trivial | rfl | assumption | exact hush_prog0 | exact hush_stuck _ | exact hush_panic _ | exact fun _ => trivial | exact ⟨trivial, trivial⟩ | (refine hush_prog ?_) | (refine Hush.bd ?_ fun _ => ?_) | (refine Hush.mp ?_ fun _ => ?_) | (refine hush_ite ?_ ?_) | (intro _) | split | (dsimp only))
theorem hush_intDiv (op : BinOp) (k : IntKind) (x y : Int) : Calm P (Op.intDiv op k x y) := by
  unfold Op.intDiv
  cases op <;> repeat (first | exact trivial | rfl | assumption | exact hush_runtimePanic _ | exact hush_stuck _ | exact hush_panic _ | exact fun _ => trivial | exact ⟨trivial, trivial⟩ | (refine hush_prog ?_) | (refine Hush.bd ?_ fun _ => ?_) | (refine Hush.mp ?_ fun _ => ?_) | (refine hush_ite ?_ ?_) | (intro _) | split | (dsimp only))
theorem hush_intBits (op : BinOp) (k : IntKind) (x y : Int) : Calm P (Op.intBits op k x y) := by
  unfold Op.intBits
  cases op <;> dsimp only <;> first | exact hush_stuck _ | exact hush_pure _ trivial
theorem hush_shift (op : BinOp) (k j : IntKind) (x y : Int) : Calm P (Op.shift op k x j y) := by
  unfold Op.shift
  refine hush_ite (hush_runtimePanic _) ?_
  cases op <;> dsimp only <;> first | exact hush_stuck _ | exact hush_pure _ trivial
theorem hush_intCmp (op : BinOp) (x y : Int) : Calm P (Op.intCmp op x y) := by
  unfold Op.intCmp
  cases op <;> repeat (first | exact trivial | rfl | assumption | exact hush_prog0 | exact hush_stuck _ | exact hush_panic _ | exact fun _ => trivial | exact ⟨trivial, trivial⟩ | (refine hush_prog ?_) | (refine Hush.bd ?_ fun _ => ?_) | (refine Hush.mp ?_ fun _ => ?_) | (refine hush_ite ?_ ?_) | (intro _) | split | (dsimp only))
theorem hush_unary (op : UnOp) (x : Value) : Calm P (Op.unary op x) := by
  unfold Op.unary
  repeat (first | exact trivial | rfl | assumption | exact hush_intArith _ _ _ _ | exact hush_intBits _ _ _ _ | exact hush_stuck _ | exact hush_panic _ | exact fun _ => trivial | exact ⟨trivial, trivial⟩ | (refine hush_prog ?_) | (refine Hush.bd ?_ fun _ => ?_) | (refine Hush.mp ?_ fun _ => ?_) | (refine hush_ite ?_ ?_) | (intro _) | split | (dsimp only))
theorem hush_guardNot (t : TypeId) {op : BinOp} (h : op ≠ .eql ∧ op ≠ .neq) (x y : Operand) (a b : Value) : Calm P (eqGuard op t x y a b) := by
  unfold eqGuard
  cases op <;> first | exact absurd rfl h.1 | exact absurd rfl h.2 | exact trivial
end
end Go.Proofs.YtnpffnhiefgglaaGreatDoor
namespace Go.Proofs.YtnpffnhiefgglaaGreatDoor
open Go
set_option maxRecDepth 100000
set_option maxHeartbeats 4000000
section
variable {P : Program} {α β : Type} {Q : α → Prop}
theorem hush_boom {α β : Type} {R : β → Prop} (e : RuntimeError) (f : α → Sem β) : Hush P R ((runtimePanic e : Sem α) >>= f) := Hush.bind (Q := fun _ => False) (hush_runtimePanic e) fun _ h => h.elim
theorem hush_append (a : Array TypeId) (t : TypeId) (x : Array Value) : Calm P (Builtin.append_ a t x) := by
  unfold Builtin.append_
  cases a[0]? with
  | none => exact rfl
  | some st =>
    cases x[0]? with
    | none => exact rfl
    | some s =>
      cases x[1]? with
      | none => exact rfl
      | some v =>
        dsimp only
        refine Hush.bd (hush_underlying _) fun d => ?_
        cases d
        case slice elem =>
          dsimp only
          cases s
          case slice base sl sc =>
            dsimp only
            refine Hush.bd (hush_sizeOf _) fun size => ?_
            have first : ∀ (zeros : Bool) n, Calm P (if (!zeros) = true then Builtin.firstCells size n v else if n * size = 0 then Pure.pure #[] else do let z ← zeroValue elem; Pure.pure (Builtin.zeroCells z.cells n) : Sem (Array Value)) := fun zeros n => hush_ite (hush_firstCells _ _ _) (hush_ite trivial (Hush.bd (hush_zeroValue _) fun _ => trivial))
            cases a[1]? with
            | none =>
              dsimp only
              refine Hush.bd (hush_pure _ trivial) fun zeros => ?_
              repeat (first | exact trivial | rfl | assumption | exact hush_boom _ _ | exact first _ _ | exact hush_asInt _ | exact hush_runtimePanic _ | exact hush_typeInfo _ | exact hush_lenOf _ | exact hush_firstCells _ _ _ | exact hush_zeroValue _ | exact hush_storeCells _ _ _ | exact hush_mayShare _ _ _ _ _ | exact hush_askRoom _ | exact hush_newRow _ _ | exact hush_stuck _ | exact hush_panic _ | exact fun _ => trivial | exact ⟨trivial, trivial⟩ | (refine hush_prog ?_) | (refine Hush.bd ?_ fun _ => ?_) | (refine Hush.mp ?_ fun _ => ?_) | (refine hush_ite ?_ ?_) | (intro _) | split | (dsimp only))
            | some u =>
              dsimp only
              refine Hush.bd (hush_underlying _) fun _ => Hush.bd (hush_pure _ trivial) fun zeros => ?_
              repeat (first | exact trivial | rfl | assumption | exact hush_boom _ _ | exact first _ _ | exact hush_asInt _ | exact hush_runtimePanic _ | exact hush_typeInfo _ | exact hush_lenOf _ | exact hush_firstCells _ _ _ | exact hush_zeroValue _ | exact hush_storeCells _ _ _ | exact hush_mayShare _ _ _ _ _ | exact hush_askRoom _ | exact hush_newRow _ _ | exact hush_stuck _ | exact hush_panic _ | exact fun _ => trivial | exact ⟨trivial, trivial⟩ | (refine hush_prog ?_) | (refine Hush.bd ?_ fun _ => ?_) | (refine Hush.mp ?_ fun _ => ?_) | (refine hush_ite ?_ ?_) | (intro _) | split | (dsimp only))
          all_goals exact rfl
        all_goals exact rfl
end
end Go.Proofs.YtnpffnhiefgglaaGreatDoor
